/- Package term's gatherer: what is told of a part where nothing is told yet: of one with no kids. Condition: of the sorter's cells. Package term's gatherer: what its closure does at a part's turn: enter, then the part's own turn again and its kids'. Condition: of sizes. -/
import Derived.Test.YtlikpnaffpngiaaGreatDoorSTell
set_option linter.unusedVariables false
set_option linter.unusedSimpArgs false
namespace Go.Proofs.YtlikpnaffpngiaaGreatDoor
open Go.RowKit

set_option maxRecDepth 100000 in
set_option maxHeartbeats 6400000 in
theorem tell_none {w : World} {B gs bg bl : Nat} {vw vD vS : Value} {D : List DtT} {S : List (ByteArray × ByteArray)} {ad : Addr} {t : Tm} (h : TellIn w B gs bg bl vw (.slice none 0 0) vD vS [] D S) (hp : PtrTm w ad t) (hk0 : t.kids = []) (h78 : t.kind = 7 ∨ t.kind = 8 → t.kids ≠ []) :
    Calls Tryz.prog 72 #[.pointer (some ad), .pointer (some ⟨bg, 0, none⟩), .pointer (some ⟨bl, 0, none⟩)] w fun e w' => Thrown (fun m w' => m ≠ 0 ∧ lvK D S t.kind t.name [] = none ∧ Below w.heap.size w w') e w' ∨ ((∃ u, e = .returned u) ∧ ∃ s vt', lvK D S t.kind t.name [] = some s ∧ TellOut w B gs vw (.slice none 0 0) vD vS [s] w' vt') := by
  obtain ⟨i0, hi, hz0, hz1, hz2⟩ := info_parts info_strK
  obtain ⟨A1, K, cA, cK, -, -, -, -, -, c4, -, -, -, -⟩ := ptr_cells hp
  rw [show t.kids.length = 0 by rw [hk0]; rfl] at c4
  have hrow : w.ownsRow B 9 1 (.slice none 0 0) 0 [] := h.row
  have c0 : w.cell? ⟨bg, 0, none⟩ = some (.pointer (some ⟨gs, 0, none⟩)) := cell_one0 h.bgc
  have c1 : w.cell? ⟨bl, 0, none⟩ = some (.func (.func 63) #[.pointer (some ⟨gs, 0, none⟩)] #[]) := cell_one0 h.blc
  have c2 : w.cell? ⟨gs, 1, none⟩ = some (.slice none 0 0) := by
    have := h.g
    unfold WK at this
    simp [World.cell?, this]
  have hen : ∀ (args : Array Value) (w : World), (callFunc 63 args).run Tryz.prog w = .ok (.enter 63 args) w := run_enters (by kernel_rfl)
  have HL := Lib.hid (fun W (hW : Below w.heap.size w W) => leave_ok (w := W) (ad := ad) (K := none) (c := 0) (kids := []) (h.srt.sub (sub_below hW)) (hp.sub (sub_below hW)) (fun j v hj => by cases hj) (by decide) (fun e _ => h78 e hk0))
  have HH := Lib.hid (show _ ∧ _ ∧ _ ∧ _ from ⟨h, hrow, hk0, trivial⟩)
  have HK := Lib.hid (fun w' (hb : Below w.heap.size w w') => (show w'.cell? ⟨bg, 0, none⟩ = some (.pointer (some ⟨gs, 0, none⟩)) ∧ w'.cell? ⟨bl, 0, none⟩ = some (.func (.func 63) #[.pointer (some ⟨gs, 0, none⟩)] #[]) from ⟨(hb.cell (cell_lt c0)).trans c0, (hb.cell (cell_lt c1)).trans c1⟩))
  have HC2 := Lib.hid c2
  clear h hp hrow hk0 h78
  go_enter Tryz.func72, Tryz.ntmps72
  go_wp2_with fail
  go_quiet (fail)
  go_wp2_with fail
  obtain ⟨wq, hwq⟩ : ∃ wq, wq = w.drewN nq := ⟨_, rfl⟩
  rw [← hwq]
  have hbq : Below w.heap.size w wq.drew := by rw [hwq]; exact (below_drewN (Below.refl _ _) nq).drew
  have r0 : wq.cell? ⟨bg, 0, none⟩ = some (.pointer (some ⟨gs, 0, none⟩)) := by rw [hwq]; exact c0
  have r1 : wq.cell? ⟨bl, 0, none⟩ = some (.func (.func 63) #[.pointer (some ⟨gs, 0, none⟩)] #[]) := by rw [hwq]; exact c1
  have r2 : wq.cell? ⟨gs, 1, none⟩ = some (.slice none 0 0) := by rw [hwq]; exact HC2.out
  have HBQ := Lib.hid hbq
  have HTC := Lib.hid (fun w' (hb : Below w.heap.size w w') => (hb.cell (cell_lt HC2.out)).trans HC2.out)
  have HRow := Lib.hid (fun w' (hb : Below w.heap.size w w') => (own_keep (w' := w') HH.out.2.1 fun k _ _ hk => hb.block k hk))
  have HSy := Lib.hid (fun W (hW : Below w.heap.size w W) => (HL.out W hW).mono fun e w' h => (show (_ ∨ _) ∧ Below w.heap.size w w' from ⟨Or.symm h.1, hW.trans (h.2.mono hW.size)⟩))
  have hlo := HH.out.1.lo
  have hne := HH.out.1.ne
  have hBs := HH.out.1.size
  clear hbq hwq c0 c1 HL
  refine wp_region_held_drew (S := (fun w' => w'.cell? ⟨bg, 0, none⟩ = some (.pointer (some ⟨gs, 0, none⟩)) ∧ w'.cell? ⟨bl, 0, none⟩ = some (.func (.func 63) #[.pointer (some ⟨gs, 0, none⟩)] #[]))) (by kernel_rfl) ?_ (fun hHeld => ?_)
  · (first | exact HS4.out _ | exact HS3.out | exact HK.out _ (HB1.out.alloc HB1.out.size _) | exact HK.out _ HB1.out | exact HK.out _ HBQ.out | go_keep)
  refine' wpAnyH_take (i := 0) (v := _) rfl (by kernel_rfl) (by kernel_rfl) (by kernel_rfl) (fun _ _ _ h => h) (Or.inl ⟨by rfl, fun w hSw => ?hy1⟩) (by assumption) ?rest1
  case hy1 =>
    (try dsimp only at hSw)
    go_simp
    all_goals with_reducible rfl
  try simp only [Act.put, List.getElem_toArray, List.getElem_cons_zero, List.getElem_cons_succ, List.setIfInBounds_toArray, List.set_cons_zero, List.set_cons_succ]
  refine' wpAnyH_take (i := 1) (v := _) rfl (by kernel_rfl) (by kernel_rfl) (by kernel_rfl) (fun _ _ _ h => h) (Or.inl ⟨by rfl, fun w hSw => ?hy2⟩) (by assumption) ?rest2
  case hy2 =>
    (try dsimp only at hSw)
    go_simp
    all_goals with_reducible rfl
  try simp only [Act.put, List.getElem_toArray, List.getElem_cons_zero, List.getElem_cons_succ, List.setIfInBounds_toArray, List.set_cons_zero, List.set_cons_succ]
  refine' wpAnyH_take (i := 2) (v := _) rfl (by kernel_rfl) (by kernel_rfl) (by kernel_rfl) (fun _ _ _ h => h) (Or.inl ⟨by rfl, fun w hSw => ?hy3⟩) (by assumption) ?rest3
  case hy3 =>
    (try dsimp only at hSw)
    go_simp
    all_goals with_reducible rfl
  try simp only [Act.put, List.getElem_toArray, List.getElem_cons_zero, List.getElem_cons_succ, List.setIfInBounds_toArray, List.set_cons_zero, List.set_cons_succ]
  refine' wpAnyH_take (i := 3) (v := _) rfl (by kernel_rfl) (by kernel_rfl) (by kernel_rfl) (fun _ _ _ h => h) (Or.inl ⟨by rfl, fun w hSw => ?hy4⟩) (by assumption) ?rest4
  case hy4 =>
    (try dsimp only at hSw)
    go_simp
    all_goals with_reducible rfl
  try simp only [Act.put, List.getElem_toArray, List.getElem_cons_zero, List.getElem_cons_succ, List.setIfInBounds_toArray, List.set_cons_zero, List.set_cons_succ]
  refine' wpAnyH_take (i := 5) (v := _) rfl (by kernel_rfl) (by kernel_rfl) (by kernel_rfl) (fun _ _ _ h => h) (Or.inl ⟨by rfl, fun w hSw => ?hy5⟩) (by assumption) ?rest5
  case hy5 =>
    (try dsimp only at hSw)
    go_simp
    all_goals with_reducible rfl
  try simp only [Act.put, List.getElem_toArray, List.getElem_cons_zero, List.getElem_cons_succ, List.setIfInBounds_toArray, List.set_cons_zero, List.set_cons_succ]
  refine' wpAnyH_take (i := 7) (v := _) rfl (by kernel_rfl) (by kernel_rfl) (by kernel_rfl) (fun _ _ _ h => h) (Or.inl ⟨by rfl, fun w hSw => ?hy6⟩) (by assumption) ?rest6
  case hy6 =>
    (try dsimp only at hSw)
    go_simp
    all_goals with_reducible rfl
  try simp only [Act.put, List.getElem_toArray, List.getElem_cons_zero, List.getElem_cons_succ, List.setIfInBounds_toArray, List.set_cons_zero, List.set_cons_succ]
  refine' wpAnyH_take (i := 8) (v := _) rfl (by kernel_rfl) (by kernel_rfl) (by kernel_rfl) (fun _ _ _ h => h) (Or.inl ⟨by rfl, fun w hSw => ?hy7⟩) (by assumption) ?rest7
  case hy7 =>
    (try dsimp only at hSw)
    go_simp
    all_goals with_reducible rfl
  try simp only [Act.put, List.getElem_toArray, List.getElem_cons_zero, List.getElem_cons_succ, List.setIfInBounds_toArray, List.set_cons_zero, List.set_cons_succ]
  refine' wpAnyH_take (i := 9) (v := _) rfl (by kernel_rfl) (by kernel_rfl) (by kernel_rfl) (fun _ _ _ h => h) (Or.inl ⟨by rfl, fun w hSw => ?hy8⟩) (by assumption) ?rest8
  case hy8 =>
    (try dsimp only at hSw)
    go_simp
    all_goals with_reducible rfl
  try simp only [Act.put, List.getElem_toArray, List.getElem_cons_zero, List.getElem_cons_succ, List.setIfInBounds_toArray, List.set_cons_zero, List.set_cons_succ]
  refine' wpAnyH_take (i := 10) (v := _) rfl (by kernel_rfl) (by kernel_rfl) (by kernel_rfl) (fun _ _ _ h => h) (Or.inl ⟨by rfl, fun w hSw => ?hy9⟩) (by assumption) ?rest9
  case hy9 =>
    (try dsimp only at hSw)
    go_simp
    all_goals with_reducible rfl
  try simp only [Act.put, List.getElem_toArray, List.getElem_cons_zero, List.getElem_cons_succ, List.setIfInBounds_toArray, List.set_cons_zero, List.set_cons_succ]
  refine' wpAnyH_take (i := 11) (v := _) rfl (by kernel_rfl) (by kernel_rfl) (by kernel_rfl) (fun _ _ _ h => h) (Or.inl ⟨by rfl, fun w hSw => ?hy10⟩) (by assumption) ?rest10
  case hy10 =>
    (try dsimp only at hSw)
    go_simp
    all_goals with_reducible rfl
  try simp only [Act.put, List.getElem_toArray, List.getElem_cons_zero, List.getElem_cons_succ, List.setIfInBounds_toArray, List.set_cons_zero, List.set_cons_succ]
  refine' wpAnyH_take (i := 13) (v := _) rfl (by kernel_rfl) (by kernel_rfl) (by kernel_rfl) (fun _ _ _ h => h) (Or.inl ⟨by rfl, fun w hSw => ?hy11⟩) (by assumption) ?rest11
  case hy11 =>
    (try dsimp only at hSw)
    go_simp
    all_goals with_reducible rfl
  try simp only [Act.put, List.getElem_toArray, List.getElem_cons_zero, List.getElem_cons_succ, List.setIfInBounds_toArray, List.set_cons_zero, List.set_cons_succ]
  refine wpAnyH_ready (rs := [4, 12]) (by kernel_rfl) (by simp) ?_
  refine AllReadyH.cons rfl (fun K hK => ?_) (AllReadyH.cons rfl (fun K hK => ?_) AllReadyH.nil)
  · skip
    go_simp
    refine hK.out _ _ ?_ (fun hHeld' => ?_)
    · (try dsimp only)
      (first | exact HS4.out _ | exact HS3.out | exact HK.out _ (HB1.out.alloc HB1.out.size _) | exact HK.out _ HB1.out | exact HK.out _ HBQ.out | go_keep)
    clear hK K hHeld
    have hHeld := hHeld'
    clear hHeld'
    refine' wpAnyH_take (i := 6) (v := _) rfl (by kernel_rfl) (by kernel_rfl) (by kernel_rfl) (fun _ _ _ h => h) (Or.inl ⟨by rfl, fun w hSw => ?hy12⟩) (by assumption) ?rest12
    case hy12 =>
      (try dsimp only at hSw)
      go_simp
      all_goals with_reducible rfl
    try simp only [Act.put, List.getElem_toArray, List.getElem_cons_zero, List.getElem_cons_succ, List.setIfInBounds_toArray, List.set_cons_zero, List.set_cons_succ]
    refine wpAnyH_ready (rs := [12]) (by kernel_rfl) (by simp) ?_
    refine AllReadyH.cons rfl (fun K hK => ?_) AllReadyH.nil
    go_simp
    refine hK.out _ _ ?_ (fun hHeld' => ?_)
    · (try dsimp only)
      (first | exact HS4.out _ | exact HS3.out | exact HK.out _ (HB1.out.alloc HB1.out.size _) | exact HK.out _ HB1.out | exact HK.out _ HBQ.out | go_keep)
    clear hK K hHeld
    have hHeld := hHeld'
    clear hHeld'
    refine' wpAnyH_take (i := 14) (v := _) rfl (by kernel_rfl) (by kernel_rfl) (by kernel_rfl) (fun _ _ _ h => h) (Or.inl ⟨by rfl, fun w hSw => ?hy13⟩) (by assumption) ?rest13
    case hy13 =>
      (try dsimp only at hSw)
      go_simp
      all_goals with_reducible rfl
    try simp only [Act.put, List.getElem_toArray, List.getElem_cons_zero, List.getElem_cons_succ, List.setIfInBounds_toArray, List.set_cons_zero, List.set_cons_succ]
    refine wpAnyH_ready (rs := [15]) (by kernel_rfl) (by simp) ?_
    refine AllReadyH.cons rfl (fun K hK => ?_) AllReadyH.nil
    go_simp
    go_at_call 63; refine (HSy.out wq.drew HBQ.out).mono ?_; rintro e w1 ⟨⟨hs, m, hm, rfl⟩ | ⟨s, hs, rfl⟩, hb⟩; exact ⟨rfl, Or.inl ⟨m, rfl, hm, hs, hb⟩⟩; have HO := Lib.hid hs; have HB1 := Lib.hid hb; have r3 := HTC.out w1 hb; have r6 := fun b => HTC.out _ (hb.alloc hb.size b); clear hs hb; dsimp only
    refine hK.out _ _ ?_ (fun hHeld' => ?_)
    · (try dsimp only)
      (first | exact HS4.out _ | exact HS3.out | exact HK.out _ (HB1.out.alloc HB1.out.size _) | exact HK.out _ HB1.out | exact HK.out _ HBQ.out | go_keep)
    clear hK K hHeld
    have hHeld := hHeld'
    clear hHeld'
    refine wpAnyH_ready (rs := [16]) (by kernel_rfl) (by simp) ?_
    refine AllReadyH.cons rfl (fun K hK => ?_) AllReadyH.nil
    go_simp
    refine hK.out _ _ ?_ (fun hHeld' => ?_)
    · (try dsimp only)
      (first | exact HS4.out _ | exact HS3.out | exact HK.out _ (HB1.out.alloc HB1.out.size _) | exact HK.out _ HB1.out | exact HK.out _ HBQ.out | go_keep)
    clear hK K hHeld
    have hHeld := hHeld'
    clear hHeld'
    refine wpAnyH_ready (rs := [17]) (by kernel_rfl) (by simp) ?_
    refine AllReadyH.cons rfl (fun K hK => ?_) AllReadyH.nil
    refine step_append_lies _ rfl (.tmp 22) (.tmp 32) 63 rfl B 9 i0 (.string ⟨#[]⟩) 1 16 Tryz.underlying63 hi hz0 hz1 hz2 rfl (by decide) (.slice none 0 0) 0 [] rfl (HRow.out _ (HB1.out.alloc HB1.out.size _)) ⟨w1.heap.size, 0, none⟩ 1 1 [.string s] rfl rfl (World.news_of_block (heap_alloc_new w1 (.cells #[.string s] 9))) (by simp [Value.oneCell']) (by decide) (by decide) (by decide) (by have := HB1.out.size; rw [World.size_alloc]; omega) (w1.heap.size + 1) (World.size_alloc ..) ?_; intro g cap w2 hown hgrow hat hlt; have HS3 := Lib.hid (tell_cells (v := .slice none 0 0) HH.out.1 HB1.out hgrow (fun k hk => (World.ownsRow.lt HH.out.2.1 k hk).1)); have HS4 := Lib.hid (fun v => tell_cells2 (v := v) hne HS3.out); have HG := Lib.hid (show _ ∧ _ ∧ _ ∧ _ from ⟨hown, hgrow, hat, hlt⟩); have r4 := tell_told (v := .slice none 0 0) HTC.out HB1.out hgrow hlo.1 hBs (fun k hk => (World.ownsRow.lt HH.out.2.1 k hk).1) HC2.out; have r5 := tell_frozen (v := .slice none 0 0) HH.out.1.g HB1.out hgrow hlo.1 hBs (fun k hk => (World.ownsRow.lt HH.out.2.1 k hk).1); clear hown hgrow hat hlt
    refine hK.out _ _ ?_ (fun hHeld' => ?_)
    · (try dsimp only)
      (first | exact HS4.out _ | exact HS3.out | exact HK.out _ (HB1.out.alloc HB1.out.size _) | exact HK.out _ HB1.out | exact HK.out _ HBQ.out | go_keep)
    clear hK K hHeld
    have hHeld := hHeld'
    clear hHeld'
    refine' wpAnyH_take (i := 18) (v := _) rfl (by kernel_rfl) (by kernel_rfl) (by kernel_rfl) (fun _ _ _ h => h) (Or.inl ⟨by rfl, fun w hSw => ?hy14⟩) (by assumption) ?rest14
    case hy14 =>
      (try dsimp only at hSw)
      go_simp
      all_goals with_reducible rfl
    try simp only [Act.put, List.getElem_toArray, List.getElem_cons_zero, List.getElem_cons_succ, List.setIfInBounds_toArray, List.set_cons_zero, List.set_cons_succ]
    refine' wpAnyH_take (i := 19) (v := _) rfl (by kernel_rfl) (by kernel_rfl) (by kernel_rfl) (fun _ _ _ h => h) (Or.inl ⟨by rfl, fun w hSw => ?hy15⟩) (by assumption) ?rest15
    case hy15 =>
      (try dsimp only at hSw)
      go_simp
      all_goals with_reducible rfl
    try simp only [Act.put, List.getElem_toArray, List.getElem_cons_zero, List.getElem_cons_succ, List.setIfInBounds_toArray, List.set_cons_zero, List.set_cons_succ]
    refine wpAnyH_ready (rs := [20]) (by kernel_rfl) (by simp) ?_
    refine AllReadyH.cons rfl (fun K hK => ?_) AllReadyH.nil
    go_simp
    refine hK.out _ _ ?_ (fun hHeld' => ?_)
    · (try dsimp only)
      (first | exact HS4.out _ | exact HS3.out | exact HK.out _ (HB1.out.alloc HB1.out.size _) | exact HK.out _ HB1.out | exact HK.out _ HBQ.out | go_keep)
    clear hK K hHeld
    have hHeld := hHeld'
    clear hHeld'
    refine wpAnyH_done (by kernel_rfl) ?_ _
    go_wp2
    go_returns
    refine .inr ⟨⟨_, rfl⟩, s, _, HO.out, tell_out (told := []) (m := 0) HH.out.1.g hlo.1 hBs (fun k hk => (World.ownsRow.lt HH.out.2.1 k hk).1) HB1.out HG.out.1 (by decide) (by rfl) HG.out.2.1 HG.out.2.2.1⟩
  · skip
    go_simp
    refine hK.out _ _ ?_ (fun hHeld' => ?_)
    · (try dsimp only)
      (first | exact HS4.out _ | exact HS3.out | exact HK.out _ (HB1.out.alloc HB1.out.size _) | exact HK.out _ HB1.out | exact HK.out _ HBQ.out | go_keep)
    clear hK K hHeld
    have hHeld := hHeld'
    clear hHeld'
    refine' wpAnyH_take (i := 14) (v := _) rfl (by kernel_rfl) (by kernel_rfl) (by kernel_rfl) (fun _ _ _ h => h) (Or.inl ⟨by rfl, fun w hSw => ?hy16⟩) (by assumption) ?rest16
    case hy16 =>
      (try dsimp only at hSw)
      go_simp
      all_goals with_reducible rfl
    try simp only [Act.put, List.getElem_toArray, List.getElem_cons_zero, List.getElem_cons_succ, List.setIfInBounds_toArray, List.set_cons_zero, List.set_cons_succ]
    refine wpAnyH_ready (rs := [4, 15]) (by kernel_rfl) (by simp) ?_
    refine AllReadyH.cons rfl (fun K hK => ?_) (AllReadyH.cons rfl (fun K hK => ?_) AllReadyH.nil)
    · skip
      go_simp
      refine hK.out _ _ ?_ (fun hHeld' => ?_)
      · (try dsimp only)
        (first | exact HS4.out _ | exact HS3.out | exact HK.out _ (HB1.out.alloc HB1.out.size _) | exact HK.out _ HB1.out | exact HK.out _ HBQ.out | go_keep)
      clear hK K hHeld
      have hHeld := hHeld'
      clear hHeld'
      refine' wpAnyH_take (i := 6) (v := _) rfl (by kernel_rfl) (by kernel_rfl) (by kernel_rfl) (fun _ _ _ h => h) (Or.inl ⟨by rfl, fun w hSw => ?hy17⟩) (by assumption) ?rest17
      case hy17 =>
        (try dsimp only at hSw)
        go_simp
        all_goals with_reducible rfl
      try simp only [Act.put, List.getElem_toArray, List.getElem_cons_zero, List.getElem_cons_succ, List.setIfInBounds_toArray, List.set_cons_zero, List.set_cons_succ]
      refine wpAnyH_ready (rs := [15]) (by kernel_rfl) (by simp) ?_
      refine AllReadyH.cons rfl (fun K hK => ?_) AllReadyH.nil
      go_simp
      go_at_call 63; refine (HSy.out wq.drew HBQ.out).mono ?_; rintro e w1 ⟨⟨hs, m, hm, rfl⟩ | ⟨s, hs, rfl⟩, hb⟩; exact ⟨rfl, Or.inl ⟨m, rfl, hm, hs, hb⟩⟩; have HO := Lib.hid hs; have HB1 := Lib.hid hb; have r3 := HTC.out w1 hb; have r6 := fun b => HTC.out _ (hb.alloc hb.size b); clear hs hb; dsimp only
      refine hK.out _ _ ?_ (fun hHeld' => ?_)
      · (try dsimp only)
        (first | exact HS4.out _ | exact HS3.out | exact HK.out _ (HB1.out.alloc HB1.out.size _) | exact HK.out _ HB1.out | exact HK.out _ HBQ.out | go_keep)
      clear hK K hHeld
      have hHeld := hHeld'
      clear hHeld'
      refine wpAnyH_ready (rs := [16]) (by kernel_rfl) (by simp) ?_
      refine AllReadyH.cons rfl (fun K hK => ?_) AllReadyH.nil
      go_simp
      refine hK.out _ _ ?_ (fun hHeld' => ?_)
      · (try dsimp only)
        (first | exact HS4.out _ | exact HS3.out | exact HK.out _ (HB1.out.alloc HB1.out.size _) | exact HK.out _ HB1.out | exact HK.out _ HBQ.out | go_keep)
      clear hK K hHeld
      have hHeld := hHeld'
      clear hHeld'
      refine wpAnyH_ready (rs := [17]) (by kernel_rfl) (by simp) ?_
      refine AllReadyH.cons rfl (fun K hK => ?_) AllReadyH.nil
      refine step_append_lies _ rfl (.tmp 22) (.tmp 32) 63 rfl B 9 i0 (.string ⟨#[]⟩) 1 16 Tryz.underlying63 hi hz0 hz1 hz2 rfl (by decide) (.slice none 0 0) 0 [] rfl (HRow.out _ (HB1.out.alloc HB1.out.size _)) ⟨w1.heap.size, 0, none⟩ 1 1 [.string s] rfl rfl (World.news_of_block (heap_alloc_new w1 (.cells #[.string s] 9))) (by simp [Value.oneCell']) (by decide) (by decide) (by decide) (by have := HB1.out.size; rw [World.size_alloc]; omega) (w1.heap.size + 1) (World.size_alloc ..) ?_; intro g cap w2 hown hgrow hat hlt; have HS3 := Lib.hid (tell_cells (v := .slice none 0 0) HH.out.1 HB1.out hgrow (fun k hk => (World.ownsRow.lt HH.out.2.1 k hk).1)); have HS4 := Lib.hid (fun v => tell_cells2 (v := v) hne HS3.out); have HG := Lib.hid (show _ ∧ _ ∧ _ ∧ _ from ⟨hown, hgrow, hat, hlt⟩); have r4 := tell_told (v := .slice none 0 0) HTC.out HB1.out hgrow hlo.1 hBs (fun k hk => (World.ownsRow.lt HH.out.2.1 k hk).1) HC2.out; have r5 := tell_frozen (v := .slice none 0 0) HH.out.1.g HB1.out hgrow hlo.1 hBs (fun k hk => (World.ownsRow.lt HH.out.2.1 k hk).1); clear hown hgrow hat hlt
      refine hK.out _ _ ?_ (fun hHeld' => ?_)
      · (try dsimp only)
        (first | exact HS4.out _ | exact HS3.out | exact HK.out _ (HB1.out.alloc HB1.out.size _) | exact HK.out _ HB1.out | exact HK.out _ HBQ.out | go_keep)
      clear hK K hHeld
      have hHeld := hHeld'
      clear hHeld'
      refine' wpAnyH_take (i := 18) (v := _) rfl (by kernel_rfl) (by kernel_rfl) (by kernel_rfl) (fun _ _ _ h => h) (Or.inl ⟨by rfl, fun w hSw => ?hy18⟩) (by assumption) ?rest18
      case hy18 =>
        (try dsimp only at hSw)
        go_simp
        all_goals with_reducible rfl
      try simp only [Act.put, List.getElem_toArray, List.getElem_cons_zero, List.getElem_cons_succ, List.setIfInBounds_toArray, List.set_cons_zero, List.set_cons_succ]
      refine' wpAnyH_take (i := 19) (v := _) rfl (by kernel_rfl) (by kernel_rfl) (by kernel_rfl) (fun _ _ _ h => h) (Or.inl ⟨by rfl, fun w hSw => ?hy19⟩) (by assumption) ?rest19
      case hy19 =>
        (try dsimp only at hSw)
        go_simp
        all_goals with_reducible rfl
      try simp only [Act.put, List.getElem_toArray, List.getElem_cons_zero, List.getElem_cons_succ, List.setIfInBounds_toArray, List.set_cons_zero, List.set_cons_succ]
      refine wpAnyH_ready (rs := [20]) (by kernel_rfl) (by simp) ?_
      refine AllReadyH.cons rfl (fun K hK => ?_) AllReadyH.nil
      go_simp
      refine hK.out _ _ ?_ (fun hHeld' => ?_)
      · (try dsimp only)
        (first | exact HS4.out _ | exact HS3.out | exact HK.out _ (HB1.out.alloc HB1.out.size _) | exact HK.out _ HB1.out | exact HK.out _ HBQ.out | go_keep)
      clear hK K hHeld
      have hHeld := hHeld'
      clear hHeld'
      refine wpAnyH_done (by kernel_rfl) ?_ _
      go_wp2
      go_returns
      refine .inr ⟨⟨_, rfl⟩, s, _, HO.out, tell_out (told := []) (m := 0) HH.out.1.g hlo.1 hBs (fun k hk => (World.ownsRow.lt HH.out.2.1 k hk).1) HB1.out HG.out.1 (by decide) (by rfl) HG.out.2.1 HG.out.2.2.1⟩
    · skip
      go_simp
      go_at_call 63; refine (HSy.out wq.drew HBQ.out).mono ?_; rintro e w1 ⟨⟨hs, m, hm, rfl⟩ | ⟨s, hs, rfl⟩, hb⟩; exact ⟨rfl, Or.inl ⟨m, rfl, hm, hs, hb⟩⟩; have HO := Lib.hid hs; have HB1 := Lib.hid hb; have r3 := HTC.out w1 hb; have r6 := fun b => HTC.out _ (hb.alloc hb.size b); clear hs hb; dsimp only
      refine hK.out _ _ ?_ (fun hHeld' => ?_)
      · (try dsimp only)
        (first | exact HS4.out _ | exact HS3.out | exact HK.out _ (HB1.out.alloc HB1.out.size _) | exact HK.out _ HB1.out | exact HK.out _ HBQ.out | go_keep)
      clear hK K hHeld
      have hHeld := hHeld'
      clear hHeld'
      refine wpAnyH_ready (rs := [4, 16]) (by kernel_rfl) (by simp) ?_
      refine AllReadyH.cons rfl (fun K hK => ?_) (AllReadyH.cons rfl (fun K hK => ?_) AllReadyH.nil)
      · skip
        go_simp
        refine hK.out _ _ ?_ (fun hHeld' => ?_)
        · (try dsimp only)
          (first | exact HS4.out _ | exact HS3.out | exact HK.out _ (HB1.out.alloc HB1.out.size _) | exact HK.out _ HB1.out | exact HK.out _ HBQ.out | go_keep)
        clear hK K hHeld
        have hHeld := hHeld'
        clear hHeld'
        refine' wpAnyH_take (i := 6) (v := _) rfl (by kernel_rfl) (by kernel_rfl) (by kernel_rfl) (fun _ _ _ h => h) (Or.inl ⟨by rfl, fun w hSw => ?hy20⟩) (by assumption) ?rest20
        case hy20 =>
          (try dsimp only at hSw)
          go_simp
          all_goals with_reducible rfl
        try simp only [Act.put, List.getElem_toArray, List.getElem_cons_zero, List.getElem_cons_succ, List.setIfInBounds_toArray, List.set_cons_zero, List.set_cons_succ]
        refine wpAnyH_ready (rs := [16]) (by kernel_rfl) (by simp) ?_
        refine AllReadyH.cons rfl (fun K hK => ?_) AllReadyH.nil
        go_simp
        refine hK.out _ _ ?_ (fun hHeld' => ?_)
        · (try dsimp only)
          (first | exact HS4.out _ | exact HS3.out | exact HK.out _ (HB1.out.alloc HB1.out.size _) | exact HK.out _ HB1.out | exact HK.out _ HBQ.out | go_keep)
        clear hK K hHeld
        have hHeld := hHeld'
        clear hHeld'
        refine wpAnyH_ready (rs := [17]) (by kernel_rfl) (by simp) ?_
        refine AllReadyH.cons rfl (fun K hK => ?_) AllReadyH.nil
        refine step_append_lies _ rfl (.tmp 22) (.tmp 32) 63 rfl B 9 i0 (.string ⟨#[]⟩) 1 16 Tryz.underlying63 hi hz0 hz1 hz2 rfl (by decide) (.slice none 0 0) 0 [] rfl (HRow.out _ (HB1.out.alloc HB1.out.size _)) ⟨w1.heap.size, 0, none⟩ 1 1 [.string s] rfl rfl (World.news_of_block (heap_alloc_new w1 (.cells #[.string s] 9))) (by simp [Value.oneCell']) (by decide) (by decide) (by decide) (by have := HB1.out.size; rw [World.size_alloc]; omega) (w1.heap.size + 1) (World.size_alloc ..) ?_; intro g cap w2 hown hgrow hat hlt; have HS3 := Lib.hid (tell_cells (v := .slice none 0 0) HH.out.1 HB1.out hgrow (fun k hk => (World.ownsRow.lt HH.out.2.1 k hk).1)); have HS4 := Lib.hid (fun v => tell_cells2 (v := v) hne HS3.out); have HG := Lib.hid (show _ ∧ _ ∧ _ ∧ _ from ⟨hown, hgrow, hat, hlt⟩); have r4 := tell_told (v := .slice none 0 0) HTC.out HB1.out hgrow hlo.1 hBs (fun k hk => (World.ownsRow.lt HH.out.2.1 k hk).1) HC2.out; have r5 := tell_frozen (v := .slice none 0 0) HH.out.1.g HB1.out hgrow hlo.1 hBs (fun k hk => (World.ownsRow.lt HH.out.2.1 k hk).1); clear hown hgrow hat hlt
        refine hK.out _ _ ?_ (fun hHeld' => ?_)
        · (try dsimp only)
          (first | exact HS4.out _ | exact HS3.out | exact HK.out _ (HB1.out.alloc HB1.out.size _) | exact HK.out _ HB1.out | exact HK.out _ HBQ.out | go_keep)
        clear hK K hHeld
        have hHeld := hHeld'
        clear hHeld'
        refine' wpAnyH_take (i := 18) (v := _) rfl (by kernel_rfl) (by kernel_rfl) (by kernel_rfl) (fun _ _ _ h => h) (Or.inl ⟨by rfl, fun w hSw => ?hy21⟩) (by assumption) ?rest21
        case hy21 =>
          (try dsimp only at hSw)
          go_simp
          all_goals with_reducible rfl
        try simp only [Act.put, List.getElem_toArray, List.getElem_cons_zero, List.getElem_cons_succ, List.setIfInBounds_toArray, List.set_cons_zero, List.set_cons_succ]
        refine' wpAnyH_take (i := 19) (v := _) rfl (by kernel_rfl) (by kernel_rfl) (by kernel_rfl) (fun _ _ _ h => h) (Or.inl ⟨by rfl, fun w hSw => ?hy22⟩) (by assumption) ?rest22
        case hy22 =>
          (try dsimp only at hSw)
          go_simp
          all_goals with_reducible rfl
        try simp only [Act.put, List.getElem_toArray, List.getElem_cons_zero, List.getElem_cons_succ, List.setIfInBounds_toArray, List.set_cons_zero, List.set_cons_succ]
        refine wpAnyH_ready (rs := [20]) (by kernel_rfl) (by simp) ?_
        refine AllReadyH.cons rfl (fun K hK => ?_) AllReadyH.nil
        go_simp
        refine hK.out _ _ ?_ (fun hHeld' => ?_)
        · (try dsimp only)
          (first | exact HS4.out _ | exact HS3.out | exact HK.out _ (HB1.out.alloc HB1.out.size _) | exact HK.out _ HB1.out | exact HK.out _ HBQ.out | go_keep)
        clear hK K hHeld
        have hHeld := hHeld'
        clear hHeld'
        refine wpAnyH_done (by kernel_rfl) ?_ _
        go_wp2
        go_returns
        refine .inr ⟨⟨_, rfl⟩, s, _, HO.out, tell_out (told := []) (m := 0) HH.out.1.g hlo.1 hBs (fun k hk => (World.ownsRow.lt HH.out.2.1 k hk).1) HB1.out HG.out.1 (by decide) (by rfl) HG.out.2.1 HG.out.2.2.1⟩
      · skip
        go_simp
        refine hK.out _ _ ?_ (fun hHeld' => ?_)
        · (try dsimp only)
          (first | exact HS4.out _ | exact HS3.out | exact HK.out _ (HB1.out.alloc HB1.out.size _) | exact HK.out _ HB1.out | exact HK.out _ HBQ.out | go_keep)
        clear hK K hHeld
        have hHeld := hHeld'
        clear hHeld'
        refine wpAnyH_ready (rs := [4]) (by kernel_rfl) (by simp) ?_
        refine AllReadyH.cons rfl (fun K hK => ?_) AllReadyH.nil
        go_simp
        refine hK.out _ _ ?_ (fun hHeld' => ?_)
        · (try dsimp only)
          (first | exact HS4.out _ | exact HS3.out | exact HK.out _ (HB1.out.alloc HB1.out.size _) | exact HK.out _ HB1.out | exact HK.out _ HBQ.out | go_keep)
        clear hK K hHeld
        have hHeld := hHeld'
        clear hHeld'
        refine' wpAnyH_take (i := 6) (v := _) rfl (by kernel_rfl) (by kernel_rfl) (by kernel_rfl) (fun _ _ _ h => h) (Or.inl ⟨by rfl, fun w hSw => ?hy23⟩) (by assumption) ?rest23
        case hy23 =>
          (try dsimp only at hSw)
          go_simp
          all_goals with_reducible rfl
        try simp only [Act.put, List.getElem_toArray, List.getElem_cons_zero, List.getElem_cons_succ, List.setIfInBounds_toArray, List.set_cons_zero, List.set_cons_succ]
        refine wpAnyH_ready (rs := [17]) (by kernel_rfl) (by simp) ?_
        refine AllReadyH.cons rfl (fun K hK => ?_) AllReadyH.nil
        refine step_append_lies _ rfl (.tmp 22) (.tmp 32) 63 rfl B 9 i0 (.string ⟨#[]⟩) 1 16 Tryz.underlying63 hi hz0 hz1 hz2 rfl (by decide) (.slice none 0 0) 0 [] rfl (HRow.out _ (HB1.out.alloc HB1.out.size _)) ⟨w1.heap.size, 0, none⟩ 1 1 [.string s] rfl rfl (World.news_of_block (heap_alloc_new w1 (.cells #[.string s] 9))) (by simp [Value.oneCell']) (by decide) (by decide) (by decide) (by have := HB1.out.size; rw [World.size_alloc]; omega) (w1.heap.size + 1) (World.size_alloc ..) ?_; intro g cap w2 hown hgrow hat hlt; have HS3 := Lib.hid (tell_cells (v := .slice none 0 0) HH.out.1 HB1.out hgrow (fun k hk => (World.ownsRow.lt HH.out.2.1 k hk).1)); have HS4 := Lib.hid (fun v => tell_cells2 (v := v) hne HS3.out); have HG := Lib.hid (show _ ∧ _ ∧ _ ∧ _ from ⟨hown, hgrow, hat, hlt⟩); have r4 := tell_told (v := .slice none 0 0) HTC.out HB1.out hgrow hlo.1 hBs (fun k hk => (World.ownsRow.lt HH.out.2.1 k hk).1) HC2.out; have r5 := tell_frozen (v := .slice none 0 0) HH.out.1.g HB1.out hgrow hlo.1 hBs (fun k hk => (World.ownsRow.lt HH.out.2.1 k hk).1); clear hown hgrow hat hlt
        refine hK.out _ _ ?_ (fun hHeld' => ?_)
        · (try dsimp only)
          (first | exact HS4.out _ | exact HS3.out | exact HK.out _ (HB1.out.alloc HB1.out.size _) | exact HK.out _ HB1.out | exact HK.out _ HBQ.out | go_keep)
        clear hK K hHeld
        have hHeld := hHeld'
        clear hHeld'
        refine' wpAnyH_take (i := 18) (v := _) rfl (by kernel_rfl) (by kernel_rfl) (by kernel_rfl) (fun _ _ _ h => h) (Or.inl ⟨by rfl, fun w hSw => ?hy24⟩) (by assumption) ?rest24
        case hy24 =>
          (try dsimp only at hSw)
          go_simp
          all_goals with_reducible rfl
        try simp only [Act.put, List.getElem_toArray, List.getElem_cons_zero, List.getElem_cons_succ, List.setIfInBounds_toArray, List.set_cons_zero, List.set_cons_succ]
        refine' wpAnyH_take (i := 19) (v := _) rfl (by kernel_rfl) (by kernel_rfl) (by kernel_rfl) (fun _ _ _ h => h) (Or.inl ⟨by rfl, fun w hSw => ?hy25⟩) (by assumption) ?rest25
        case hy25 =>
          (try dsimp only at hSw)
          go_simp
          all_goals with_reducible rfl
        try simp only [Act.put, List.getElem_toArray, List.getElem_cons_zero, List.getElem_cons_succ, List.setIfInBounds_toArray, List.set_cons_zero, List.set_cons_succ]
        refine wpAnyH_ready (rs := [20]) (by kernel_rfl) (by simp) ?_
        refine AllReadyH.cons rfl (fun K hK => ?_) AllReadyH.nil
        go_simp
        refine hK.out _ _ ?_ (fun hHeld' => ?_)
        · (try dsimp only)
          (first | exact HS4.out _ | exact HS3.out | exact HK.out _ (HB1.out.alloc HB1.out.size _) | exact HK.out _ HB1.out | exact HK.out _ HBQ.out | go_keep)
        clear hK K hHeld
        have hHeld := hHeld'
        clear hHeld'
        refine wpAnyH_done (by kernel_rfl) ?_ _
        go_wp2
        go_returns
        refine .inr ⟨⟨_, rfl⟩, s, _, HO.out, tell_out (told := []) (m := 0) HH.out.1.g hlo.1 hBs (fun k hk => (World.ownsRow.lt HH.out.2.1 k hk).1) HB1.out HG.out.1 (by decide) (by rfl) HG.out.2.1 HG.out.2.2.1⟩
/-- Of either. -/
theorem tell_ok {w : World} {B gs bg bl : Nat} {vw vt vD vS : Value} {told : List ByteArray} {D : List DtT} {S : List (ByteArray × ByteArray)} {ad : Addr} {t : Tm} (h : TellIn w B gs bg bl vw vt vD vS told D S) (hp : PtrTm w ad t) (hkn : t.kids.length ≤ told.length) (hn1 : told.length ≤ 1000000) (h78 : t.kind = 7 ∨ t.kind = 8 → t.kids ≠ []) :
    Calls Tryz.prog 72 #[.pointer (some ad), .pointer (some ⟨bg, 0, none⟩), .pointer (some ⟨bl, 0, none⟩)] w fun e w' => Thrown (fun m w' => m ≠ 0 ∧ lvK D S t.kind t.name (told.drop (told.length - t.kids.length)) = none ∧ Below w.heap.size w w') e w' ∨ ((∃ u, e = .returned u) ∧ ∃ s vt', lvK D S t.kind t.name (told.drop (told.length - t.kids.length)) = some s ∧ TellOut w B gs vw vt vD vS (told.take (told.length - t.kids.length) ++ [s]) w' vt') := by
  rcases h.row.2 with ⟨e, e2⟩ | ⟨g', cap', cur, e, _, _, hle, _⟩
  · have h0 : told = [] := by
      exact List.length_eq_zero_iff.1 e2
    subst h0
    subst e
    have hk0 : t.kids = [] := List.length_eq_zero_iff.1 (Nat.le_zero.1 hkn)
    rw [hk0]
    exact tell_none h hp hk0 h78
  · subst e
    exact tell_some h hp hkn hn1 h78
end Go.Proofs.YtlikpnaffpngiaaGreatDoor

namespace Go.Proofs.YtlikpnaffpngiaaGreatDoor
open Go.RowKit

/-- What is done at a part's turn, and behind its kids'. -/
def doF (H : Nat) : Value := .func (.func 73) #[] #[.pointer (some ⟨H + 1, 0, none⟩), .pointer (some ⟨H, 0, none⟩), .pointer (some ⟨H + 3, 0, none⟩), .pointer (some ⟨H + 4, 0, none⟩)]
def tellF (H : Nat) : Value := .func (.func 72) #[] #[.pointer (some ⟨H, 0, none⟩), .pointer (some ⟨H + 2, 0, none⟩)]
/-- The closures' boxes, from H on. -/
structure GAt (w : World) (gs H : Nat) : Prop where
  b0 : w.heap[H]? = some (.cells #[.pointer (some ⟨gs, 0, none⟩)] 134 (0, 0))
  b1 : w.heap[H + 1]? = some (.cells #[.func (.func 62) #[] #[] ] 97 (0, 0))
  b2 : w.heap[H + 2]? = some (.cells #[.func (.func 63) #[.pointer (some ⟨gs, 0, none⟩)] #[] ] 119 (0, 0))
  b3 : w.heap[H + 3]? = some (.cells #[tellF H] 97 (0, 0))
  b4 : w.heap[H + 4]? = some (.cells #[doF H] 97 (0, 0))
theorem GAt.to {w w' : World} {gs H : Nat} (h : GAt w gs H) (hk : ∀ k, H ≤ k → k < H + 5 → w'.heap[k]? = w.heap[k]?) : GAt w' gs H :=
  ⟨(hk H (by omega) (by omega)).trans h.b0, (hk (H + 1) (by omega) (by omega)).trans h.b1, (hk (H + 2) (by omega) (by omega)).trans h.b2, (hk (H + 3) (by omega) (by omega)).trans h.b3, (hk (H + 4) (by omega) (by omega)).trans h.b4⟩
theorem GAt.turned {w w' : World} {gs H B n : Nat} {v v' : Value} {E : List Value} (h : GAt w gs H) (ht : Turned gs v v' w w') (hv : TRow w B v n E) (hH : gs < H) (hHB : H + 5 ≤ B) (hB : B ≤ w.heap.size) : GAt w' gs H :=
  h.to fun k h1 h2 => ht.block k (by omega) (by omega) fun e => by have := (World.ownsRow.lt hv k e).1; omega
theorem turned_below {w0 w w' : World} {gs B n : Nat} {v v' : Value} {E : List Value} (hb0 : Below w0.heap.size w0 w) (ht : Turned gs v v' w w') (hv : TRow w B v n E) (hgs : w0.heap.size ≤ gs) (hB0 : gs < B) (hB : B ≤ w.heap.size) : Below w0.heap.size w0 w' :=
  ⟨ht.os.trans hb0.os, ht.tape.trans hb0.tape, ht.output.trans hb0.output, Nat.le_trans hb0.size ht.size, fun k hk => (ht.block k (by omega) (by omega) fun e => by have := (World.ownsRow.lt hv k e).1; omega).trans (hb0.block k hk)⟩
theorem below_turned {w w1 : World} {gs : Nat} {v : Value} (h : Below w.heap.size w w1) : Turned gs v v w w1 := ⟨h.os, h.tape, h.output, h.size, fun k hk _ _ => h.block k hk, fun _ h => .inl h⟩
theorem undrawn {w w1 : World} {gs : Nat} {v v' : Value} (h : Turned gs v v' w.drew w1) : Turned gs v v' w w1 := ⟨h.os, h.tape, h.output, h.size, h.block, h.own⟩
/-- Behind it. -/
def DoRet (T : TypeId) (x : List Value) (w0 w : World) (B gs H n : Nat) (v : Value) (E : List Value) (ad : Addr) (nk : Nat) (w' : World) : Prop := ∃ K c v', w0.cell? (ad.add 4) = some (.slice K nk c) ∧ TRow w' B v' (n + 1 + nk) (E ++ [.pointer (some ad), tellF H] ++ rowTurns (doF H) K nk) ∧ WK w' gs v' T x ∧ Turned gs v v' w w'
set_option maxRecDepth 100000 in
set_option maxHeartbeats 3200000 in
theorem do_ok {T : TypeId} {x : List Value} {w0 w : World} {B gs H n : Nat} {v : Value} {E : List Value} {ad : Addr} {t : Tm} (hb0 : Below w0.heap.size w0 w) (hp : PtrTm w0 ad t) (hd : t.ds.length ≤ 1000000) (hl : t.kids.length ≤ 1000000) (hG : GAt w gs H) (hgs : w0.heap.size ≤ gs) (hH : gs < H) (hHB : H + 5 ≤ B) (hB : B ≤ w.heap.size) (hv : TRow w B v n E) (hg : WK w gs v T x) (hn : n + 1 + t.kids.length ≤ 100000000) :
    Calls Tryz.prog 73 #[.pointer (some ad), .pointer (some ⟨H + 1, 0, none⟩), .pointer (some ⟨H, 0, none⟩), .pointer (some ⟨H + 3, 0, none⟩), .pointer (some ⟨H + 4, 0, none⟩)] w fun e w' => Thrown (fun m w' => m ≠ 0 ∧ entK t = false ∧ Below w.heap.size w w') e w' ∨ ((∃ u, e = .returned u) ∧ entK t = true ∧ DoRet T x w0 w B gs H n v E ad t.kids.length w') := by
  have hen1 : ∀ (args : Array Value) (w : World), (callFunc 62 args).run Tryz.prog w = .ok (.enter 62 args) w := run_enters (by kernel_rfl)
  have hE := enter_ok (hp.bel hb0) hd hl
  obtain ⟨K, c, ck, -, hkk⟩ := hp.kids
  have hK : t.kids.length ≠ 0 → ∃ ad, K = some ad := fun h => by
    rcases hkk with ⟨h0, _⟩ | ⟨A, e, _⟩
    · exact absurd (by rw [h0]; rfl) h
    · exact ⟨A, e⟩
  have ck0 : w0.cell? { block := ad.block, off := ad.off + 4 } = some (.slice K t.kids.length c) := by
    have := ck
    rw [add_posK _ (by decide)] at this
    exact this
  obtain ⟨nk, hnk⟩ : ∃ nk, nk = t.kids.length := ⟨_, rfl⟩
  rw [← hnk] at hl hn hK ck ck0 ⊢
  obtain ⟨te, hte⟩ : ∃ b, b = entK t := ⟨_, rfl⟩
  rw [← hte] at hE ⊢
  have c1 : w.cell? ⟨H + 1, 0, none⟩ = some (.func (.func 62) #[] #[]) := cell_one0 hG.b1
  have HE := Lib.hid hE
  have HH := Lib.hid (show _ ∧ _ ∧ _ ∧ _ ∧ _ from ⟨hb0, hG, hv, hg, hK⟩)
  have HC := Lib.hid (show _ ∧ _ from ⟨ck, ck0⟩)
  have HN := Lib.hid (show _ ∧ _ ∧ _ ∧ _ ∧ _ from ⟨hgs, hH, hHB, hB, hn⟩)
  clear hb0 hp hd hl hG hgs hH hHB hB hv hg hn hE hkk hK ck ck0 hnk hte
  go_enter Tryz.func73, Tryz.ntmps73
  go_wp2_with fail
  refine HE.out.mono ?_
  rintro e w1 ⟨⟨rfl, rfl⟩ | ⟨rfl, m, hm, rfl⟩, hb1⟩
  rotate_left
  · have HB1 := Lib.hid hb1
    clear hb1
    go_wp2
    exact ⟨rfl, m, rfl, hm, HB1.out⟩
  obtain ⟨hb0, hG, hv, hg, hK⟩ := HH.out
  obtain ⟨hgs, hH, hHB, hB, hn⟩ := HN.out
  have hG1 : GAt w1 gs H := hG.to fun k _ _ => hb1.block k (by omega)
  have d0 : w1.cell? ⟨H, 0, none⟩ = some (.pointer (some ⟨gs, 0, none⟩)) := cell_one0 hG1.b0
  have d3 : w1.cell? ⟨H + 3, 0, none⟩ = some (tellF H) := cell_one0 hG1.b3
  have hb01 : Below w0.heap.size w0 w1 := hb0.trans (hb1.mono hb0.size)
  have HX := Lib.hid (next_any (w := w1.drew) (p := ad) (F := 72) (fs := #[]) (cs := #[.pointer (some ⟨H, 0, none⟩), .pointer (some ⟨H + 2, 0, none⟩)]) (show TRow w1.drew B v n E from hv.below hb1.drew) (show WK w1.drew gs v T x from hg.to (hb1.block gs (by omega))) (by omega) (show B ≤ w1.heap.size from by have := hb1.size; omega) (by omega))
  have HW := Lib.hid (show _ ∧ _ ∧ _ from ⟨hb01, hG1, hb1⟩)
  clear hb0 hG hv hg hK hgs hH hHB hB hn hG1 hb01 hb1 HE
  go_wp2_with fail
  go_region_with (go_at_call 64; refine HX.out.mono ?_; rintro e w2 ⟨⟨u, rfl⟩, HE⟩; have HX' := Lib.hid HE; clear HE)
  all_goals
    obtain ⟨v2, p1, p2, p3⟩ := HX'.out
    obtain ⟨hb01, hG1, hb1⟩ := HW.out
    obtain ⟨hgs, hH, hHB, hB, hn⟩ := HN.out
    have h3 := (below_turned (gs := gs) (v := v) hb1).trans (undrawn p3)
    have hG2 : GAt w2 gs H := HH.out.2.1.turned h3 HH.out.2.2.1 hH hHB hB
    have g0 : w2.cell? ⟨H, 0, none⟩ = some (.pointer (some ⟨gs, 0, none⟩)) := cell_one0 hG2.b0
    have g4 : w2.cell? ⟨H + 4, 0, none⟩ = some (doF H) := cell_one0 hG2.b4
    have hb02 : Below w0.heap.size w0 w2 := turned_below HH.out.1 h3 HH.out.2.2.1 hgs (by omega) hB
    have gk : w2.cell? { block := ad.block, off := ad.off + 4 } = some (.slice K nk c) := (hb02.cell (cell_lt HC.out.2)).trans HC.out.2
    have HY := Lib.hid (into_any (w := w2.drew) (F := 73) (fs := #[]) (cs := #[.pointer (some ⟨H + 1, 0, none⟩), .pointer (some ⟨H, 0, none⟩), .pointer (some ⟨H + 3, 0, none⟩), .pointer (some ⟨H + 4, 0, none⟩)]) (c := c) (show TRow w2.drew B v2 (n + 1) _ from p1) (show WK w2.drew gs v2 T x from p2) (by omega) (show B ≤ w2.heap.size from Nat.le_trans hB h3.size) hn HH.out.2.2.2.2)
    have H3 := Lib.hid h3
    clear p1 p2 p3 hb01 hG1 hb1 hgs hH hHB hB hn h3 hG2 hb02 d0 d3 HX HX'
    go_wp2_with fail
    go_region_with (go_at_call 53; refine HY.out.mono ?_; rintro e w3 ⟨⟨u, rfl⟩, HE⟩; have HY' := Lib.hid HE; clear HE)
  all_goals go_wp2
  all_goals go_returns
  all_goals
    obtain ⟨v3, r1, r2, r3⟩ := HY'.out
    exact .inr ⟨⟨_, rfl⟩, K, c, v3, HC.out.1, r1, r2, H3.out.trans (undrawn r3)⟩
end Go.Proofs.YtlikpnaffpngiaaGreatDoor

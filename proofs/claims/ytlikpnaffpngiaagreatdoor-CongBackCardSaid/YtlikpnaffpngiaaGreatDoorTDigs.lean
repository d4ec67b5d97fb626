/- Package term's reader: the digits of a number. -/
import Derived.Test.YtlikpnaffpngiaaGreatDoorTDStep
set_option linter.unusedVariables false
set_option linter.unusedSimpArgs false
namespace Go.Proofs.YtlikpnaffpngiaaGreatDoor
open Go.RowKit Go.Lib

theorem set_second {w : World} {b : Nat} {x y y' : Value} {T : TypeId} {fz : Nat × Nat} (h : w.heap[b]? = some (.cells #[x, y] T fz)) : (w.setCell ⟨b, 1, none⟩ y').heap[b]? = some (.cells #[x, y'] T fz) := by
  simp [World.setCell, Array.getElem?_modify, h]
theorem dig_next {W : World} {g : Nat} {neg : Bool} {rest : List UInt8} {due : Int} {wr w3 w4 : World} {v u : Value} {done todo : List Nat} {d : Nat} (h : DigR W g neg rest due wr v done (d :: todo)) (hgW : g < W.heap.size) (r : RdC w3 g (digsK todo ++ 32 :: rest) due) (o : Only g wr w3) (hu : U32s w4 (W.heap.size + 2) u (done ++ [d])) (hg : (w3.alloc (.cells #[.int .u32 d] 91)).grownBy w4 v.ownBlock) :
    DigR W g neg rest due (w4.setCell ⟨W.heap.size + 1, 1, none⟩ u) u (done ++ [d]) todo := by
  have hown : ∀ k, v.ownBlock = some k → W.heap.size + 2 ≤ k := fun k hk => (World.ownsRow.lt h.row k hk).1
  have hlt : W.heap.size + 1 < wr.heap.size := cell_lt (cell_of_row wr (W.heap.size + 1) 0 _ _ _ h.num)
  have s3 := o.size
  have s4 : w3.heap.size + 1 ≤ w4.heap.size := by have := hg.size; rw [World.size_alloc] at this; exact this
  have keep : ∀ k, k < W.heap.size + 2 → k ≠ W.heap.size + 1 → (w4.setCell ⟨W.heap.size + 1, 1, none⟩ u).heap[k]? = w3.heap[k]? := fun k h1 h2 => (Below.heap_setCell _ _ _ _ h2).trans ((hg.block k (by rw [World.size_alloc]; omega) (fun e => by have := hown k e.symm; omega)).trans (Below.heap_alloc _ _ _ (by omega)))
  have n4 : w4.heap[W.heap.size + 1]? = some (.cells #[.bool neg, v] 26 (0, 0)) := (hg.block _ (by rw [World.size_alloc]; omega) (fun e => by have := hown _ e.symm; omega)).trans ((Below.heap_alloc _ _ _ (by omega)).trans ((o.block _ hlt (by omega)).trans h.num))
  refine ⟨(keep g (by omega) (by omega)).trans r, hu.kept fun k hk _ => Below.heap_setCell _ _ _ _ (by have := (World.ownsRow.lt hu k hk).1; show k ≠ W.heap.size + 1; omega), set_second n4, (keep _ (by omega) (by omega)).trans ((o.block _ (by omega) (by omega)).trans h.res), ?_⟩
  refine ⟨hg.os.trans (o.os.trans h.only.os), hg.tape.trans (o.tape.trans h.only.tape), hg.output.trans (o.output.trans h.only.output), ?_, fun k hk hne => ?_⟩
  · have := h.only.size
    simp; omega
  · exact (keep k (by omega) (by omega)).trans ((o.block k (by omega) hne).trans (h.only.block k hk hne))
set_option maxRecDepth 100000 in
set_option maxHeartbeats 6400000 in
theorem digits_ok {W : World} {g M : Nat} {neg : Bool} {ds : List Nat} {rest : List UInt8} {due : Int} (hr : RdC W g ((if neg then [45] else []) ++ (digsK ds ++ 32 :: rest)) due) (hs : small 4294967296 ds) (hl : ((if neg then [45] else []) ++ (digsK ds ++ 32 :: rest)).length ≤ 100000000) (hdl : ds.length ≤ 1000000) (hM : LibM M W) (hMg : M ≤ g) :
    Calls Tryz.prog 58 #[.pointer (some ⟨g, 0, none⟩)] W fun e w' => ∃ A c, e = .returned (.agg #[.bool neg, .slice A ds.length c]) ∧ Row w' A (u32s ds) ∧ (∀ a, A = some a → W.heap.size ≤ a.block) ∧ RdC w' g rest due ∧ Only g W w' := by
  have hgW : g < W.heap.size := cell_lt hr.c0
  have c0 : W.cell? ⟨g, 0, none⟩ = some (.string ⟨((if neg then [45] else []) ++ (digsK ds ++ 32 :: rest)).toArray⟩) := hr.c0
  have f0 : W.frozen? ⟨g, 0, none⟩ = false := hr.f
  have HC := fun w => Tryz.strings_CutPrefix ⟨((if neg then [45] else []) ++ (digsK ds ++ 32 :: rest)).toArray⟩ ⟨#[45]⟩ w
  have e1 : (⟨((if neg then [45] else []) ++ (digsK ds ++ 32 :: rest)).toArray⟩ : ByteArray).data.toList = (if neg then [45] else []) ++ (digsK ds ++ 32 :: rest) := rfl
  have e2 : (⟨#[45]⟩ : ByteArray).data.toList = [45] := rfl
  have e3 : trimPrefix ((if neg then [45] else []) ++ (digsK ds ++ 32 :: rest)) [45] = digsK ds ++ 32 :: rest ∧ hasPrefix ((if neg then [45] else []) ++ (digsK ds ++ 32 :: rest)) [45] = neg := by
    have h45 : ∀ (ds : List Nat) (q : List UInt8), hasPrefix (digsK ds ++ 32 :: q) [45] = false := fun ds q => by
      cases ds with
      | nil => rfl
      | cons d ds =>
        obtain ⟨c, l, e, hc⟩ := dec_head d
        unfold digsK
        rw [e]
        have : (45 == c) = false := by
          refine beq_eq_false_iff_ne.2 fun e => ?_
          rw [← e] at hc
          exact absurd hc (by unfold isDig; decide)
        simp [hasPrefix, List.isPrefixOf, this]
    cases neg with
    | true => exact ⟨(pre_cut 45 _).2, (pre_cut 45 _).1⟩
    | false =>
      refine ⟨?_, h45 ds rest⟩
      show trimPrefix (digsK ds ++ 32 :: rest) [45] = _
      unfold trimPrefix
      rw [h45]; rfl
  simp only [e1, e2, e3.1, e3.2] at HC
  have HC := hid HC
  obtain ⟨S, hS⟩ : ∃ S : ByteArray, S = ⟨((if neg then [45] else []) ++ (digsK ds ++ 32 :: rest)).toArray⟩ := ⟨_, rfl⟩
  obtain ⟨R, hR⟩ : ∃ R : ByteArray, R = ⟨(digsK ds ++ 32 :: rest).toArray⟩ := ⟨_, rfl⟩
  rw [← hS, ← hR] at HC
  rw [← hS] at c0
  have HH := hid (show _ ∧ _ ∧ _ ∧ _ ∧ _ ∧ _ ∧ _ from ⟨hr, hs, hl, hdl, hM, hMg, hR⟩)
  clear hr hs hl hdl hM hMg hR hS e1 e2 e3
  go_enter Tryz.func58, Tryz.ntmps58
  go_wp2_with fail
  refine (HC.out _).mono ?_
  rintro e w1 ⟨rfl, rfl⟩
  go_wp2_with fail
  obtain ⟨hr, hs, hl, hdl, hM, hMg, hR⟩ := HH.out
  have HS0 := hid (dig_start (neg := neg) hr hR)
  have H2 := hid (show _ ∧ _ ∧ _ ∧ _ ∧ _ ∧ _ from ⟨hs, hl, hdl, hM, hMg, hgW⟩)
  clear hr hs hl hdl hM hMg hR hgW c0 f0 HC HH
  go_loopg [19] ds.length (fun r _ wr => ∃ (v : Value) (done todo : List Nat), Hid (done ++ todo = ds ∧ todo.length = r ∧ DigR W g neg rest due wr v done todo))
  case atStart =>
    exact ⟨.slice none 0 0, [], ds, hid ⟨rfl, rfl, HS0.out⟩⟩
  case round =>
    rename_i J KK hJ hKK
    obtain ⟨v, done, todo, HI⟩ := hrel
    obtain ⟨hd, hk, h⟩ := HI.out
    have gl : wr.cell? ⟨g, 0, none⟩ = some (.string ⟨(digsK todo ++ 32 :: rest).toArray⟩) := h.left.c0
    have fl : wr.frozen? ⟨g, 0, none⟩ = false := h.left.f
    have HP := fun w => Tryz.strings_HasPrefix ⟨(digsK todo ++ 32 :: rest).toArray⟩ ⟨#[32]⟩ w
    have e1 : (⟨(digsK todo ++ 32 :: rest).toArray⟩ : ByteArray).data.toList = digsK todo ++ 32 :: rest := rfl
    have e2 : (⟨#[32]⟩ : ByteArray).data.toList = [32] := rfl
    simp only [e1, e2] at HP
    obtain ⟨S1, hS1⟩ : ∃ S1 : ByteArray, S1 = ⟨(digsK todo ++ 32 :: rest).toArray⟩ := ⟨_, rfl⟩
    rcases todo with _ | ⟨d, todo⟩
    · have hp : hasPrefix (digsK [] ++ 32 :: rest) [32] = true := (pre_cut 32 rest).1
      simp only [hp] at HP
      rw [← hS1] at gl HP
      have HP := hid HP
      obtain ⟨A, c, rfl⟩ := h.row.slice
      have m0 : wr.cell? ⟨W.heap.size + 1, 0, none⟩ = some (.bool neg) := cell_of_row wr _ 0 _ _ _ h.num
      have HK := hid (skip_ok (c := 32) (show RdC wr g (32 :: rest) due from h.left))
      have HD := hid (show _ ∧ _ ∧ _ from ⟨h, H2.out.2.2.2.2.2, hd⟩)
      clear h HI hS1 e1 e2 hk hd fl m0
      go_wp2_with fail
      refine (HP.out _).mono ?_
      rintro e w1 ⟨rfl, hw⟩
      have hw := hw.symm
      subst hw
      go_wp2_with fail
      refine HK.out.mono ?_
      rintro e w2 ⟨⟨u, rfl⟩, r2, o2⟩
      obtain ⟨h, hgW, hd⟩ := HD.out
      have hsz := h.only.size
      have n0 : w2.heap[W.heap.size + 1]? = some (.cells #[.bool neg, .slice A done.length c] 26 (0, 0)) := (o2.block _ (by have := cell_lt (cell_of_row wr (W.heap.size + 1) 0 _ _ _ h.num); exact this) (by omega)).trans h.num
      have n1 : w2.heap[W.heap.size]? = some (.cells #[.bool false, .slice none 0 0] 26 (0, 0)) := (o2.block _ (by have := cell_lt (cell_of_row wr W.heap.size 0 _ _ _ h.res); exact this) (by omega)).trans h.res
      have m0 : w2.cell? ⟨W.heap.size + 1, 0, none⟩ = some (.bool neg) := cell_of_row w2 _ 0 _ _ _ n0
      have m1 : w2.cell? ⟨W.heap.size + 1, 1, none⟩ = some (.slice A done.length c) := cell_of_row w2 _ 1 _ _ _ n0
      have k0 : w2.cell? ⟨W.heap.size, 0, none⟩ = some (.bool false) := cell_of_row w2 _ 0 _ _ _ n1
      have k1 : w2.cell? ⟨W.heap.size, 1, none⟩ = some (.slice none 0 0) := cell_of_row w2 _ 1 _ _ _ n1
      have fk : ∀ o, w2.frozen? ⟨W.heap.size, o, none⟩ = false := fun o => by simp [World.frozen?, n1]
      have fk0 := fk 0
      have fk1 := fk 1
      have hgn : W.heap.size ≠ g := by omega
      have HE := hid (show ∀ wf, wf = (w2.setCell ⟨W.heap.size, 0, none⟩ (.bool neg)).setCell ⟨W.heap.size, 1, none⟩ (.slice A done.length c) → wf.heap[W.heap.size]? = some (.cells #[.bool neg, .slice A done.length c] 26 (0, 0)) ∧ Row wf A (u32s ds) ∧ (∀ a, A = some a → W.heap.size ≤ a.block) ∧ RdC wf g rest due ∧ Only g W wf from by
        intro wf hwf
        subst hwf
        have hrow := h.row.row
        have hd' : done = ds := by rw [← hd]; exact (List.append_nil _).symm
        have hkeep : ∀ k, k < wr.heap.size → k ≠ g → k ≠ W.heap.size → ((w2.setCell ⟨W.heap.size, 0, none⟩ (.bool neg)).setCell ⟨W.heap.size, 1, none⟩ (.slice A done.length c)).heap[k]? = wr.heap[k]? := fun k h1 h2 h3 => (Below.heap_setCell _ _ _ _ h3).trans ((Below.heap_setCell _ _ _ _ h3).trans (o2.block k h1 h2))
        refine ⟨two_set n1, ?_, fun a ha => by have := hrow.2 a ha; omega, ?_, ?_⟩
        · intro j v hj
          rw [← hd'] at hj
          obtain ⟨a, ha, hc⟩ := hrow.1 j v hj
          refine ⟨a, ha, (cell_congr (hkeep _ (cell_lt hc) ?_ ?_)).trans hc⟩ <;> (rw [add_block]; have := hrow.2 a ha; omega)
        · exact ((Below.heap_setCell _ _ _ _ (Ne.symm hgn)).trans (Below.heap_setCell _ _ _ _ (Ne.symm hgn))).trans r2
        · refine ⟨o2.os.trans h.only.os, o2.tape.trans h.only.tape, o2.output.trans h.only.output, by have := o2.size; simp; omega, fun k hk hne => (hkeep k (by omega) hne (by omega)).trans (h.only.block k hk hne)⟩)
      have hde := hid (show done.length = ds.length from by rw [← hd]; simp)
      clear fk n0 n1 HK HP gl HD h hsz r2 o2 hgW hd H2 HS0
      go_wp2
      obtain ⟨wf, hwf⟩ : ∃ wf, wf = (w2.setCell ⟨W.heap.size, 0, none⟩ (.bool neg)).setCell ⟨W.heap.size, 1, none⟩ (.slice A done.length c) := ⟨_, rfl⟩
      rw [← hwf]
      obtain ⟨q0, q1, q2, q3, q4⟩ := HE.out wf hwf
      have r0 : wf.cell? ⟨W.heap.size, 0, none⟩ = some (.bool neg) := cell_of_row wf _ 0 _ _ _ q0
      have r1 : wf.cell? ⟨W.heap.size, 1, none⟩ = some (.slice A done.length c) := cell_of_row wf _ 1 _ _ _ q0
      refine bodyPost_ret (v := .agg #[.bool neg, .slice A done.length c]) (by simp [results, Tryz.results58, go_sem, r0, r1]) rfl ⟨A, c, by rw [hde.out], q1, q2, q3, q4⟩
    · have hp : hasPrefix (digsK (d :: todo) ++ 32 :: rest) [32] = false := by
        obtain ⟨c, l, e, hc⟩ := dec_head d
        unfold digsK
        rw [e]
        have : (32 == c) = false := by
          refine beq_eq_false_iff_ne.2 fun e => ?_
          rw [← e] at hc
          exact absurd hc (by unfold isDig; decide)
        simp [hasPrefix, List.isPrefixOf, this]
      simp only [hp] at HP
      rw [← hS1] at gl HP
      have HP := hid HP
      obtain ⟨A, c, rfl⟩ := h.row.slice
      obtain ⟨hs, hl, hdl, hM, hMg, hgW⟩ := H2.out
      have hsz := h.only.size
      have hd32 : d < 4294967296 := hs d (by rw [← hd]; simp)
      have hll : (digsK (d :: todo) ++ 32 :: rest).length ≤ 100000000 := by
        refine Nat.le_trans ?_ hl
        rw [← hd, digsK_append]
        simp only [List.length_append]
        omega
      have e5 : digsK (d :: todo) ++ 32 :: rest = decDigits d ++ 46 :: (digsK todo ++ 32 :: rest) := by show (decDigits d ++ 46 :: digsK todo) ++ 32 :: rest = _; simp
      have hrd := h.left
      rw [e5] at hrd hll
      have HN := hid (show Calls Tryz.prog 55 #[.pointer (some ⟨g, 0, none⟩), .string ⟨#[46]⟩, .int .i64 32] wr.drew _ from number_ok (W := wr.drew) (bits := 32) (n := d) (s := 46) (M := M) (.inr (.inl rfl)) hd32 (by unfold isDig; decide) hrd hll (hM.on (N := M) ((h.only.below hMg (by omega)).trans ⟨rfl, rfl, rfl, Nat.le_refl _, fun _ _ => rfl⟩) (Nat.le_refl _)) hMg)
      have HN2 := hid (show Calls Tryz.prog 55 #[.pointer (some ⟨g, 0, none⟩), .string ⟨#[46]⟩, .int .i64 32] wr _ from number_ok (W := wr) (bits := 32) (n := d) (s := 46) (M := M) (.inr (.inl rfl)) hd32 (by unfold isDig; decide) hrd hll (hM.on (N := M) (h.only.below hMg (by omega)) (Nat.le_refl _)) hMg)
      have m1 : wr.cell? ⟨W.heap.size + 1, 1, none⟩ = some (.slice A done.length c) := cell_of_row wr _ 1 _ _ _ h.num
      have hdn : done.length ≤ 1000000 := by
        refine Nat.le_trans ?_ hdl
        rw [← hd]; simp
      have HKK := hid (show todo.length < gk from by rw [← hk]; exact Nat.lt_succ_self _)
      have HD := hid (show _ ∧ _ ∧ _ ∧ _ ∧ _ from ⟨h, hgW, hd, hsz, hdn⟩)
      have hN2 : W.heap.size + 2 ≤ wr.heap.size := by have := cell_lt m1; exact this
      have H1 := hid (show _ ∧ _ ∧ _ ∧ _ from ⟨h.row, hN2, hdn, hd32⟩)
      have ewr : IntKind.u32.wrap (d : Int) = d := by rw [IntKind.wrap_u32]; omega
      clear h HI hS1 e1 e2 hk hd fl e5 hrd hll hs hl hdl hM hMg hgW hsz hd32 hdn hN2
      go_wp2_with fail
      refine (HP.out _).mono ?_
      rintro e w1 ⟨rfl, hw⟩
      have hw := hw.symm
      subst hw
      go_wp2_with fail
      have HG := hid (show _ ∧ _ ∧ _ ∧ _ ∧ _ ∧ _ from ⟨HD.out.2.1, H1, HD.out.1.num, ewr, m1, HN⟩)
      clear ewr m1 HN gl
      refine name_frame (G := fun a => Code.wp _ _ _ a _) ?_
      intro a0 ha0
      have hN : a0.tmps.size = 33 := by rw [ha0]; rfl
      have h00 : a0.eval (.tmp 0) = .pointer (some ⟨g, 0, none⟩) := by rw [ha0]; rfl
      have h03 : a0.eval (.tmp 3) = .pointer (some ⟨W.heap.size + 1, 0, none⟩) := by rw [ha0]; rfl
      refine wp_region_grow (by kernel_rfl) (DInv wr W.heap.size g d (.slice A done.length c) done (digsK todo ++ 32 :: rest) due) (fun _ => true) [ [], [(0, some 22)], [], [(2, some 24)], [(3, some 25)], [(4, some 26)], [(1, some 23), (5, some 27)], [], [(7, some 29), (6, some 28)] ] [(0, some 22), (1, some 23), (2, some 24), (3, some 25), (4, some 26), (5, some 27), (6, some 28), (7, some 29), (8, none)] (by rw [hN]; kernel_rfl) ?_ ?_ ?_ ?_ ?_
      · exact fun W' h => DInv.start h
      · intro i o gg ho hgd
        exfalso
        rcases i with _ | _ | _ | _ | _ | _ | _ | _ | _ | i <;> first | (cases ho; cases hgd) | cases ho
      · intro i _ h
        cases h
      · intro i o ho _
        rcases i with _ | _ | _ | _ | _ | _ | _ | _ | _ | i
        · cases ho; exact g_addr (L := fun _ => true) (x := fun _ => undef) (.inl ⟨rfl, rfl⟩) hN h03
        · cases ho; exact g_load hN HG.out.1 HG.out.2.2.2.2.1
        · cases ho; exact g_move hN h00
        · cases ho; exact g_call hN (fun w hw => by
            rcases hw with rfl | rfl
            · exact HN2.out
            · exact HG.out.2.2.2.2.2.out)
        · cases ho; exact g_conv hN HG.out.2.1.out.2.2.2
        · cases ho; exact g_slice hN
        · cases ho; exact g_append hN HG.out.1 HG.out.2.1.out.1 HG.out.2.1.out.2.1 HG.out.2.1.out.2.2.1
        · cases ho; exact g_addr (L := fun _ => true) (x := fun _ => undef) (.inr ⟨rfl, rfl⟩) hN h03
        · cases ho; exact g_store hN HG.out.1 HG.out.2.1.out.1 HG.out.2.2.1
        · cases ho
      · intro L x w' hL hI
        obtain ⟨w3, w4, r3, o3, u4, g4, rfl⟩ := hI.f (hL 8 (by decide))
        have HE := hid (show (done ++ [d]) ++ todo = ds ∧ todo.length = todo.length ∧ DigR W g neg rest due (w4.setCell ⟨W.heap.size + 1, 1, none⟩ (x 6)) (x 6) (done ++ [d]) todo from ⟨by rw [← HD.out.2.2.1]; simp, rfl, dig_next HD.out.1 HD.out.2.1 r3 o3 u4 g4⟩)
        have eP : putE x a0 [(0, some 22), (1, some 23), (2, some 24), (3, some 25), (4, some 26), (5, some 27), (6, some 28), (7, some 29), (8, none)] = { tmps := #[.pointer (some ⟨g, 0, none⟩), undef, .pointer (some ⟨W.heap.size, 0, none⟩), .pointer (some ⟨W.heap.size + 1, 0, none⟩), .tuple #[.string R, .bool neg], .pointer (some ⟨g, 0, none⟩), .pointer (some ⟨g, 0, none⟩), .pointer (some ⟨g, 0, none⟩), .pointer (some ⟨g, 0, none⟩), .string S, .tuple #[.string R, .bool neg], .string R, .bool neg, .pointer (some ⟨g, 0, none⟩), .pointer (some ⟨g, 0, none⟩), .pointer (some ⟨W.heap.size + 1, 0, none⟩), .pointer (some ⟨g, 0, none⟩), .pointer (some ⟨g, 0, none⟩), .pointer (some ⟨g, 0, none⟩), .string S1, .bool false, .bool true, x 0, x 1, x 2, x 3, x 4, x 5, x 6, x 7, undef, undef, undef], defers := [] } := by
          rw [ha0]; kernel_rfl
        rw [eP]
        clear ha0 hN h00 h03 hL hI r3 o3 u4 g4 eP
        show KK _ _
        refine hKK _ _ ?_
        go_roundg todo.length
        case rel => exact ⟨x 6, done ++ [d], todo, HE⟩
        case measure => exact HKK.out
end Go.Proofs.YtlikpnaffpngiaaGreatDoor

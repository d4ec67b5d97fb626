/- The law NumTexts, walked: of any text and any number of 64 bits the call returns true. Premise: the table of powers of ten reads as it is laid. NumTexts, its row and its card: for every text and every number of 64 bits the call returns true; both read as they did. The row's conditions: the three tables of the library read as the program's text lays them. -/
import Derived.Test.YtbjcddfoajgebaaDoorNum13
import Derived.Test.YtbjcddfoajgebaaDoorNum5
import Derived.Test.YtbjcddfoajgebaaDoorTab
import Derived.Test.YtbjcddfoajgebaaDoorTie
import Derived.Test.YtbjcddfoajgebaaDoorCards
import Derived.SevenTiedAt
namespace Go.Proofs.YtbjcddfoajgebaaDoor
open Go.RowKit

set_option maxRecDepth 100000 in
set_option maxHeartbeats 4000000 in
theorem lawNumTexts (s : ByteArray) (n : Int) (hn1 : -9223372036854775808 ≤ n) (hn2 : n ≤ 9223372036854775807) (w : World) (htab : Tab w) (hw : 3 ≤ w.heap.size) :
    Calls Tryd.prog 4 #[.string s, .int .i64 n] w fun e w' => e = .returned (.bool true) ∧ Below w.heap.size w w' := by
  have haw := fun (W : World) (hW : Below w.heap.size w W) => awake2_any W (htab.below hW hw) (Nat.le_trans hw hW.size)
  have HA := Lib.hid haw
  have HO1 := Lib.hid fun (W : World) => numOfInt_any (w := W) n n.natAbs hn1 hn2 rfl
  have HO2 := Lib.hid fun (W : World) => ref2Of_any (w := W) n n.natAbs hn1 hn2 rfl
  clear haw htab hn1 hn2
  rcases Nat.lt_or_ge 4000 s.size with h4 | h4
  · go_enter Tryd.func4, Tryd.ntmps4
    go_wp2_with fail
    refine (HA.out _ (Below.refl _ _)).mono ?_
    rintro e w1 ⟨rfl, hb1⟩
    go_wp2
    go_returns
    exact ⟨rfl, hb1⟩
  · obtain ⟨v, N, b, ok, _, _, h1, h2⟩ := parse_of s h4
    have H1 := Lib.hid h1
    have H2 := Lib.hid h2
    clear h1 h2
    obtain ⟨sg, hsg⟩ : ∃ sg, sg = decide (n < 0) := ⟨_, rfl⟩
    rw [← hsg] at HO1 HO2
    clear hsg
    go_enter Tryd.func4, Tryd.ntmps4
    go_wp2_with fail
    refine (H1.out _).mono ?_
    rintro e w1 ⟨A1, k1, c1, rfl, r1, _, b1⟩
    go_wp2_with fail
    obtain ⟨W1, hW1⟩ : ∃ W, W = w1.alloc (Obj.cells #[Value.bool b, Value.slice A1 k1 c1] 29) := ⟨_, rfl⟩
    have bw1 : Below w1.heap.size w1 W1 := by rw [hW1]; exact bal (Below.refl _ _) _
    have K1 : W1.heap[w1.heap.size]? = some (Obj.cells #[Value.bool b, Value.slice A1 k1 c1] 29) := by rw [hW1]; exact heap_alloc_new _ _
    rw [← hW1]
    clear hW1
    refine (H2.out _).mono ?_
    rintro e w2 ⟨A2, k2, c2, rfl, r2, _, b2⟩
    have hl1 := lt_block K1
    obtain ⟨p1, p2, _, _⟩ := cell_of_two ((b2.block _ hl1).trans K1)
    have r1 := (r1.below bw1).below b2
    have bb := bstep (bstep b1 bw1) b2
    have hl2 : w1.heap.size < w2.heap.size := Nat.lt_of_lt_of_le hl1 b2.size
    have HS := Lib.hid fun (W : World) (hW : Below w2.heap.size w2 W) => same2_yes (b := b) (r1.below hW) (r2.below hW)
    clear b1 b2 bw1 K1 r1 r2 hl1
    have hok : (ok == ok) = true := by simp
    go_wp2_with fail
    refine (HS.out _ (bal (Below.refl _ _) _)).mono ?_
    rintro e w3 ⟨rfl, b3⟩
    have bb := bstep bb (bstep (bal (Below.refl _ _) _) b3)
    clear b3 p1 p2
    go_wp2_with fail
    refine (HO1.out _).mono ?_
    rintro e w4 ⟨A4, k4, c4, rfl, r4, _, b4⟩
    go_wp2_with fail
    refine (HO2.out _).mono ?_
    rintro e w5 ⟨A5, k5, c5, rfl, r5, _, b5⟩
    have HS2 := Lib.hid (same2_yes (b := sg) (r4.below b5) r5)
    have bb := bstep (bstep bb b4) b5
    clear b4 b5 r4 r5
    go_wp2_with fail
    refine HS2.out.mono ?_
    rintro e w6 ⟨rfl, b6⟩
    have bb := bstep bb b6
    clear b6
    have HA6 := Lib.hid (HA.out _ bb)
    go_wp2_with fail
    refine HA6.out.mono ?_
    rintro e w7 ⟨rfl, b7⟩
    have bb := bstep bb b7
    clear b7
    go_wp2
    go_returns
    exact ⟨rfl, bb⟩
end Go.Proofs.YtbjcddfoajgebaaDoor

namespace Go.Proofs.YtbjcddfoajgebaaDoor
open Go.ChangeShapes Go.WideShapes Go.ChangeAt Go.WideMaps Go.WideElems Go.RowKit
open Go.ChangeMaps (setBlock shut_map_nil open_string shut_string keptBut_setBlock frozen?_setBlock heap_setBlock_same)

theorem wf_i64 {n : Int} (h : (Lit.int .i64 n).wf = true) : -9223372036854775808 ≤ n ∧ n ≤ 9223372036854775807 := by
  have h2 := h
  rw [Lit.wf, Bool.and_eq_true, decide_eq_true_eq, decide_eq_true_eq] at h2
  have h3 : IntKind.min .i64 = -9223372036854775808 := rfl
  have h4 : IntKind.max .i64 = 9223372036854775807 := rfl
  omega
theorem string_ok : Tryd.prog.readableRec 9 = true ∧ 9 < Tryd.prog.types.size := ⟨by kernel_rfl, of_decide_eq_true (by kernel_rfl)⟩
theorem int64_ok : Tryd.prog.readableRec 2 = true ∧ 2 < Tryd.prog.types.size := ⟨by kernel_rfl, of_decide_eq_true (by kernel_rfl)⟩

set_option maxRecDepth 100000 in
theorem numTexts_lifted (os : Os) (started : os.Started) (H : Type) (enc : TypeId × Value → H) :
    ReturnsInHanded {} Tryd.checked os 4 .any (fun w args => (Rows.numTextsSpec.pre enc Tryd.prog Tryd.f4 [] false w args ∧ laidMetH Tryd.prog laid3 w) ∧ sizedMet enc Tryd.prog Tryd.f4 (OpenSpec.ofChange Rows.numTextsSpec) false w args)
      (Rows.numTextsSpec.post enc Tryd.prog Tryd.f4 false true false false) := by
  refine returnsInHanded_of_change_and (C := Tryd.checked) (X := fun w _ => laidMetH Tryd.prog laid3 w) (fun _ _ _ hh h => h.of_heap hh) own started (by kernel_rfl) Tryd.func4
    (ChangeSpec.witness_shaped (enc := enc) (C := Tryd.checked) (os := os) (X := fun w _ => laidMetH Tryd.prog laid3 w) false (World.doorLaid Tryd.prog 400 os) #[.string ⟨#[]⟩, .int .i64 0] 8 rfl (World.shaped_of_RefB (by kernel_rfl) (by kernel_rfl)) (by kernel_rfl) (by kernel_rfl) (by kernel_rfl) (door_met os _)) ?_
  intro W base args ds gs before hval0 hW _ _ hL _
  have hval : ∀ (j : Nat) t v, Tryd.f4.params[j]? = some t → args[j]? = some v → Value.okWide Tryd.prog W .any base t v := hval0
  have hW' := hW
  obtain ⟨p, q, hA0, hV, rfl, hfz, hnd⟩ := hW
  have hA : DataW.TrodAll enc Tryd.prog W 0 (fun _ => true) true Tryd.f4.params.toList args.toList ds p := hA0
  have hlt := hA.lt
  rw [ Tryd.params4 ] at hA hval
  have hAk := hA
  obtain ⟨v0, v1, d0, d1, p0, p1, rfl, rfl, rfl, h0, h1⟩ := trodAll_two hA
  obtain ⟨rfl, rfl⟩ := trodVars_none hV
  obtain ⟨s, rfl, rfl, rfl, hs⟩ := open_string Tryd.underlying9 (hval 0 9 v0 rfl rfl) h0
  obtain ⟨n, rfl, rfl, rfl, hn⟩ := open_int Tryd.underlying2 (hval 1 2 v1 rfl rfl) h1
  obtain ⟨ht, hw3⟩ := tab_of_laid hL
  clear hA0 hval0
  simp only [List.append_nil] at hW'
  have e1 : Rows.numTextsSpec.fn H ([.lit (.string s.data.toList), .lit (.int .i64 n)] ++ []) = { results := [.lit (.bool true)], args := [.lit (.string s.data.toList), .lit (.int .i64 n)] } := by simp [Rows.numTextsSpec]
  refine (lawNumTexts s n (wf_i64 hn).1 (wf_i64 hn).2 W ht hw3).mono fun e W' ⟨he, hb⟩ => ?_
  subst he
  refine ⟨_, rfl, _, _, _, [], [] ++ [], [], hW', ?_, ?_, ?_, hb.frame _, fun h => by cases h⟩
  · rw [e1]; exact trodAll_mk1 (shut_bool Tryd.underlying4 true)
  · rw [e1]; exact below_trodAll hb (fun t ht => by
      rcases List.mem_cons.1 ht with h | h
      · rw [h]; exact string_ok
      · rw [List.mem_singleton.1 h]; exact int64_ok) hAk hlt
  · rw [e1]; rfl

theorem numTexts_said : Rows.NumTextsSaid :=
  OpenClaim.holds_of_wide 4 Tryd.f4 rfl rfl rfl rfl rfl rfl rfl ⟨rfl, rfl, rfl, rfl, rfl⟩ rfl rfl rfl rfl rfl (by kernel_rfl) Tryd.func4 (by kernel_rfl)
    (of_decide_eq_true (by kernel_rfl)) (by unfold Func.isWrapper; first | (rw [if_pos (by decide +kernel)]; kernel_rfl) | (rw [if_neg (by decide +kernel)]; exact ⟨rfl, rfl⟩))
    (fun os started H enc _ => numTexts_lifted os started H enc)

theorem numTexts_card : Rows.NumTextsCardSaid :=
  Claim7.holds_tied_plain_at .later [] [.data, .data, .data] true (true, Rows.numTextsCard.stood.harness.2) false
    numTexts_said (fun _ h => by cases h) (by kernel_rfl) (fun _ h => by cases h) numTexts_row_tie rfl ⟨rfl, rfl⟩ (by kernel_rfl) rfl
    (fun f fn hf hfn => by
      obtain rfl : f = 4 := Option.some.inj ((show Tryd.prog.funcNamed "whetstone/whetstonelaw02.NumTexts" = some 4 by kernel_rfl).symm.trans hf) |>.symm
      obtain rfl : fn = Tryd.f4 := (Option.some.inj (Tryd.func4.symm.trans hfn)).symm
      exact ⟨by kernel_rfl, fun j t ht => by
        rw [ Tryd.params4 ] at ht
        have hm : t ∈ [ 9, 2 ] := by simpa using Array.mem_of_getElem? ht
        have hall : ([ 9, 2 ].all fun u => !Tryd.prog.wantsStandIn u) = true := by kernel_rfl
        exact (show Tryd.prog.wantsStandIn t = false by simpa using List.all_eq_true.1 hall t hm)⟩)
    (by kernel_rfl)

/-- NumTexts: for every text and every number of 64 bits the call returns true, and both read behind the call as they read before. -/
theorem numTexts_proved : Rows.NumTextsCardSaid := numTexts_card
end Go.Proofs.YtbjcddfoajgebaaDoor

/- RatioOrder, its row and its card: for every three ratios the call returns true; the ratios read behind the call as they read before. Conditions: those of the given row and card: the three tables of the library are laid as the program's text lays them. A ratio that came in, opened; the wrap of a law's row with the world's shape kept beside the laid tables; the library's cell that its search asks. No condition. -/
import Derived.Test.YthgclmkhmcfflaaGreatDoorTie
import Derived.Test.YthgclmkhmcfflaaGreatDoorCards
import Derived.SevenTiedAt
import Derived.Shelf.Vars
import Derived.Test.YthgclmkhmcfflaaGreatDoorO1
import Derived.Test.YthgclmkhmcfflaaGreatDoorO2
import Derived.Test.YthgclmkhmcfflaaGreatDoorO3
import Derived.Test.YthgclmkhmcfflaaGreatDoorO4
import Derived.Test.YthgclmkhmcfflaaGreatDoorO5
import Derived.Test.YthgclmkhmcfflaaGreatDoorO6
import Derived.Test.YthgclmkhmcfflaaGreatDoorO7
namespace Go.Proofs.YthgclmkhmcfflaaGreatDoor
open Go.ChangeShapes Go.WideShapes Go.ChangeAt Go.WideMaps Go.WideElems Go.RowKit
open Go.ChangeMaps (setBlock shut_map_nil open_string shut_string keptBut_setBlock frozen?_setBlock heap_setBlock_same)
set_option maxRecDepth 100000 in
theorem int_inner {H : Type} {enc : TypeId × Value → H} {W : World} {n : Nat} {c0 c1 : Value} {y : DataW H × List MemPlace} (h : DataW.trod enc Tryz.prog W 0 (fun _ => true) true n 25 [c0, c1] = some y) :
    ∃ (b : Bool) (A : Option Addr) (c : Nat) (ds : List Nat), c0 = .bool b ∧ c1 = .slice A ds.length c ∧ Row W A (u32s ds) ∧ small 4294967296 ds := by
  obtain ⟨y0, y1, m, _, _, h0, h1⟩ := trod_struct2 Tryz.underlying25 h
  have e0 : [c0, c1].drop 0 = [c0, c1] := rfl
  have k0 : Tryz.prog.cellsOf 4 = 1 := by kernel_rfl
  have k1 : Tryz.prog.cellsOf 23 = 1 := by kernel_rfl
  have h0' : DataW.trod enc Tryz.prog W 0 (fun _ => true) true m 4 [c0] = some y0 := by simpa [k0] using h0
  have h1' : DataW.trod enc Tryz.prog W 0 (fun _ => true) true m 23 [c1] = some y1 := by simpa [k1] using h1
  have hb : ∃ b, c0 = .bool b := by
    obtain ⟨b, hc, _⟩ := DataW.trod_bool Tryz.underlying4 h0'
    injection hc with hc
    exact ⟨b, hc⟩
  obtain ⟨b, rfl⟩ := hb
  rcases open_ints Tryz.underlying23 Tryz.underlying64 (by kernel_rfl) h1' with ⟨hcs, _⟩ | ⟨a, len, cap, zs, hcs, _, hl, hm, hz, _, hcell, hw⟩
  · injection hcs with hcs
    subst hcs
    exact ⟨b, none, 0, [], rfl, rfl, Row.nil _ _, small_nil _⟩
  · injection hcs with hcs
    subst hcs
    simp only [if_true] at hz
    have hll := lim_length (zs := zs) (n := len) (by omega)
    refine ⟨b, some a, cap, lim zs len, rfl, by rw [hll], lim_row hl hz hw (fun h => by cases h) (fun a' ha i hi => ?_), lim_small hw⟩
    injection ha with ha
    subst ha
    exact hcell i (by omega)
set_option maxRecDepth 100000 in
theorem open_apiRatio {H : Type} {enc : TypeId × Value → H} {W : World} {base : Nat} {v : Value} {d : DataW H} {ps : List MemPlace} (hv : Value.okWide Tryz.prog W .any base 27 v) (h : DataW.Trod enc Tryz.prog W 0 (fun _ => true) true 27 v d ps) :
    ∃ (b b' : Bool) (A A' : Option Addr) (c c' : Nat) (ds es : List Nat), v = .agg #[.bool b, .slice A ds.length c, .bool b', .slice A' es.length c'] ∧ Row W A (u32s ds) ∧ small 4294967296 ds ∧ Row W A' (u32s es) ∧ small 4294967296 es := by
  obtain ⟨cs, rfl, hsz⟩ := okWide_struct Tryz.underlying27 hv
  obtain ⟨c0, c1, c2, c3, rfl⟩ := Go.Joins.array4 (hsz.trans (show Tryz.prog.cellsOf 27 = 4 by kernel_rfl))
  obtain ⟨fuel, hf⟩ := h
  obtain ⟨y0, y1, n, _, _, h0, h1⟩ := trod_struct2 Tryz.underlying27 hf
  have k : Tryz.prog.cellsOf 25 = 2 := by kernel_rfl
  have h0' : DataW.trod enc Tryz.prog W 0 (fun _ => true) true n 25 [c0, c1] = some y0 := by simpa [Value.cells, k] using h0
  have h1' : DataW.trod enc Tryz.prog W 0 (fun _ => true) true n 25 [c2, c3] = some y1 := by simpa [Value.cells, k] using h1
  obtain ⟨b, A, c, ds, rfl, rfl, r1, s1⟩ := int_inner h0'
  obtain ⟨b', A', c', es, rfl, rfl, r2, s2⟩ := int_inner h1'
  exact ⟨b, b', A, A', c, c', ds, es, rfl, r1, s1, r2, s2⟩
theorem apiRatio_ok : Tryz.prog.readableRec 27 = true ∧ 27 < Tryz.prog.types.size := ⟨by kernel_rfl, of_decide_eq_true (by kernel_rfl)⟩
set_option maxRecDepth 100000 in
theorem maxL_of {W : World} (h : W.ShapedOpen Tryz.prog) : MaxL W :=
  cell_of_shapedOpen_int (P := Tryz.prog) (g := 0) (t := 3) (zero := #[.int .i64 0]) h (of_decide_eq_true (by kernel_rfl)) (by kernel_rfl) rfl (by kernel_rfl) (by kernel_rfl) Tryz.underlying3
set_option maxRecDepth 100000 in
/-- The wrap, with the world's shape and what holds of it besides. -/
theorem handed_and_shape {H : Type} {enc : TypeId × Value → H} {os : Os} {f : FuncId} {fn : Func} {s : ChangeSpec} {apart fresh handsOn again : Bool} {X : World → Prop} (hX : ∀ w w' : World, w.heap = w'.heap → X w → X w') (started : os.Started) (noInit : Tryz.checked.prog.inits.idxOf? f = none) (hfn : Tryz.checked.prog.funcs[f]? = some fn)
    (witness : ∃ (w : World) (tape : Tape) (i : Input), w.os = os ∧ (w.forCall tape i).Shaped Tryz.checked.prog ∧ i.vars = [] ∧ Input.okWide Tryz.checked.prog (w.forCall tape i) .any w.heap.size f i ∧
      ((s.pre enc Tryz.checked.prog fn [] apart (w.forCall tape i).memory i.args ∧ X (w.forCall tape i).memory) ∧ sizedMet enc Tryz.checked.prog fn (OpenSpec.ofChange s) apart (w.forCall tape i).memory i.args) ∧ ({} : Assume).holds Tryz.checked.prog (lone (Frame.enter Tryz.checked.prog f i.args .normal) [] (w.forCall tape i)))
    (contract : ∀ (W : World) (base : Nat) (args : Array Value) (ds gs : List (DataW H)) (before : List MemPlace),
      (∀ (j : Nat) t v, fn.params[j]? = some t → args[j]? = some v → Value.okWide Tryz.checked.prog W .any base t v) →
      DataW.Whole enc Tryz.checked.prog fn.params.toList s.vars apart W args.toList ds gs before → W.ShapedOpen Tryz.checked.prog → X W →
      (DataW.weightsEach Tryz.checked.prog (fn.params.toList ++ s.plain.varTypes Tryz.checked.prog) (ds ++ gs)).all (· ≤ reachBytes) = true →
      Calls Tryz.checked.prog f args W fun e W' => ∃ v, e = .returned v ∧ s.post enc Tryz.checked.prog fn apart fresh handsOn again W args v W') :
    ReturnsInHanded {} Tryz.checked os f .any (fun w args => (s.pre enc Tryz.checked.prog fn [] apart w args ∧ X w) ∧ sizedMet enc Tryz.checked.prog fn (OpenSpec.ofChange s) apart w args) (s.post enc Tryz.checked.prog fn apart fresh handsOn again) := by
  refine returnsInHanded_of_calls own started noInit witness fun w tape i _ shape _ good met _ => ?_
  obtain ⟨_, _, _, g, hg, _, _, _, _, vals⟩ := good
  obtain rfl : g = fn := Option.some.inj (hg.symm.trans hfn)
  obtain ⟨⟨⟨ds, gs, before, whole, _⟩, x⟩, size⟩ := met
  exact (contract (w.forCall tape i) w.heap.size i.args ds gs before vals (DataW.Whole.of_heap (w' := w.forCall tape i) (by rfl) whole) shape (hX _ _ (by rfl) x) (size.weights whole)).mono fun _ _ ⟨v, e, p⟩ => e ▸ ChangeSpec.post_blind p
end Go.Proofs.YthgclmkhmcfflaaGreatDoor
namespace Go.Proofs.YthgclmkhmcfflaaGreatDoor
open Go.ChangeShapes Go.WideShapes Go.ChangeAt Go.WideMaps Go.WideElems Go.RowKit
open Go.ChangeMaps (setBlock shut_map_nil open_string shut_string keptBut_setBlock frozen?_setBlock heap_setBlock_same)
set_option maxRecDepth 100000 in
theorem ratioOrder_lifted (os : Os) (started : os.Started) (H : Type) (enc : TypeId × Value → H) :
    ReturnsInHanded {} Tryz.checked os 5 .any (fun w args => (Rows.ratioOrderSpec.pre enc Tryz.prog Tryz.f5 [] false w args ∧ laidMetH Tryz.prog laid3 w) ∧ sizedMet enc Tryz.prog Tryz.f5 (OpenSpec.ofChange Rows.ratioOrderSpec) false w args)
      (Rows.ratioOrderSpec.post enc Tryz.prog Tryz.f5 false true false false) := by
  refine handed_and_shape (X := fun w => laidMetH Tryz.prog laid3 w) (fun _ _ hh h => h.of_heap hh) started (by kernel_rfl) Tryz.func5
    (ChangeSpec.witness_shaped (enc := enc) (C := Tryz.checked) (os := os) (X := fun w _ => laidMetH Tryz.prog laid3 w) false (World.doorLaid Tryz.prog 400 os) #[.agg #[.bool false, .slice none 0 0, .bool false, .slice none 0 0], .agg #[.bool false, .slice none 0 0, .bool false, .slice none 0 0], .agg #[.bool false, .slice none 0 0, .bool false, .slice none 0 0]] 8 rfl (World.shaped_of_RefB (by kernel_rfl) (by kernel_rfl)) (by kernel_rfl) (by kernel_rfl) (by kernel_rfl) (door_met os _)) ?_
  intro W base args ds gs before hval0 hW hsh hL _
  have hval : ∀ (j : Nat) t v, Tryz.f5.params[j]? = some t → args[j]? = some v → Value.okWide Tryz.prog W .any base t v := hval0
  have hW' := hW
  obtain ⟨p, q, hA0, hV, rfl, hfz, hnd⟩ := hW
  have hA : DataW.TrodAll enc Tryz.prog W 0 (fun _ => true) true Tryz.f5.params.toList args.toList ds p := hA0
  have hlt := hA.lt
  rw [ Tryz.params5 ] at hA hval
  have hAk := hA
  obtain ⟨v0, v1, v2, d0, d1, d2, p0, p1, p2, rfl, rfl, rfl, h0, h1, h2⟩ := trodAll_three hA
  obtain ⟨rfl, rfl⟩ := trodVars_none hV
  obtain ⟨b1, b1', A1, A1', c1, c1', xs, xs', rfl, r1, s1, r1', s1'⟩ := open_apiRatio (hval 0 27 v0 rfl rfl) h0
  obtain ⟨b2, b2', A2, A2', c2, c2', ys, ys', rfl, r2, s2, r2', s2'⟩ := open_apiRatio (hval 1 27 v1 rfl rfl) h1
  obtain ⟨b3, b3', A3, A3', c3, c3', zs, zs', rfl, r3, s3, r3', s3'⟩ := open_apiRatio (hval 2 27 v2 rfl rfl) h2
  obtain ⟨ht, hw3⟩ := tab_of_laid hL
  have hm := maxL_of hsh
  have HT := Lib.hid (show Tab W ∧ 4 ≤ W.heap.size from ⟨ht, hw3⟩)
  clear hA0 hval0 hsh
  simp only [List.append_nil] at hW'
  have e1 : Rows.ratioOrderSpec.fn H ([d0, d1, d2] ++ []) = { results := [.lit (.bool true)], args := [d0, d1, d2] } := by simp [Rows.ratioOrderSpec]
  have hlaw : Calls Tryz.prog 5 #[.agg #[.bool b1, .slice A1 xs.length c1, .bool b1', .slice A1' xs'.length c1'], .agg #[.bool b2, .slice A2 ys.length c2, .bool b2', .slice A2' ys'.length c2'], .agg #[.bool b3, .slice A3 zs.length c3, .bool b3', .slice A3' zs'.length c3']] W fun e w' => e = .returned (.bool true) ∧ Below W.heap.size W w' := by
    cases hf : fewP [(xs.length, xs'.length), (ys.length, ys'.length), (zs.length, zs'.length)] with
    | false => exact lawOrder_great hf HT hm
    | true =>
      have hl := hf
      simp [fewP] at hl
      rcases right_came (b1 := b1) (b2 := b1') (c1 := c1) (c2 := c1') r1 s1 hl.1.1 r1' s1' hl.1.2 with ⟨a, q1⟩ | hr1
      · rcases right_came (b1 := b2) (b2 := b2') (c1 := c2) (c2 := c2') r2 s2 hl.2.1.1 r2' s2' hl.2.1.2 with ⟨b, q2⟩ | hr2
        · rcases right_came (b1 := b3) (b2 := b3') (c1 := c3) (c2 := c3') r3 s3 hl.2.2.1 r3' s3' hl.2.2.2 with ⟨c, q3⟩ | hr3
          · exact lawOrder_all hf q1 q2 q3 HT hm
          · exact lawOrder_no3 hf q1 q2 hr3 HT hm
        · exact lawOrder_no2 hf q1 hr2 HT hm
      · exact lawOrder_no1 hf hr1 HT hm
  refine hlaw.mono fun e W' ⟨he, hb⟩ => ?_
  subst he
  refine ⟨_, rfl, _, _, _, [], p0 ++ p1 ++ p2, [], hW', ?_, ?_, ?_, hb.frame _, fun h => by cases h⟩
  · rw [e1]; exact trodAll_mk1 (shut_bool Tryz.underlying4 true)
  · rw [e1]; exact below_trodAll hb (fun t ht => by
      have : t = 27 := by simpa using ht
      rw [this]; exact apiRatio_ok) hAk hlt
  · rw [e1]; rfl
theorem ratioOrder_said : Rows.RatioOrderSaid :=
  OpenClaim.holds_of_wide 5 Tryz.f5 rfl rfl rfl rfl rfl rfl rfl ⟨rfl, rfl, rfl, rfl, rfl⟩ rfl rfl rfl rfl rfl (by kernel_rfl) Tryz.func5 (by kernel_rfl)
    (of_decide_eq_true (by kernel_rfl)) (by unfold Func.isWrapper; first | (rw [if_pos (by decide +kernel)]; kernel_rfl) | (rw [if_neg (by decide +kernel)]; exact ⟨rfl, rfl⟩))
    (fun os started H enc _ => ratioOrder_lifted os started H enc)
theorem ratioOrder_card : Rows.RatioOrderCardSaid :=
  Claim7.holds_tied_plain_at .later [] [.data, .data, .data] true (true, Rows.ratioOrderCard.stood.harness.2) false
    ratioOrder_said (fun _ h => by cases h) (by kernel_rfl) (fun _ h => by cases h) ratioOrder_row_tie rfl ⟨rfl, rfl⟩ (by kernel_rfl) rfl
    (fun f fn hf hfn => by
      obtain rfl : f = 5 := Option.some.inj ((show Tryz.prog.funcNamed "whetstone/whetstonelaw03.RatioOrder" = some 5 by kernel_rfl).symm.trans hf) |>.symm
      obtain rfl : fn = Tryz.f5 := (Option.some.inj (Tryz.func5.symm.trans hfn)).symm
      exact ⟨by kernel_rfl, fun j t ht => by
        rw [ Tryz.params5 ] at ht
        have hm : t ∈ [ 27, 27, 27 ] := by simpa using Array.mem_of_getElem? ht
        have hall : ([ 27, 27, 27 ].all fun u => !Tryz.prog.wantsStandIn u) = true := by kernel_rfl
        exact (show Tryz.prog.wantsStandIn t = false by simpa using List.all_eq_true.1 hall t hm)⟩)
    (by kernel_rfl)
/-- RatioOrder: for every three ratios the call returns true, and they read behind the call as they read before. -/
theorem ratioOrder_proved : Rows.RatioOrderCardSaid := ratioOrder_card
end Go.Proofs.YthgclmkhmcfflaaGreatDoor

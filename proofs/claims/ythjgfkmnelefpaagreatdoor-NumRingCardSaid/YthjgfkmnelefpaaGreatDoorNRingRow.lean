/- NumRing, its row and its card: for every three numbers the call returns true; the numbers read behind the call as they read before. Conditions: those of the given row and card: the three tables of the library are laid as the program's text lays them. -/
import Derived.Test.YthjgfkmnelefpaaGreatDoorLawNRing
import Derived.Test.YthjgfkmnelefpaaGreatDoorStepZ
import Derived.Test.YthjgfkmnelefpaaGreatDoorTie
import Derived.Test.YthjgfkmnelefpaaGreatDoorCards
import Derived.SevenTiedAt
namespace Go.Proofs.YthjgfkmnelefpaaGreatDoor
open Go.ChangeShapes Go.WideShapes Go.ChangeAt Go.WideMaps Go.WideElems Go.RowKit
open Go.ChangeMaps (setBlock shut_map_nil open_string shut_string keptBut_setBlock frozen?_setBlock heap_setBlock_same)

theorem zd_came {W : World} {A : Option Addr} {c : Nat} {xs : List Nat} (k : Nat) (b : Bool) (hr : Row W A (u32s xs)) (hs : small 4294967296 xs) (hl : xs.length < k) (hk : k ≤ 4000) : Zd W (.agg #[.bool b, .slice A xs.length c]) k (zOf (val xs) b) :=
  ⟨b, A, _, c, val xs, rfl, rd_of hr hs (by omega), Nat.lt_of_lt_of_le (val_lt32 hs) (pow_le (by omega)), rfl⟩
theorem apiInt_ok : Tryz.prog.readableRec 29 = true ∧ 29 < Tryz.prog.types.size := ⟨by kernel_rfl, of_decide_eq_true (by kernel_rfl)⟩

set_option maxRecDepth 100000 in
theorem numRing_lifted (os : Os) (started : os.Started) (H : Type) (enc : TypeId × Value → H) :
    ReturnsInHanded {} Tryz.checked os 4 .any (fun w args => (Rows.numRingSpec.pre enc Tryz.prog Tryz.f4 [] false w args ∧ laidMetH Tryz.prog laid3 w) ∧ sizedMet enc Tryz.prog Tryz.f4 (OpenSpec.ofChange Rows.numRingSpec) false w args)
      (Rows.numRingSpec.post enc Tryz.prog Tryz.f4 false true false false) := by
  refine returnsInHanded_of_change_and (C := Tryz.checked) (X := fun w _ => laidMetH Tryz.prog laid3 w) (fun _ _ _ hh h => h.of_heap hh) own started (by kernel_rfl) Tryz.func4
    (ChangeSpec.witness_shaped (enc := enc) (C := Tryz.checked) (os := os) (X := fun w _ => laidMetH Tryz.prog laid3 w) false (World.doorLaid Tryz.prog 400 os) #[.agg #[.bool false, .slice none 0 0], .agg #[.bool false, .slice none 0 0], .agg #[.bool false, .slice none 0 0]] 8 rfl (World.shaped_of_RefB (by kernel_rfl) (by kernel_rfl)) (by kernel_rfl) (by kernel_rfl) (by kernel_rfl) (door_met os _)) ?_
  intro W base args ds gs before hval0 hW _ hsz hL _
  have hval : ∀ (j : Nat) t v, Tryz.f4.params[j]? = some t → args[j]? = some v → Value.okWide Tryz.prog W .any base t v := hval0
  have hW' := hW
  obtain ⟨p, q, hA0, hV, rfl, hfz, hnd⟩ := hW
  have hA : DataW.TrodAll enc Tryz.prog W 0 (fun _ => true) true Tryz.f4.params.toList args.toList ds p := hA0
  have hlt := hA.lt
  rw [ Tryz.params4 ] at hA hval hsz
  have hAk := hA
  obtain ⟨v0, v1, v2, d0, d1, d2, p0, p1, p2, rfl, rfl, rfl, h0, h1, h2⟩ := trodAll_three hA
  obtain ⟨rfl, rfl⟩ := trodVars_none hV
  obtain ⟨b1, A1, c1, xs, rfl, r1, s1, i1⟩ := open_apiInt (hval 0 29 v0 rfl rfl) h0
  obtain ⟨b2, A2, c2, ys, rfl, r2, s2, i2⟩ := open_apiInt (hval 1 29 v1 rfl rfl) h1
  obtain ⟨b3, A3, c3, zs, rfl, r3, s3, i3⟩ := open_apiInt (hval 2 29 v2 rfl rfl) h2
  have hk : xs.length ≤ 35184372087808 ∧ ys.length ≤ 35184372087808 ∧ zs.length ≤ 35184372087808 :=
    ⟨int_short hsz (j := 0) rfl rfl i1, int_short hsz (j := 1) rfl rfl i2, int_short hsz (j := 2) rfl rfl i3⟩
  obtain ⟨ht, hw3⟩ := tab_of_laid hL
  clear hA0 hval0 hsz
  simp only [List.append_nil] at hW'
  have e1 : Rows.numRingSpec.fn H ([d0, d1, d2] ++ []) = { results := [.lit (.bool true)], args := [d0, d1, d2] } := by simp [Rows.numRingSpec]
  have hlaw : Calls Tryz.prog 4 #[.agg #[.bool b1, .slice A1 xs.length c1], .agg #[.bool b2, .slice A2 ys.length c2], .agg #[.bool b3, .slice A3 zs.length c3]] W fun e w' => e = .returned (.bool true) ∧ Below W.heap.size W w' := by
    by_cases hb : 1000 < xs.length + ys.length + zs.length
    · exact lawNumRing_great hb hk ht hw3
    · exact lawNumRing_few (zd_came 1001 b1 r1 s1 (by omega) (by decide)) (zd_came 1001 b2 r2 s2 (by omega) (by decide)) (zd_came 1001 b3 r3 s3 (by omega) (by decide)) hb hk ht hw3
  refine hlaw.mono fun e W' ⟨he, hb⟩ => ?_
  subst he
  refine ⟨_, rfl, _, _, _, [], p0 ++ p1 ++ p2, [], hW', ?_, ?_, ?_, hb.frame _, fun h => by cases h⟩
  · rw [e1]; exact trodAll_mk1 (shut_bool Tryz.underlying4 true)
  · rw [e1]; exact below_trodAll hb (fun t ht => by
      have : t = 29 := by simpa using ht
      rw [this]; exact apiInt_ok) hAk hlt
  · rw [e1]; rfl

theorem numRing_said : Rows.NumRingSaid :=
  OpenClaim.holds_of_wide 4 Tryz.f4 rfl rfl rfl rfl rfl rfl rfl ⟨rfl, rfl, rfl, rfl, rfl⟩ rfl rfl rfl rfl rfl (by kernel_rfl) Tryz.func4 (by kernel_rfl)
    (of_decide_eq_true (by kernel_rfl)) (by unfold Func.isWrapper; first | (rw [if_pos (by decide +kernel)]; kernel_rfl) | (rw [if_neg (by decide +kernel)]; exact ⟨rfl, rfl⟩))
    (fun os started H enc _ => numRing_lifted os started H enc)

theorem numRing_card : Rows.NumRingCardSaid :=
  Claim7.holds_tied_plain_at .later [] [.data, .data, .data] true (true, Rows.numRingCard.stood.harness.2) false
    numRing_said (fun _ h => by cases h) (by kernel_rfl) (fun _ h => by cases h) numRing_row_tie rfl ⟨rfl, rfl⟩ (by kernel_rfl) rfl
    (fun f fn hf hfn => by
      obtain rfl : f = 4 := Option.some.inj ((show Tryz.prog.funcNamed "whetstone/whetstonelaw02.NumRing" = some 4 by kernel_rfl).symm.trans hf) |>.symm
      obtain rfl : fn = Tryz.f4 := (Option.some.inj (Tryz.func4.symm.trans hfn)).symm
      exact ⟨by kernel_rfl, fun j t ht => by
        rw [ Tryz.params4 ] at ht
        have hm : t ∈ [ 29, 29, 29 ] := by simpa using Array.mem_of_getElem? ht
        have hall : ([ 29, 29, 29 ].all fun u => !Tryz.prog.wantsStandIn u) = true := by kernel_rfl
        exact (show Tryz.prog.wantsStandIn t = false by simpa using List.all_eq_true.1 hall t hm)⟩)
    (by kernel_rfl)

/-- NumRing: for every three numbers the call returns true, and they read behind the call as they read before. -/
theorem numRing_proved : Rows.NumRingCardSaid := numRing_card
end Go.Proofs.YthjgfkmnelefpaaGreatDoor

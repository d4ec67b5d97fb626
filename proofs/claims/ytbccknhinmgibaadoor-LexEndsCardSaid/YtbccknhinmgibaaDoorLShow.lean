/- The law LexShows over any trees of which there are, words counted by eights, at most 10^9. -/
import Derived.Test.YtbccknhinmgibaaDoorLMany
import Derived.Test.YtbccknhinmgibaaDoorLTurn
import Derived.Test.YtbccknhinmgibaaDoorLRTxt
import Derived.Test.YtbccknhinmgibaaDoorLText
import Derived.Test.YtbccknhinmgibaaDoorLDeep
import Derived.Test.YtbccknhinmgibaaDoorLAwake
set_option linter.unusedVariables false
set_option linter.unusedSimpArgs false
namespace Go.Proofs.YtbccknhinmgibaaDoor
open Go.RowKit

theorem txt_tot : ∀ (f : Fo) (b : Bool), (txt b f).length ≤ 8 * f.tot
  | .nil, b => Nat.zero_le _
  | .cons s k row p r, b => by
    have hr := txt_tot r true
    have hk := txt_tot k false
    have hb : (if b then [32] else [] : List UInt8).length ≤ 1 := by cases b <;> simp
    have hs : s.data.toList.length = s.size := by simp
    cases row with
    | false =>
      simp only [txt, Fo.tot, Bool.false_eq_true, if_false, List.length_append]
      omega
    | true =>
      simp only [txt, Fo.tot, if_true, List.length_append, List.length_cons, List.length_nil]
      omega
theorem nodes_tot : ∀ f : Fo, f.nodes ≤ f.tot
  | .nil => Nat.le_refl _
  | .cons s k b p r => by
    have := nodes_tot k
    have := nodes_tot r
    simp only [Fo.nodes, Fo.tot]
    omega
theorem deep_tot : ∀ f : Fo, f.deep ≤ f.tot
  | .nil => Nat.le_refl _
  | .cons s k b p r => by
    have := deep_tot k
    have := deep_tot r
    simp only [Fo.deep, Fo.tot]
    split <;> omega
set_option maxRecDepth 100000 in
set_option maxHeartbeats 6400000 in
theorem lexShows_ok {w : World} {K : Option Addr} {c : Nat} {f : Fo} (hf : IsFo w (.slice K f.len c) f) (ht : f.tot ≤ 1000000000) : Calls Tryd.prog 10 #[.slice K f.len c] w fun e w' => e = .returned (.bool true) ∧ Below w.heap.size w w' := by
  obtain ⟨hat, hlen⟩ : FoAt w K 0 f ∧ f.len ≤ 140737488355328 := by
    obtain ⟨K', c', ee, _, _, hl1, hf1⟩ := hf
    simp only [Value.slice.injEq, true_and] at ee
    obtain ⟨rfl, rfl⟩ := ee
    exact ⟨hf1, hl1⟩
  have hml := many_le f 0 2000
  have HM := Lib.hid (many_ok (f.nodes + 1) f w K c 2000 (Nat.lt_succ_self _) hat hlen ht (by omega) (by omega))
  obtain ⟨q, hq⟩ : ∃ q, q = f.many 0 2000 := ⟨_, rfl⟩
  rw [← hq] at hml HM
  by_cases h : q ≤ 2000
  · have b1 : decide ((2000 : Int) < q) = false := decide_eq_false (by omega)
    have htot : f.tot ≤ 2000 := by
      have := hml.2.2 h
      omega
    have h1 := txt_tot f false
    have h2 := nodes_tot f
    have h3 := deep_tot f
    have HH := Lib.hid (show _ ∧ _ ∧ _ ∧ f.len ≤ 140737488355328 from ⟨hf, hat, htot, hlen⟩)
    have HX := Lib.hid (fun (w' : World) (h' : Below w.heap.size w w') => Text_ok (hf.below h') (by omega) (by omega))
    have HT := Lib.hid (fun (w' : World) (h' : Below w.heap.size w w') => turned_ok (f.nodes + 1) f w' K c (Nat.lt_succ_self _) (hat.bel h') (by omega))
    have HR := Lib.hid (fun (w' : World) (A : Option Addr) (c' : Nat) (h' : FoAt w' A 0 f) => rtext_ok (f.nodes + 1) f w' A c' (Nat.lt_succ_self _) h' hlen (by omega))
    have HD := Lib.hid (fun (w' : World) (h' : Below w.heap.size w w') => Deep_ok (hf.below h') (by omega))
    have HE := Lib.hid (fun (w' : World) (A : Option Addr) (c' : Nat) (h' : FoAt w' A 0 f) => rdeep_ok (f.nodes + 1) f w' A c' (Nat.lt_succ_self _) h' hlen (by omega))
    obtain ⟨S, hS⟩ : ∃ S : ByteArray, S = ⟨(txt false f).toArray⟩ := ⟨_, rfl⟩
    rw [← hS] at HX HR
    obtain ⟨d, hd⟩ : ∃ d : Int, d = (f.deep : Int) := ⟨_, rfl⟩
    rw [← hd] at HD HE
    have ys : (S.toList == S.toList) = true := beq_self_eq_true _
    have yd : (d == d) = true := beq_self_eq_true _
    clear hf hat hlen hml hq h htot h1 h2 h3 hS hd ht
    go_enter Tryd.func10, Tryd.ntmps10
    go_wp2_with fail
    refine HM.out.mono ?_
    rintro e w1 ⟨rfl, hd1⟩
    have HB1 := Lib.hid hd1.below
    clear hd1 HM
    go_wp2_with fail
    refine (HX.out _ HB1.out).mono ?_
    rintro e w2 ⟨rfl, hb2⟩
    have HB2 := Lib.hid (HB1.out.trans (hb2.mono HB1.out.size))
    clear hb2 HB1 HX
    go_wp2_with fail
    refine (HT.out _ HB2.out).mono ?_
    rintro e w3 ⟨K3, c3, rfl, _, _, hd3, hb3⟩
    have HB3 := Lib.hid (show _ ∧ FoAt w3 K3 0 f from ⟨HB2.out.trans (hb3.mono HB2.out.size), hd3.at⟩)
    clear hb3 hd3 HB2
    go_wp2_with fail
    refine (HR.out _ _ _ HB3.out.2).mono ?_
    rintro e w4 ⟨rfl, hd4⟩
    have HB4 := Lib.hid (HB3.out.1.trans (hd4.below.mono HB3.out.1.size))
    clear hd4 HB3 HR
    go_wp2_with fail
    refine (HD.out _ HB4.out).mono ?_
    rintro e w5 ⟨rfl, hb5⟩
    have HB5 := Lib.hid (HB4.out.trans (hb5.mono HB4.out.size))
    clear hb5 HB4 HD
    go_wp2_with fail
    refine (HT.out _ HB5.out).mono ?_
    rintro e w6 ⟨K6, c6, rfl, _, _, hd6, hb6⟩
    have HB6 := Lib.hid (show _ ∧ FoAt w6 K6 0 f from ⟨HB5.out.trans (hb6.mono HB5.out.size), hd6.at⟩)
    clear hb6 hd6 HB5 HT
    go_wp2_with fail
    refine (HE.out _ _ _ HB6.out.2).mono ?_
    rintro e w7 ⟨rfl, hd7⟩
    have HB7 := Lib.hid (HB6.out.1.trans (hd7.below.mono HB6.out.1.size))
    have HA := Lib.hid (awake_ok w7)
    clear hd7 HB6 HE
    go_wp2_with fail
    refine HA.out.mono ?_
    rintro e w8 ⟨rfl, hb8⟩
    have HB8 := Lib.hid (HB7.out.trans (hb8.mono HB7.out.size))
    clear hb8 HB7 HA
    go_wp2
    go_ret
    exact ⟨rfl, HB8.out⟩
  · have b1 : decide ((2000 : Int) < q) = true := decide_eq_true (by omega)
    clear hf hat hlen hml hq h ht
    go_enter Tryd.func10, Tryd.ntmps10
    go_wp2_with fail
    refine HM.out.mono ?_
    rintro e w1 ⟨rfl, hd1⟩
    have HB1 := Lib.hid hd1.below
    have HA := Lib.hid (awake_ok w1)
    clear hd1 HM
    go_wp2_with fail
    refine HA.out.mono ?_
    rintro e w2 ⟨rfl, hb2⟩
    have HB2 := Lib.hid (HB1.out.trans (hb2.mono HB1.out.size))
    clear hb2 HB1 HA
    go_wp2
    go_ret
    exact ⟨rfl, HB2.out⟩
end Go.Proofs.YtbccknhinmgibaaDoor

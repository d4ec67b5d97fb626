/- Package cong's walker: along: it goes along places, or throws. Premises: facts and places in memory; facts of weight at most 100000 each; at most 100000 places; the library's table as it is laid. Package cong's walker: end, walkerAt. Premises: facts in memory; terms of weight at most 100000 each; at most 100000 places; the library's table as it is laid. Package cong: node; copied, which makes a term anew; told, which tells what is done, or the error that is thrown. Premises: terms of weight at most 100000; the library's tables as they are laid. -/
import Derived.Test.YtlikpnaffpngiaaGreatDoorCEdge
import Derived.Deep.RegionHeld2
import Derived.Test.YtlikpnaffpngiaaGreatDoorTPutA
import Derived.Deep.RegionWith
import Derived.Defers
import Derived.Recover
import Derived.Laws.Pointers
set_option linter.unusedVariables false
set_option linter.unusedSimpArgs false
namespace Go.Proofs.YtlikpnaffpngiaaGreatDoor
open Go.RowKit Go.WideMaps Go.Maps

/-- The walker at gw, made since W0: it went at most j places, and stands at the term of Key k. -/
def Stand (W0 : World) (gw nb eb c : Nat) (K : Option Addr) (fs : List Tm) (j : Nat) (k : List UInt8) (W : World) : Prop :=
  Below W0.heap.size W0 W ∧ ∃ (i : Nat) (ks : List ByteArray), WkAt W gw K fs.length c nb eb (i : Int) ∧ NumsAt nb ks W ∧ ks.Nodup ∧ EdgesAt eb j fs ks W ∧ ks[i]? = some ⟨k.toArray⟩ ∧ ks.length ≤ 1 + 2 * j
theorem key_same {a b : List UInt8} (h : (⟨a.toArray⟩ : ByteArray) = ⟨b.toArray⟩) : a = b := by
  injection h with h
  simpa using congrArg Array.toList h
theorem nodup_at {ks : List ByteArray} (h : ks.Nodup) {i j : Nat} {s : ByteArray} (hi : ks[i]? = some s) (hj : ks[j]? = some s) : i = j := by
  exact (List.getElem?_inj (List.getElem?_eq_some_iff.1 hi).1 h).1 (hi.trans hj.symm)
theorem step_of {fs : List Tm} {ks : List ByteArray} {p : Int} {a b i : Nat} {k : List UInt8} (he : EdgeIs fs ks p a b) (hnd : ks.Nodup) (hi : ks[i]? = some ⟨k.toArray⟩) :
    (i = a → ∃ k', stepK fs k p = some k' ∧ ks[b]? = some ⟨k'.toArray⟩) ∧ (i ≠ a → i = b → ∃ k', stepK fs k p = some k' ∧ ks[a]? = some ⟨k'.toArray⟩) ∧ (i ≠ a → i ≠ b → stepK fs k p = none) := by
  obtain ⟨ta, tb, hs, h1, h2⟩ := he
  have hst : stepK fs k p = otherK (keyT ta) (keyT tb) k := by unfold stepK; rw [hs]; rfl
  have ea : i = a ↔ k = keyT ta := ⟨fun e => by
    subst e
    rw [h1] at hi
    injection hi with hi
    exact (key_same hi).symm, fun e => by
    subst e
    exact nodup_at hnd hi h1⟩
  have eb : i = b ↔ k = keyT tb := ⟨fun e => by
    subst e
    rw [h2] at hi
    injection hi with hi
    exact (key_same hi).symm, fun e => by
    subst e
    exact nodup_at hnd hi h2⟩
  rw [hst]
  unfold otherK
  refine ⟨fun e => ?_, fun e f => ?_, fun e f => ?_⟩
  · rw [if_pos (ea.1 e)]; exact ⟨_, rfl, h2⟩
  · rw [if_neg (fun h => e (ea.2 h)), if_pos (eb.1 f)]; exact ⟨_, rfl, h1⟩
  · rw [if_neg (fun h => e (ea.2 h)), if_neg (fun h => f (eb.2 h))]
theorem walk_take {fs : List Tm} {k k1 : List UInt8} {ps : List Int} {j : Nat} {p : Int} (h : walkK fs k (ps.take j) = some k1) (hp : ps[j]? = some p) : walkK fs k (ps.take (j + 1)) = stepK fs k1 p := by
  rw [List.take_add_one, hp, walkK_append, h]
  show (stepK fs k1 p).bind (fun k' => walkK fs k' []) = _
  cases stepK fs k1 p <;> rfl
theorem walk_none {fs : List Tm} {k : List UInt8} {ps : List Int} {j : Nat} (h : walkK fs k (ps.take j) = none) : walkK fs k ps = none := by
  rw [← List.take_append_drop j ps, walkK_append, h]; rfl
/-- What along tells. -/
def AlongE (W0 : World) (gw nb eb c : Nat) (K : Option Addr) (fs : List Tm) (ps : List Int) (k : List UInt8) (e : Ending) (w' : World) : Prop :=
  (walkK fs k ps = none ∧ ThrowP e ∧ Below W0.heap.size W0 w') ∨ ∃ k' u, walkK fs k ps = some k' ∧ e = .returned u ∧ Stand W0 gw nb eb c K fs ps.length k' w'
def IntsV (ps : List Int) : List Value := ps.map fun p => Value.int .i64 p
/-- What stands fast while the walker goes. -/
structure AlongH (W0 : World) (gw nb eb : Nat) (K : Option Addr) (fs : List Tm) : Prop where
  facts : TmsAt W0 K fs
  few : ∀ t ∈ fs, wtT t ≤ 100000
  tab : TabM W0.heap.size W0
  mg : W0.heap.size ≤ gw
  mn : W0.heap.size ≤ nb
  me : W0.heap.size ≤ eb
  ne : gw ≠ nb ∧ gw ≠ eb ∧ nb ≠ eb
/-- One edge, and where it leads. -/
theorem edge_step {W0 W : World} {gw nb eb c j : Nat} {K : Option Addr} {fs : List Tm} {k : List UInt8} {p : Int} (hh : AlongH W0 gw nb eb K fs) (hs : Stand W0 gw nb eb c K fs j k W) (hp : -9223372036854775808 ≤ p ∧ p < 9223372036854775808) (hj : j ≤ 100000) :
    ∃ i : Nat, W.cell? ⟨gw, 3, none⟩ = some (.int .i64 (i : Int)) ∧ W.frozen? ⟨gw, 3, none⟩ = false ∧ Calls Tryz.prog 33 #[.pointer (some ⟨gw, 0, none⟩), .int .i64 p] W fun e w1 =>
      (stepK fs k p = none ∧ ThrowP e ∧ Below W0.heap.size W0 w1) ∨ ∃ a b : Nat, e = .returned (.agg #[.int .i64 (a : Int), .int .i64 (b : Int)]) ∧ w1.cell? ⟨gw, 3, none⟩ = some (.int .i64 (i : Int)) ∧ w1.frozen? ⟨gw, 3, none⟩ = false ∧
        Hid (Calls Tryz.prog 34 #[.agg #[.int .i64 (a : Int), .int .i64 (b : Int)], .int .i64 (i : Int)] w1 fun e w2 => (stepK fs k p = none ∧ ThrowP e ∧ Below W0.heap.size W0 w2) ∨ ∃ i' : Nat, e = .returned (.int .i64 (i' : Int)) ∧ w2.frozen? ⟨gw, 3, none⟩ = false ∧ (∃ u, w2.cell? ⟨gw, 3, none⟩ = some u) ∧ Hid (∀ w3, w3.heap = w2.heap → Below W0.heap.size W0 w3 → ∃ k', stepK fs k p = some k' ∧ Stand W0 gw nb eb c K fs (j + 1) k' (w3.setCell ⟨gw, 3, none⟩ (.int .i64 (i' : Int)))) ∧ Below W0.heap.size W0 w2) := by
  obtain ⟨hb, i, ks, hw, hN, hnd, hE, hi, hl⟩ := hs
  have hm := hh.mg
  have hm1 := hh.mn
  have hm2 := hh.me
  refine ⟨i, (cell_of_row _ _ 3 _ _ _ hw).trans rfl, by simp [World.frozen?, show W.heap[gw]? = _ from hw], ?_⟩
  refine (cedge_ok hw hN hnd hE (hh.facts.below hb) hp hh.few (by omega) (by omega) ((hh.tab.on hb (Nat.le_refl _)).on (Below.refl _ _) hm1) hh.ne).mono ?_
  rintro e w1 ⟨ho, ⟨hs, ht⟩ | ⟨a, b, ks', rfl, he, hpre, hl', hnd', hN', hE'⟩⟩
  · exact .inl ⟨by unfold stepK; rw [hs]; rfl, ht, hb.trans ((ho.below hm1 hm2 hb.size))⟩
  · have hb1 : Below W0.heap.size W0 w1 := hb.trans (ho.below hm1 hm2 hb.size)
    have hw1 : WkAt w1 gw K fs.length c nb eb (i : Int) := (ho.block gw (Own.lt.cell_lt' hw) hh.ne.1 hh.ne.2.1).trans hw
    have hi1 := get_prefix hpre hi
    refine .inr ⟨a, b, rfl, (cell_of_row _ _ 3 _ _ _ hw1).trans rfl, by simp [World.frozen?, show w1.heap[gw]? = _ from hw1], Lib.hid ?_⟩
    have hst := step_of he hnd' hi1
    refine other_ok.mono ?_
    rintro e w2 ⟨hb2, hc⟩
    have hb12 : Below W0.heap.size W0 w2 := hb1.trans (hb2.mono hb1.size)
    have hw2 : WkAt w2 gw K fs.length c nb eb (i : Int) := (hb2.block gw (Own.lt.cell_lt' hw1)).trans hw1
    have fin : ∀ (i' : Nat) (k' : List UInt8), stepK fs k p = some k' → ks'[i']? = some ⟨k'.toArray⟩ → ∀ w3 : World, w3.heap = w2.heap → Below W0.heap.size W0 w3 → ∃ k', stepK fs k p = some k' ∧ Stand W0 gw nb eb c K fs (j + 1) k' (w3.setCell ⟨gw, 3, none⟩ (.int .i64 (i' : Int))) := fun i' k' h1 h2 w3 h3 h4 => by
      have hoff : ∀ q, q ≠ gw → (w3.setCell ⟨gw, 3, none⟩ (.int .i64 (i' : Int))).heap[q]? = w2.heap[q]? := fun q hq => by rw [Below.heap_setCell _ _ _ _ hq, h3]
      refine ⟨k', h1, h4.trans (below_setC hm _ _), i', ks', ?_, ?_, hnd', ?_, h2, by omega⟩
      · have h5 : w3.heap[gw]? = _ := (by rw [h3] : w3.heap[gw]? = w2.heap[gw]?).trans hw2
        unfold WkAt
        simp [World.setCell, Array.getElem?_modify, h5]
      · exact hN'.to ((hoff nb (Ne.symm hh.ne.1)).trans (hb2.block nb hN'.lt))
      · exact hE'.to ((hoff eb (Ne.symm hh.ne.2.1)).trans (hb2.block eb hE'.lt))
    rcases hc with ⟨h1, rfl⟩ | ⟨h1, h2, rfl⟩ | ⟨h1, h2, ht⟩
    · obtain ⟨k', hk, hk2⟩ := hst.1 h1
      exact .inr ⟨b, rfl, by simp [World.frozen?, show w2.heap[gw]? = _ from hw2], ⟨_, (cell_of_row _ _ 3 _ _ _ hw2).trans rfl⟩, Lib.hid (fin b k' hk hk2), hb12⟩
    · obtain ⟨k', hk, hk2⟩ := hst.2.1 h1 h2
      exact .inr ⟨a, rfl, by simp [World.frozen?, show w2.heap[gw]? = _ from hw2], ⟨_, (cell_of_row _ _ 3 _ _ _ hw2).trans rfl⟩, Lib.hid (fin a k' hk hk2), hb12⟩
    · exact .inl ⟨hst.2.2 h1 h2, ht, hb12⟩
theorem in_blockC {id : Nat} {Q : Exit → Act → World → Prop} {a : Act} {w : World} (h : Q .normal a w) : Exit.inBlock id Q .normal a w := h
theorem Stand.drew {W0 W : World} {gw nb eb c j : Nat} {K : Option Addr} {fs : List Tm} {k : List UInt8} (h : Stand W0 gw nb eb c K fs j k W) : Stand W0 gw nb eb c K fs j k W.drew := by
  obtain ⟨hb, i, ks, hw, hN, hnd, hE, hi, hl⟩ := h
  exact ⟨hb.drew, i, ks, hw, hN.to rfl, hnd, hE.to rfl, hi, hl⟩
set_option maxRecDepth 100000 in
set_option maxHeartbeats 6400000 in
theorem along_ok {W0 w : World} {gw nb eb c cp : Nat} {K P : Option Addr} {fs : List Tm} {ps : List Int} {k : List UInt8} (hh : AlongH W0 gw nb eb K fs) (hs : Stand W0 gw nb eb c K fs 0 k w) (hps : Row W0 P (IntsV ps)) (hr : ∀ p ∈ ps, -9223372036854775808 ≤ p ∧ p < 9223372036854775808) (hn : ps.length ≤ 100000) :
    Calls Tryz.prog 18 #[.pointer (some ⟨gw, 0, none⟩), .slice P ps.length cp] w (AlongE W0 gw nb eb c K fs ps k) := by
  have HH := Lib.hid (show _ ∧ _ ∧ _ ∧ _ ∧ _ from ⟨hh, hs, hps, hr, hn⟩)
  clear hh hs hps hr hn
  go_enter Tryz.func18, Tryz.ntmps18
  go_wp2
  go_loopw [8] (fun iv wr => ∃ j : Nat, j ≤ ps.length ∧ iv = .int .i64 (j : Int) ∧ Hid (∃ k', walkK fs k (ps.take j) = some k' ∧ Stand W0 gw nb eb c K fs j k' wr)) (fun iv _ => ps.length - (intOf iv).toNat)
  case atStart => exact ⟨0, Nat.zero_le _, rfl, Lib.hid ⟨k, rfl, HH.out.2.1⟩⟩
  case round =>
    obtain ⟨j, hj, rfl, HI⟩ := hrel
    by_cases hlt : j < ps.length
    · obtain ⟨k1, hk1, hst⟩ := HI.out
      obtain ⟨p, hp⟩ : ∃ p, ps[j]? = some p := ⟨_, List.getElem?_eq_getElem hlt⟩
      obtain ⟨ad, rfl, hc0⟩ := HH.out.2.2.1 j (.int .i64 p) (by simp [IntsV, hp])
      have hc := (hst.1.cell (cell_lt hc0)).trans hc0
      obtain ⟨i, m3, f3, hcall⟩ := edge_step HH.out.1 hst.drew (HH.out.2.2.2.1 p (List.mem_of_getElem? hp)) (by have := HH.out.2.2.2.2; omega)
      have m3' : wr.cell? ⟨gw, 3, none⟩ = some (.int .i64 (i : Int)) := m3
      have f3' : wr.frozen? ⟨gw, 3, none⟩ = false := f3
      have HC := Lib.hid hcall
      have HP := Lib.hid (show walkK fs k (ps.take (j + 1)) = stepK fs k1 p from walk_take hk1 hp)
      have hn := HH.out.2.2.2.2
      have hi1 : (j : Int) < (ps.length : Int) := by omega
      have hi0 : 0 ≤ (j : Int) := by omega
      clear hst hcall hk1 hp hc0 m3 f3
      go_wp2_with fail
      go_region_with (first
        | (go_at_call 34; refine HO.out.mono ?_; rintro e w2 (⟨h1, rfl, h2⟩ | ⟨i', rfl, g3, ⟨u3, n3⟩, HF, hb2⟩); exact ⟨rfl, Or.inl ⟨walk_none (HP.out.trans h1), rfl, h2⟩⟩; have HB := Lib.hid hb2; clear hb2)
        | (go_at_call 33; refine HC.out.mono ?_; rintro e w1 (⟨h1, rfl, h2⟩ | ⟨a, b, rfl, n3, g3, HO⟩); exact ⟨rfl, Or.inl ⟨walk_none (HP.out.trans h1), rfl, h2⟩⟩))
      all_goals (refine in_blockC (then_n ?_); rename (∀ (a : Act) (w : World), Code.wp Tryz.prog _ _ a w → _) => hKx; refine hKx _ _ ?_; clear hKx)
      all_goals
        have HS := Lib.hid (HF.out _ rfl HB.out)
        go_wp2
        go_roundw
        case rel =>
          obtain ⟨k', hk', hs'⟩ := HS.out
          exact ⟨j + 1, by omega, by go_num, Lib.hid ⟨k', HP.out.trans hk', hs'⟩⟩
        case measure => first | (simp [intOf]; done) | (simp [intOf]; omega)
    · have HE := Lib.hid (show ∃ k', walkK fs k ps = some k' ∧ Stand W0 gw nb eb c K fs ps.length k' wr from by
        obtain ⟨k', hk', hs'⟩ := HI.out
        have e : j = ps.length := by omega
        subst e
        rw [List.take_length] at hk'
        exact ⟨k', hk', hs'⟩)
      have hi1 : ¬ (j : Int) < (ps.length : Int) := by omega
      clear HI
      go_wp2
      go_returns
      obtain ⟨k', hk', hs'⟩ := HE.out
      exact .inr ⟨k', _, hk', rfl, hs'⟩
end Go.Proofs.YtlikpnaffpngiaaGreatDoor

namespace Go.Proofs.YtlikpnaffpngiaaGreatDoor
open Go.RowKit Go.WideMaps Go.Maps

theorem cneed_any {w : World} {b : Bool} {n : Int} : Calls Tryz.prog 35 #[.bool b, .int .i64 n] w fun e w' => w' = w ∧ ((b = true ∧ e = .returned (.tuple #[])) ∨ (b = false ∧ e = .panicked [{ v := .iface 32 (.int .i64 n), recovered := false }])) := by
  cases b with
  | true => exact cneed_yes.mono fun e w' h => ⟨h.2, .inl ⟨rfl, h.1⟩⟩
  | false => exact cneed_no.mono fun e w' h => ⟨h.2, .inr ⟨rfl, h.1⟩⟩
theorem keyA_eq {t : Tm} : keyA t = ⟨(keyT t).toArray⟩ := rfl
set_option maxRecDepth 100000 in
set_option maxHeartbeats 6400000 in
theorem cend_ok {W0 W : World} {gw nb eb c j : Nat} {K : Option Addr} {fs : List Tm} {k : List UInt8} {t : Tm} {u0 u1 u2 u3 u4 : Value} (hh : AlongH W0 gw nb eb K fs) (hs : Stand W0 gw nb eb c K fs j k W) (ht : TmV W (.agg #[u0, u1, u2, u3, u4]) t) (hwt : wtT t ≤ 100000) (hj : j ≤ 100000) :
    Calls Tryz.prog 19 #[.pointer (some ⟨gw, 0, none⟩), .agg #[u0, u1, u2, u3, u4]] W fun e w' => Below W0.heap.size W0 w' ∧ ((k = keyT t ∧ ∃ u, e = .returned u) ∨ (k ≠ keyT t ∧ ThrowP e)) := by
  have z0 := heap_alloc_new W (.cells #[u0, u1, u2, u3, u4] 28)
  obtain ⟨w1, hw1⟩ : ∃ w1, w1 = W.alloc (.cells #[u0, u1, u2, u3, u4] 28) := ⟨_, rfl⟩
  have hb1 : Below W.heap.size W w1 := by rw [hw1]; exact (Below.refl _ _).alloc (Nat.le_refl _) _
  rw [← hw1] at z0
  have c0 := cell_of_row _ _ 0 _ _ _ z0
  have c1 := cell_of_row _ _ 1 _ _ _ z0
  have c2 := cell_of_row _ _ 2 _ _ _ z0
  have c3 := cell_of_row _ _ 3 _ _ _ z0
  have c4 := cell_of_row _ _ 4 _ _ _ z0
  simp at c0 c1 c2 c3 c4
  obtain ⟨hb, i, ks, hw, hN, hnd, hE, hi, hl⟩ := hs
  have hm := hh.mg
  have hm1 := hh.mn
  have hbw : Below W0.heap.size W0 w1 := hb.trans (hb1.mono hb.size)
  have hwk : WkAt w1 gw K fs.length c nb eb (i : Int) := (hb1.block _ (Own.lt.cell_lt' hw)).trans hw
  have m3 : w1.cell? ⟨gw, 3, none⟩ = some (.int .i64 (i : Int)) := (cell_of_row _ _ 3 _ _ _ hwk).trans rfl
  have HN := Lib.hid (show Calls Tryz.prog 32 #[.pointer (some ⟨gw, 0, none⟩), .agg #[u0, u1, u2, u3, u4]] w1.drew fun e w2 => ∃ (i2 : Nat) (r : Bool), e = .returned (.int .i64 (i2 : Int)) ∧ ((i : Int) == (i2 : Int)) = r ∧ decide ((i : Int) = (i2 : Int)) = r ∧ w2.cell? ⟨gw, 3, none⟩ = some (.int .i64 (i : Int)) ∧ Hid ((r = true ↔ k = keyT t) ∧ Below W0.heap.size W0 w2) from by
    refine (cnum_ok (W := w1.drew) (t := t) hwk (hN.to (hb1.block _ hN.lt)) hnd (by omega) (ht.bel hb1.drew) hwt (hh.tab.on hbw.drew hm1) hh.ne.1).mono ?_
    rintro e w2 ⟨i2, ks2, rfl, h1, h2, h3, h4, h5, h6⟩
    have hi2 := get_prefix h2 hi
    have hwk2 : WkAt w2 gw K fs.length c nb eb (i : Int) := (h6.block gw (Own.lt.cell_lt' hwk) hh.ne.1).trans hwk
    have hiff : i = i2 ↔ k = keyT t := ⟨fun e => by
      subst e
      rw [h1] at hi2
      injection hi2 with hi2
      exact (key_same hi2).symm, fun e => by
      subst e
      exact nodup_at h4 hi2 h1⟩
    refine ⟨i2, decide (i = i2), rfl, ?_, ?_, (cell_of_row _ _ 3 _ _ _ hwk2).trans rfl, Lib.hid ⟨?_, hbw.drew.trans (h6.below hm1 hbw.size)⟩⟩
    · by_cases e : i = i2
      · rw [decide_eq_true e]; exact beq_iff_eq.2 (by omega)
      · rw [decide_eq_false e]; exact beq_eq_false_iff_ne.2 (by omega)
    · by_cases e : i = i2
      · rw [decide_eq_true e]; exact decide_eq_true (by omega)
      · rw [decide_eq_false e]; exact decide_eq_false (by omega)
    · rw [decide_eq_true_eq]; exact hiff)
  have HW := Lib.hid hw1
  clear z0 hb hw hN hnd hE hi hl hbw hwk ht hwt hh hb1 hw1 hm hm1
  go_enter Tryz.func19, Tryz.ntmps19
  go_wp2_with fail
  rw [← HW.out]
  go_region_with (first
    | (go_at_call 35; refine cneed_any.mono ?_; rintro e w3 ⟨rfl, ⟨hr, rfl⟩ | ⟨hr, rfl⟩⟩; rotate_left; exact (show bodyPost Tryz.prog _ _ (Exit.panic _) _ _ from ⟨rfl, HB.out.2, Or.inr ⟨fun h => Bool.noConfusion ((HB.out.1.2 h).symm.trans hr), rfl⟩⟩); have HR := Lib.hid hr)
    | (go_at_call 32; refine HN.out.mono ?_; rintro e w2 ⟨i2, r, rfl, r1, r2, n3, HB⟩))
  all_goals exact (show bodyPost Tryz.prog _ _ Exit.normal _ _ from ⟨rfl, .tuple #[], by simp [results, Tryz.results19, go_sem], HB.out.2, Or.inl ⟨HB.out.1.1 HR.out, _, rfl⟩⟩)
set_option maxRecDepth 100000 in
set_option maxHeartbeats 6400000 in
/-- A walker that is made stands at its term. -/
theorem walkerAt_ok {W0 : World} {K : Option Addr} {c : Nat} {fs : List Tm} {t : Tm} {u0 u1 u2 u3 u4 : Value} (hf : TmsAt W0 K fs) (hfew : ∀ t ∈ fs, wtT t ≤ 100000) (ht : TmV W0 (.agg #[u0, u1, u2, u3, u4]) t) (hwt : wtT t ≤ 100000) (htab : TabM W0.heap.size W0) :
    Calls Tryz.prog 17 #[.agg #[u0, u1, u2, u3, u4], .slice K fs.length c] W0 fun e w' => ∃ gw nb eb, e = .returned (.pointer (some ⟨gw, 0, none⟩)) ∧ AlongH W0 gw nb eb K fs ∧ Stand W0 gw nb eb c K fs 0 (keyT t) w' := by
  have HH := Lib.hid (show _ ∧ _ ∧ _ ∧ _ ∧ _ from ⟨hf, hfew, ht, hwt, htab⟩)
  clear hf hfew ht hwt htab
  have hm1 : ∀ w, (Instr.makeMap 73 none).run Tryz.prog w = .ok (.map (some w.heap.size)) (w.alloc (.map #[] 0)) := fun w => by
    simp [Instr.makeMap, go_sem]
  have hm2 : ∀ w, (Instr.makeMap 74 none).run Tryz.prog w = .ok (.map (some w.heap.size)) (w.alloc (.map #[] 0)) := fun w => by
    simp [Instr.makeMap, go_sem]
  go_enter Tryz.func17, Tryz.ntmps17
  go_wp2_with fail
  obtain ⟨f0, f1, f2, f3, fs4, fb⟩ := four_alloc W0 (.cells #[u0, u1, u2, u3, u4] 28) (.map #[] 0) (.map #[] 0) (.cells #[.slice K fs.length c, .map (some (W0.heap.size + 1)), .map (some (W0.heap.size + 1 + 1)), .int .i64 0] 76)
  have hn1 : ((((W0.alloc (.cells #[u0, u1, u2, u3, u4] 28)).alloc (.map #[] 0)).alloc (.map #[] 0)).alloc (.cells #[.slice K fs.length c, .map (some (W0.heap.size + 1)), .map (some (W0.heap.size + 1 + 1)), .int .i64 0] 76)).ownsMap Tryz.prog 9 (plainElem (H := Unit) Tryz.prog 3) (W0.heap.size + 1) 0 (.map []) := ⟨#[], 0, f1, ⟨by simp, MapKept.stamped_empty 0, by simp⟩, Nat.le_refl _, rfl⟩
  have he1 : ((((W0.alloc (.cells #[u0, u1, u2, u3, u4] 28)).alloc (.map #[] 0)).alloc (.map #[] 0)).alloc (.cells #[.slice K fs.length c, .map (some (W0.heap.size + 1)), .map (some (W0.heap.size + 1 + 1)), .int .i64 0] 76)).ownsMap Tryz.prog 3 edgeElem (W0.heap.size + 1 + 1) 0 (.map []) := ⟨#[], 0, f2, ⟨by simp, MapKept.stamped_empty 0, by simp⟩, Nat.le_refl _, rfl⟩
  obtain ⟨W4, hW4⟩ : ∃ W4, W4 = (((W0.alloc (.cells #[u0, u1, u2, u3, u4] 28)).alloc (.map #[] 0)).alloc (.map #[] 0)).alloc (.cells #[.slice K fs.length c, .map (some (W0.heap.size + 1)), .map (some (W0.heap.size + 1 + 1)), .int .i64 0] 76) := ⟨_, rfl⟩
  rw [← hW4] at f0 f1 f2 f3 fs4 fb hn1 he1 ⊢
  obtain ⟨hf, hfew, ht, hwt, htab⟩ := HH.out
  have hN : NumsAt (W0.heap.size + 1) [] W4 := ⟨_, hn1, NumD.nil⟩
  have hE : EdgesAt (W0.heap.size + 1 + 1) 0 fs [] W4 := ⟨_, he1, EdgeD.nil _ _⟩
  have hwk : WkAt W4 (W0.heap.size + 1 + 1 + 1) K fs.length c (W0.heap.size + 1) (W0.heap.size + 1 + 1) 0 := f3
  have HP := Lib.hid (show _ ∧ _ ∧ _ from ⟨hE, hwk, fb⟩)
  refine (cnum_ok (t := t) hwk hN List.nodup_nil (Nat.zero_le _) (ht.bel fb) hwt (htab.on fb (by omega)) (by omega)).mono ?_
  clear f0 f1 f2 f3 hn1 he1 hf hfew ht hwt htab hN hE hwk hW4
  rintro e w5 ⟨i, ks, rfl, h1, h2, h3, h4, h5, h6⟩
  obtain ⟨hE, hwk, fb⟩ := HP.out
  have hw5 : WkAt w5 (W0.heap.size + 1 + 1 + 1) K fs.length c (W0.heap.size + 1) (W0.heap.size + 1 + 1) 0 := (h6.block _ (by omega) (by omega)).trans hwk
  have hE5 : EdgesAt (W0.heap.size + 1 + 1) 0 fs ks w5 := (hE.to (h6.block _ (by omega) (by omega))).more h2
  have g3 : w5.cell? ⟨W0.heap.size + 1 + 1 + 1, 3, none⟩ = some (.int .i64 0) := (cell_of_row _ _ 3 _ _ _ hw5).trans rfl
  have z3 : w5.frozen? ⟨W0.heap.size + 1 + 1 + 1, 3, none⟩ = false := by simp [World.frozen?, show w5.heap[W0.heap.size + 1 + 1 + 1]? = _ from hw5]
  have HR := Lib.hid (show Stand W0 (W0.heap.size + 1 + 1 + 1) (W0.heap.size + 1) (W0.heap.size + 1 + 1) c K fs 0 (keyT t) (w5.setCell ⟨W0.heap.size + 1 + 1 + 1, 3, none⟩ (.int .i64 (i : Int))) from by
    have hoff : ∀ q, q ≠ W0.heap.size + 1 + 1 + 1 → (w5.setCell ⟨W0.heap.size + 1 + 1 + 1, 3, none⟩ (.int .i64 (i : Int))).heap[q]? = w5.heap[q]? := fun q hq => Below.heap_setCell _ _ _ _ hq
    refine ⟨(fb.trans (h6.below (by omega) fb.size)).trans (below_setC (by omega) _ _), i, ks, ?_, h5.to (hoff _ (by omega)), h4, hE5.to (hoff _ (by omega)), h1, by simpa using h3⟩
    have h7 : w5.heap[W0.heap.size + 1 + 1 + 1]? = _ := hw5
    unfold WkAt
    simp [World.setCell, Array.getElem?_modify, h7])
  clear h1 h2 h3 h4 h5 h6 hE hwk hw5 hE5 HP
  go_wp2
  go_returns
  obtain ⟨hf, hfew, ht, hwt, htab⟩ := HH.out
  exact ⟨_, _, _, rfl, ⟨hf, hfew, htab, by omega, by omega, by omega, by omega, by omega, by omega⟩, HR.out⟩
end Go.Proofs.YtlikpnaffpngiaaGreatDoor

namespace Go.Proofs.YtlikpnaffpngiaaGreatDoor
open Go.RowKit

theorem of_wt {w : World} {v : Value} {t : Tm} (hM : LibM w.heap.size w) (ht : TmV w v t) (hwt : wtT t ≤ 100000) :
    Calls Tryz.prog 39 #[.string ⟨(keyK (preT t)).toArray⟩] w fun e w' => ∃ u0 u1 u2 u3 u4, e = .returned (.tuple #[.agg #[u0, u1, u2, u3, u4], .bool true]) ∧ TmV w' (.agg #[u0, u1, u2, u3, u4]) t ∧ Below w.heap.size w w' ∧ ∀ wf : World, (∀ k, k < w'.heap.size → (w.heap.size ≤ k ∨ ¬ NoBytes w k) → wf.heap[k]? = w'.heap[k]?) → TmV wf (.agg #[u0, u1, u2, u3, u4]) t := by
  have hwl : wtL [t] ≤ 100000 := by rw [wtL_one]; exact hwt
  have hgood : ∀ p ∈ preL [t], Good p := by rw [preL_one]; exact ht.good
  have hlen := keyK_len _ (Nat.le_refl _) hgood
  have hks := kids_small (l := [t])
  rw [preL_one] at hlen hgood hks
  exact of_okX hM (fun p hp => by
    have := hks p hp
    exact ⟨hgood p hp, by omega, by omega⟩) (by omega)
set_option maxRecDepth 100000 in
set_option maxHeartbeats 3200000 in
theorem node_ok {w : World} {kd : Int} {K : Option Addr} {n c : Nat} :
    Calls Tryz.prog 20 #[.int .u8 kd, .slice K n c] w fun e w' => e = .returned (.agg #[.int .u8 kd, .string ⟨#[]⟩, .bool false, .slice none 0 0, .slice K n c]) ∧ Below w.heap.size w w' := by
  go_enter Tryz.func20, Tryz.ntmps20
  go_wp2
  go_returns
  exact ⟨rfl, (Below.refl _ _).alloc (Nat.le_refl _) _⟩
set_option maxRecDepth 100000 in
set_option maxHeartbeats 3200000 in
theorem copied_ok {w : World} {u0 u1 u2 u3 u4 : Value} {t : Tm} (ht : TmV w (.agg #[u0, u1, u2, u3, u4]) t) (hwt : wtT t ≤ 100000) (hM : LibM w.heap.size w) :
    Calls Tryz.prog 31 #[.agg #[u0, u1, u2, u3, u4]] w fun e w' => ∃ A K c c', e = .returned (.agg #[.int .u8 t.kind, .string t.name, .bool t.neg, .slice A t.ds.length c, .slice K t.kids.length c']) ∧ Below w.heap.size w w' ∧ ∀ wf : World, (∀ k, k < w'.heap.size → (w.heap.size ≤ k ∨ ¬ NoBytes w k) → wf.heap[k]? = w'.heap[k]?) → TmV wf (.agg #[.int .u8 t.kind, .string t.name, .bool t.neg, .slice A t.ds.length c, .slice K t.kids.length c']) t := by
  have HH := Lib.hid (show _ ∧ _ ∧ _ from ⟨ht, hwt, hM⟩)
  clear ht hwt hM
  go_enter Tryz.func31, Tryz.ntmps31
  go_wp2_with fail
  obtain ⟨ht, hwt, hM⟩ := HH.out
  obtain ⟨a0, a1, asz, ab⟩ := two_alloc w (.cells #[u0, u1, u2, u3, u4] 28) (.cells #[.int .u8 0, .string ⟨#[]⟩, .bool false, .slice none 0 0, .slice none 0 0] 28)
  obtain ⟨w2, hw2⟩ : ∃ w2, w2 = (w.alloc (.cells #[u0, u1, u2, u3, u4] 28)).alloc (.cells #[.int .u8 0, .string ⟨#[]⟩, .bool false, .slice none 0 0, .slice none 0 0] 28) := ⟨_, rfl⟩
  rw [← hw2] at a0 a1 asz ab ⊢
  have HK := key_any (ht.bel ab) hwt ((hM.on ab (by omega)).2)
  have HP := Lib.hid (show _ ∧ _ ∧ _ ∧ _ ∧ _ ∧ _ ∧ _ from ⟨a0, a1, asz, ab, ht, hwt, hM⟩)
  clear a0 a1 asz ab ht hwt hM hw2 HH
  refine HK.mono ?_
  clear HK
  rintro e w3 ⟨rfl, hb3⟩
  obtain ⟨S, hS⟩ : ∃ S : ByteArray, S = ⟨(keyK (preT t)).toArray⟩ := ⟨_, rfl⟩
  rw [← hS]
  have HB := Lib.hid (show _ ∧ _ from ⟨hS, hb3⟩)
  clear hS hb3
  go_wp2_with fail
  obtain ⟨a0, a1, asz, ab, ht, hwt, hM⟩ := HP.out
  obtain ⟨hS, hb3⟩ := HB.out
  have hb03 : Below w.heap.size w w3 := ab.trans (hb3.mono (by omega))
  rw [hS]
  refine (of_wt (hM.on hb03 hb03.size) (ht.bel hb03) hwt).mono ?_
  rintro e w4 ⟨v0, v1, v2, v3, v4, rfl, ht4, hb4, hin4⟩
  obtain ⟨A1, K1, e1, e1', e⟩ := TmV.five' ht4
  simp only [Value.agg.injEq, Array.mk.injEq, List.cons.injEq, and_true] at e
  obtain ⟨rfl, rfl, rfl, rfl, rfl⟩ := e
  have a0' : w3.heap[w.heap.size]? = some (.cells #[u0, u1, u2, u3, u4] 28 (0, 0)) := (hb3.block _ (by omega)).trans a0
  have a1' : w3.heap[w.heap.size + 1]? = some (.cells #[.int .u8 0, .string ⟨#[]⟩, .bool false, .slice none 0 0, .slice none 0 0] 28 (0, 0)) := (hb3.block _ (by omega)).trans a1
  have b1 : w4.heap[w.heap.size + 1]? = some (.cells #[.int .u8 0, .string ⟨#[]⟩, .bool false, .slice none 0 0, .slice none 0 0] 28 (0, 0)) := (hb4.block _ (Own.lt.cell_lt' a1')).trans a1'
  obtain ⟨w5, hw5⟩ : ∃ w5, w5 = w4.alloc (.cells #[.int .u8 t.kind, .string t.name, .bool t.neg, .slice A1 t.ds.length e1, .slice K1 t.kids.length e1'] 28) := ⟨_, rfl⟩
  have hb5 : Below w4.heap.size w4 w5 := by rw [hw5]; exact (Below.refl _ _).alloc (Nat.le_refl _) _
  have c1 : w5.heap[w.heap.size + 1]? = some (.cells #[.int .u8 0, .string ⟨#[]⟩, .bool false, .slice none 0 0, .slice none 0 0] 28 (0, 0)) := (hb5.block _ (Own.lt.cell_lt' b1)).trans b1
  obtain ⟨w6, hw6⟩ : ∃ w6, w6 = ((((w5.setCell ⟨w.heap.size + 1, 0, none⟩ (.int .u8 t.kind)).setCell ⟨w.heap.size + 1, 1, none⟩ (.string t.name)).setCell ⟨w.heap.size + 1, 2, none⟩ (.bool t.neg)).setCell ⟨w.heap.size + 1, 3, none⟩ (.slice A1 t.ds.length e1)).setCell ⟨w.heap.size + 1, 4, none⟩ (.slice K1 t.kids.length e1') := ⟨_, rfl⟩
  have c6 : w6.heap[w.heap.size + 1]? = some (.cells #[.int .u8 t.kind, .string t.name, .bool t.neg, .slice A1 t.ds.length e1, .slice K1 t.kids.length e1'] 28 (0, 0)) := by rw [hw6]; exact five_set c1
  have hb04 : Below w.heap.size w w4 := hb03.trans (hb4.mono hb03.size)
  have hb46 : Below w.heap.size w w6 := by
    refine (hb04.trans (hb5.mono hb04.size)).trans ?_
    rw [hw6]
    exact five_belowC (by omega) _ _ _ _ _ _
  have h46 : ∀ k, k < w4.heap.size → k ≠ w.heap.size + 1 → w6.heap[k]? = w4.heap[k]? := fun k hk hn => by
    rw [hw6]
    exact (five_off hn).trans (hb5.block _ hk)
  have hs46 : w4.heap.size ≤ w6.heap.size := by
    rw [hw6]
    simpa using hb5.size
  have hout : ∀ wf : World, (∀ k, k < w6.heap.size → (w.heap.size ≤ k ∨ ¬ NoBytes w k) → wf.heap[k]? = w6.heap[k]?) → TmV wf (.agg #[.int .u8 t.kind, .string t.name, .bool t.neg, .slice A1 t.ds.length e1, .slice K1 t.kids.length e1']) t := fun wf hwf => hin4 wf fun k hk hx => by
    have hk1 : k ≠ w.heap.size + 1 := fun e => by
      subst e
      rcases hx with hx | hx
      · have := Own.lt.cell_lt' a1'; omega
      · exact hx (.of a1' (by decide))
    have hk2 : (w.heap.size ≤ k ∨ ¬ NoBytes w k) := by
      by_cases hkk : k < w.heap.size
      · rcases hx with hx | hx
        · have := hb03.size; omega
        · exact .inr fun hn => hx (hn.to (hb03.block _ hkk))
      · exact .inl (by omega)
    exact (hwf k (Nat.lt_of_lt_of_le hk hs46) hk2).trans (h46 k hk hk1)
  have p0 := cell_of_row w6 (w.heap.size + 1) 0 _ _ _ c6
  have p1 := cell_of_row w6 (w.heap.size + 1) 1 _ _ _ c6
  have p2 := cell_of_row w6 (w.heap.size + 1) 2 _ _ _ c6
  have p3 := cell_of_row w6 (w.heap.size + 1) 3 _ _ _ c6
  have p4 := cell_of_row w6 (w.heap.size + 1) 4 _ _ _ c6
  simp at p0 p1 p2 p3 p4
  have d0 : w5.cell? ⟨w.heap.size + 1, 0, none⟩ = some (.int .u8 0) := (cell_of_row _ _ 0 _ _ _ c1).trans rfl
  have d1 : w5.cell? ⟨w.heap.size + 1, 1, none⟩ = some (.string ⟨#[]⟩) := (cell_of_row _ _ 1 _ _ _ c1).trans rfl
  have d2 : w5.cell? ⟨w.heap.size + 1, 2, none⟩ = some (.bool false) := (cell_of_row _ _ 2 _ _ _ c1).trans rfl
  have d3 : w5.cell? ⟨w.heap.size + 1, 3, none⟩ = some (.slice none 0 0) := (cell_of_row _ _ 3 _ _ _ c1).trans rfl
  have d4 : w5.cell? ⟨w.heap.size + 1, 4, none⟩ = some (.slice none 0 0) := (cell_of_row _ _ 4 _ _ _ c1).trans rfl
  have ff : ∀ o, w5.frozen? ⟨w.heap.size + 1, o, none⟩ = false := fun o => by simp [World.frozen?, c1]
  have f0 := ff 0
  have f1 := ff 1
  have f2 := ff 2
  have f3 := ff 3
  have f4 := ff 4
  rw [hw5] at f0 f1 f2 f3 f4 d0 d1 d2 d3 d4
  have hlt : w.heap.size + 1 < w4.heap.size := Own.lt.cell_lt' b1
  have hne : ¬ w.heap.size + 1 = w4.heap.size := by omega
  have hne' : ¬ w4.heap.size = w.heap.size + 1 := by omega
  have HT := Lib.hid (show _ ∧ _ from ⟨hb46, hout⟩)
  have HW := Lib.hid (show _ ∧ _ from ⟨hw5, hw6⟩)
  clear ht hwt hM hS hb3 hb03 ht4 hb4 b1 hb5 c1 c6 hb04 hb46 ff hw5 hw6 a1 a0 asz ab HP HB hlt a0' a1' h46 hs46 hout hin4
  go_wp2
  rw [← HW.out.1, ← HW.out.2]
  refine bodyPost_ret (v := .agg #[.int .u8 t.kind, .string t.name, .bool t.neg, .slice A1 t.ds.length e1, .slice K1 t.kids.length e1']) (by simp [results, Tryz.results31, go_sem, p0, p1, p2, p3, p4]) rfl ⟨_, _, _, _, rfl, HT.out.1, HT.out.2⟩
theorem told1_idle (p q : Addr) (w : World) :
    CallsD Tryz.prog 30 #[.pointer (some p), .pointer (some q)] .returning w fun e u' w' => e = .returned (.tuple #[]) ∧ u' = .returning ∧ w' = w := by
  refine callsD_of_wpS Tryz.func30 rfl fun c₀ cs hu => ?_
  apply wpS_seq
  apply wpS_region
  simp [wpOpsS, go_sem, recoverD, hu, Tryz.ntmps30, Exit.thenS]
  apply wpS_seq
  apply wpS_region
  simp [wpOpsS, go_sem, Exit.thenS, Act.eval, Array.replicate]
  refine wpS_cond (t := false) (by simp [Act.eval, Array.replicate]) ?_
  simp only [Bool.false_eq_true, if_false]
  refine wpS_of_wp (wp_skip ?_)
  cases c₀
  simp_all [bodyPostS, results, Tryz.results30, go_sem]
/-- Only the blocks a and b changed. -/
structure OnlyAB (a b : Nat) (W W' : World) : Prop where
  os : W'.os = W.os
  tape : W'.tape = W.tape
  output : W'.output = W.output
  size : W'.heap.size = W.heap.size
  block : ∀ k, k ≠ a → k ≠ b → W'.heap[k]? = W.heap[k]?
theorem OnlyAB.refl (a b : Nat) (W : World) : OnlyAB a b W W := ⟨rfl, rfl, rfl, rfl, fun _ _ _ => rfl⟩
theorem OnlyAB.setA {a b : Nat} {W W' : World} (h : OnlyAB a b W W') (o : Nat) (v : Value) : OnlyAB a b W (W'.setCell ⟨a, o, none⟩ v) := ⟨h.os, h.tape, h.output, by simpa using h.size, fun k h1 h2 => (Below.heap_setCell _ _ _ _ h1).trans (h.block k h1 h2)⟩
theorem OnlyAB.setB {a b : Nat} {W W' : World} (h : OnlyAB a b W W') (o : Nat) (v : Value) : OnlyAB a b W (W'.setCell ⟨b, o, none⟩ v) := ⟨h.os, h.tape, h.output, by simpa using h.size, fun k h1 h2 => (Below.heap_setCell _ _ _ _ h2).trans (h.block k h1 h2)⟩
theorem OnlyAB.drew {a b : Nat} {W W' : World} (h : OnlyAB a b W W') : OnlyAB a b W W'.drew := ⟨h.os, h.tape, h.output, h.size, h.block⟩
theorem drew_at {W : World} {k : Nat} {o : Option Obj} (h : W.heap[k]? = o) : W.drew.heap[k]? = o := h
set_option maxRecDepth 100000 in
set_option maxHeartbeats 3200000 in
theorem told1_caught (a b : Nat) (n : Int) {y : Value} {w : World} (ha : w.heap[a]? = some (.cells #[.int .u8 0, .string ⟨#[]⟩, .bool false, .slice none 0 0, .slice none 0 0] 28 (0, 0))) (hb : w.heap[b]? = some (.cells #[y] 32 (0, 0))) (hab : a ≠ b) :
    CallsD Tryz.prog 30 #[.pointer (some ⟨a, 0, none⟩), .pointer (some ⟨b, 0, none⟩)] (.panicking [{ v := .iface 32 (.int .i64 n), recovered := false }]) w fun e u' w' => e = .returned (.tuple #[]) ∧ u' = .panicking [{ v := .iface 32 (.int .i64 n), recovered := true }] ∧ OnlyAB a b w w' ∧ w'.heap[a]? = w.heap[a]? ∧ w'.heap[b]? = some (.cells #[.int .i64 n] 32 (0, 0)) := by
  refine callsD_of_wpS Tryz.func30 rfl fun c₀ cs hu => ?_
  apply wpS_seq
  apply wpS_region
  simp [wpOpsS, go_sem, recoverD, hu, Tryz.ntmps30, Exit.thenS]
  apply wpS_seq
  apply wpS_region
  simp [wpOpsS, go_sem, Exit.thenS, Act.eval, Array.replicate]
  refine wpS_cond (t := true) (by simp [Act.eval, Array.replicate]) ?_
  simp only [if_true]
  have ht : ∀ w : World, (Instr.typeAssert (.iface 32 (.int .i64 n)) 20 32 false).run Tryz.prog w = .ok (.int .i64 n) w := fun w => by kernel_rfl
  refine wpS_of_wp ?_
  have s0 : w.cell? ⟨a, 0, none⟩ = some (.int .u8 0) := (cell_of_row _ _ 0 _ _ _ ha).trans rfl
  have s1 : w.cell? ⟨a, 1, none⟩ = some (.string ⟨#[]⟩) := (cell_of_row _ _ 1 _ _ _ ha).trans rfl
  have s2 : w.cell? ⟨a, 2, none⟩ = some (.bool false) := (cell_of_row _ _ 2 _ _ _ ha).trans rfl
  have s3 : w.cell? ⟨a, 3, none⟩ = some (.slice none 0 0) := (cell_of_row _ _ 3 _ _ _ ha).trans rfl
  have s4 : w.cell? ⟨a, 4, none⟩ = some (.slice none 0 0) := (cell_of_row _ _ 4 _ _ _ ha).trans rfl
  have q0 : w.cell? ⟨b, 0, none⟩ = some y := (cell_of_row _ _ 0 _ _ _ hb).trans rfl
  have ff : ∀ o, w.frozen? ⟨a, o, none⟩ = false := fun o => by simp [World.frozen?, ha]
  have f0 := ff 0
  have f1 := ff 1
  have f2 := ff 2
  have f3 := ff 3
  have f4 := ff 4
  have g0 : w.frozen? ⟨b, 0, none⟩ = false := by simp [World.frozen?, hb]
  have HH := Lib.hid (show _ ∧ _ ∧ _ ∧ _ from ⟨ha, hb, hab, hu⟩)
  have hba : ¬ b = a := fun e => hab e.symm
  clear ha hb ff hu
  go_region
  obtain ⟨ha, hb, hab, hu⟩ := HH.out
  obtain ⟨wf, hwf⟩ : ∃ wf, wf = ((((((w.setCell ⟨a, 0, none⟩ (.int .u8 0)).setCell ⟨a, 1, none⟩ (.string ⟨#[]⟩)).setCell ⟨a, 2, none⟩ (.bool false)).setCell ⟨a, 3, none⟩ (.slice none 0 0)).setCell ⟨a, 4, none⟩ (.slice none 0 0)).setCell ⟨b, 0, none⟩ (.int .i64 n)).drew := ⟨_, rfl⟩
  rw [← hwf]
  have hA : OnlyAB a b w wf := by
    rw [hwf]
    exact ((((((OnlyAB.refl a b w).setA 0 _).setA 1 _).setA 2 _).setA 3 _).setA 4 _).setB 0 _ |>.drew
  have hB : wf.heap[a]? = w.heap[a]? := by
    rw [hwf, ha]
    exact drew_at ((Below.heap_setCell _ _ _ _ hab).trans (five_set ha))
  have hC : wf.heap[b]? = some (.cells #[.int .i64 n] 32 (0, 0)) := by
    rw [hwf]
    exact drew_at (one_set ((five_off (Ne.symm hab)).trans hb))
  simp [bodyPostS, results, Tryz.results30, go_sem]
  exact ⟨hA, hB, hC⟩
/-- The five cells of a term, told as they are. -/
abbrev fiveV (t : Tm) (A K : Option Addr) (c c' : Nat) : Value := .agg #[.int .u8 t.kind, .string t.name, .bool t.neg, .slice A t.ds.length c, .slice K t.kids.length c']
abbrev zeroV : Value := .agg #[.int .u8 0, .string ⟨#[]⟩, .bool false, .slice none 0 0, .slice none 0 0]
/-- What told tells. -/
def ToldE (Z : Int → Prop) (T : Tm → Prop) (w : World) (e : Ending) (w' : World) : Prop := Below w.heap.size w w' ∧ ((∃ n, Z n ∧ e = .returned (.tuple #[zeroV, .int .i64 n])) ∨ ∃ t A K c c', T t ∧ e = .returned (.tuple #[fiveV t A K c c', .int .i64 0]) ∧ ∀ wf : World, (∀ k, k < w'.heap.size → (w.heap.size ≤ k ∨ ¬ NoBytes w k) → wf.heap[k]? = w'.heap[k]?) → TmV wf (fiveV t A K c c') t)
set_option maxRecDepth 100000 in
set_option maxHeartbeats 3200000 in
theorem told_ok {w : World} {F : FuncId} {fs cs : Array Value} {Z : Int → Prop} {T : Tm → Prop} (hen : ∀ args w, (callFunc F args).run Tryz.prog w = .ok (.enter F args) w) (hM : LibM w.heap.size w)
    (hc : ∀ W, Below w.heap.size w W → W.heap.size = w.heap.size + 2 → Calls Tryz.prog F (fs ++ cs) W fun e w' => Below W.heap.size W w' ∧ ((∃ n, Z n ∧ e = .panicked [{ v := .iface 32 (.int .i64 n), recovered := false }]) ∨ ∃ t x0 x1 x2 x3 x4, T t ∧ e = .returned (.agg #[x0, x1, x2, x3, x4]) ∧ TmV w' (.agg #[x0, x1, x2, x3, x4]) t ∧ wtT t ≤ 100000)) :
    Calls Tryz.prog 15 #[.func (.func F) fs cs] w (ToldE Z T w) := by
  have hmf : ∀ (fn : Fn) (first cap : Array Value) (w : World), (Instr.makeFunc fn first cap).run Tryz.prog w = .ok (.func fn first cap) w := fun _ _ _ _ => rfl
  obtain ⟨a0, a1, asz, ab⟩ := two_alloc w (.cells #[.int .u8 0, .string ⟨#[]⟩, .bool false, .slice none 0 0, .slice none 0 0] 28) (.cells #[.int .i64 0] 32)
  obtain ⟨w2, hw2⟩ : ∃ w2, w2 = (w.alloc (.cells #[.int .u8 0, .string ⟨#[]⟩, .bool false, .slice none 0 0, .slice none 0 0] 28)).alloc (.cells #[.int .i64 0] 32) := ⟨_, rfl⟩
  rw [← hw2] at a0 a1 asz ab
  have HC := Lib.hid (hc w2 ab asz)
  have HA := Lib.hid (show _ ∧ _ ∧ _ ∧ _ ∧ _ from ⟨a0, a1, asz, ab, hM⟩)
  have HW := Lib.hid hw2
  clear hc a0 a1 asz ab hw2 hM
  go_enter_defers Tryz.func15, Tryz.ntmps15
  go_wp2_with fail
  rw [← HW.out]
  refine HC.out.mono ?_
  rintro e w5 ⟨hb5, ⟨n, hz, rfl⟩ | ⟨t, x0, x1, x2, x3, x4, hT, rfl, ht, hwt⟩⟩
  · obtain ⟨a0, a1, asz, ab, hM⟩ := HA.out
    have b0 := (hb5.block _ (by omega)).trans a0
    have b1 := (hb5.block _ (by omega)).trans a1
    have HB := Lib.hid (show _ ∧ _ ∧ _ ∧ _ from ⟨b0, b1, ab.trans (hb5.mono (by omega)), hz⟩)
    clear a0 a1 asz ab hM b0 b1 hb5 hz HC
    go_wp2
    refine leaves_cons (f := 30) (args := #[.pointer (some ⟨w.heap.size, 0, none⟩), .pointer (some ⟨w.heap.size + 1, 0, none⟩)]) (by simp) (by simp [go_sem]) ?_
    refine (told1_caught w.heap.size (w.heap.size + 1) n HB.out.1 HB.out.2.1 (by omega)).mono ?_
    rintro e u' w6 ⟨rfl, rfl, hAB, hA, hB⟩
    obtain ⟨b0, b1, hb, hz⟩ := HB.out
    have c0 := hA.trans b0
    have p0 := cell_of_row w6 w.heap.size 0 _ _ _ c0
    have p1 := cell_of_row w6 w.heap.size 1 _ _ _ c0
    have p2 := cell_of_row w6 w.heap.size 2 _ _ _ c0
    have p3 := cell_of_row w6 w.heap.size 3 _ _ _ c0
    have p4 := cell_of_row w6 w.heap.size 4 _ _ _ c0
    have p5 := cell_of_row w6 (w.heap.size + 1) 0 _ _ _ hB
    simp at p0 p1 p2 p3 p4 p5
    have HR := Lib.hid (show ToldE Z T w (.returned (.tuple #[zeroV, .int .i64 n])) w6 from ⟨⟨hAB.os.trans hb.os, hAB.tape.trans hb.tape, hAB.output.trans hb.output, by rw [hAB.size]; exact hb.size, fun k hk => (hAB.block k (by omega) (by omega)).trans (hb.block k hk)⟩, .inl ⟨n, hz, rfl⟩⟩)
    clear c0 b0 b1 hb hz hA hB hAB
    simp [Leaves, settle, results, Tryz.results15, go_sem, p0, p1, p2, p3, p4, p5]
    exact HR.out
  obtain ⟨a0, a1, asz, ab, hM⟩ := HA.out
  have b0 := (hb5.block _ (by omega)).trans a0
  have b1 := (hb5.block _ (by omega)).trans a1
  have hb05 : Below w.heap.size w w5 := ab.trans (hb5.mono (by omega))
  have HK := Lib.hid (copied_ok ht hwt (hM.on hb05 hb05.size))
  have HB := Lib.hid (show _ ∧ _ ∧ _ ∧ _ from ⟨b0, b1, hb05, hT⟩)
  clear a0 a1 asz ab hM b0 b1 hb5 hb05 ht hwt hT HC
  go_wp2_with fail
  refine HK.out.mono ?_
  rintro e w6 ⟨A, K, c, c', rfl, hb6, hin⟩
  obtain ⟨b0, b1, hb05, hT⟩ := HB.out
  have c0 := (hb6.block _ (Own.lt.cell_lt' b0)).trans b0
  have c1 := (hb6.block _ (Own.lt.cell_lt' b1)).trans b1
  have d0 : w6.cell? ⟨w.heap.size, 0, none⟩ = some (.int .u8 0) := (cell_of_row _ _ 0 _ _ _ c0).trans rfl
  have d1 : w6.cell? ⟨w.heap.size, 1, none⟩ = some (.string ⟨#[]⟩) := (cell_of_row _ _ 1 _ _ _ c0).trans rfl
  have d2 : w6.cell? ⟨w.heap.size, 2, none⟩ = some (.bool false) := (cell_of_row _ _ 2 _ _ _ c0).trans rfl
  have d3 : w6.cell? ⟨w.heap.size, 3, none⟩ = some (.slice none 0 0) := (cell_of_row _ _ 3 _ _ _ c0).trans rfl
  have d4 : w6.cell? ⟨w.heap.size, 4, none⟩ = some (.slice none 0 0) := (cell_of_row _ _ 4 _ _ _ c0).trans rfl
  have d5 : w6.cell? ⟨w.heap.size + 1, 0, none⟩ = some (.int .i64 0) := (cell_of_row _ _ 0 _ _ _ c1).trans rfl
  have ff : ∀ o, w6.frozen? ⟨w.heap.size, o, none⟩ = false := fun o => by simp [World.frozen?, c0]
  have f0 := ff 0
  have f1 := ff 1
  have f2 := ff 2
  have f3 := ff 3
  have f4 := ff 4
  have f5 : w6.frozen? ⟨w.heap.size + 1, 0, none⟩ = false := by simp [World.frozen?, c1]
  obtain ⟨w7, hw7⟩ : ∃ w7, w7 = ((((w6.setCell ⟨w.heap.size, 0, none⟩ (.int .u8 t.kind)).setCell ⟨w.heap.size, 1, none⟩ (.string t.name)).setCell ⟨w.heap.size, 2, none⟩ (.bool t.neg)).setCell ⟨w.heap.size, 3, none⟩ (.slice A t.ds.length c)).setCell ⟨w.heap.size, 4, none⟩ (.slice K t.kids.length c') := ⟨_, rfl⟩
  obtain ⟨w8, hw8⟩ : ∃ w8, w8 = w7.setCell ⟨w.heap.size + 1, 0, none⟩ (.int .i64 0) := ⟨_, rfl⟩
  have g0 : w7.heap[w.heap.size]? = some (.cells #[.int .u8 t.kind, .string t.name, .bool t.neg, .slice A t.ds.length c, .slice K t.kids.length c'] 28 (0, 0)) := by rw [hw7]; exact five_set c0
  have g1 : w7.heap[w.heap.size + 1]? = some (.cells #[.int .i64 0] 32 (0, 0)) := by rw [hw7]; exact (five_off (by omega)).trans c1
  have h0 : w8.heap[w.heap.size]? = some (.cells #[.int .u8 t.kind, .string t.name, .bool t.neg, .slice A t.ds.length c, .slice K t.kids.length c'] 28 (0, 0)) := by rw [hw8]; exact (Below.heap_setCell _ _ _ _ (by show w.heap.size ≠ w.heap.size + 1; omega)).trans g0
  have h1 : w8.heap[w.heap.size + 1]? = some (.cells #[.int .i64 0] 32 (0, 0)) := by rw [hw8]; exact one_set g1
  have hAB : OnlyAB w.heap.size (w.heap.size + 1) w6 w8 := by
    rw [hw8, hw7]
    exact ((((((OnlyAB.refl _ _ w6).setA 0 _).setA 1 _).setA 2 _).setA 3 _).setA 4 _).setB 0 _
  have hb06 : Below w.heap.size w w6 := hb05.trans (hb6.mono hb05.size)
  have hb08 : Below w.heap.size w w8 := ⟨hAB.os.trans hb06.os, hAB.tape.trans hb06.tape, hAB.output.trans hb06.output, by rw [hAB.size]; exact hb06.size, fun k hk => (hAB.block k (by omega) (by omega)).trans (hb06.block k hk)⟩
  have hout : ∀ wf : World, (∀ k, k < w8.heap.size → (w.heap.size ≤ k ∨ ¬ NoBytes w k) → wf.heap[k]? = w8.heap[k]?) → TmV wf (fiveV t A K c c') t := fun wf hwf => hin wf fun k hk hx => by
    have hk0 : k ≠ w.heap.size := fun e => by
      subst e
      rcases hx with hx | hx
      · have := Own.lt.cell_lt' b0; omega
      · exact hx (.of b0 (by decide))
    have hk1 : k ≠ w.heap.size + 1 := fun e => by
      subst e
      rcases hx with hx | hx
      · have := Own.lt.cell_lt' b1; omega
      · exact hx (.of b1 (by decide))
    have hk2 : (w.heap.size ≤ k ∨ ¬ NoBytes w k) := by
      by_cases hkk : k < w.heap.size
      · rcases hx with hx | hx
        · have := hb05.size; omega
        · exact .inr fun hn => hx (hn.to (hb05.block _ hkk))
      · exact .inl (by omega)
    exact (hwf k (by rw [hAB.size]; exact hk) hk2).trans (hAB.block k hk0 hk1)
  have p0 := cell_of_row w8 w.heap.size 0 _ _ _ h0
  have p1 := cell_of_row w8 w.heap.size 1 _ _ _ h0
  have p2 := cell_of_row w8 w.heap.size 2 _ _ _ h0
  have p3 := cell_of_row w8 w.heap.size 3 _ _ _ h0
  have p4 := cell_of_row w8 w.heap.size 4 _ _ _ h0
  have p5 := cell_of_row w8 (w.heap.size + 1) 0 _ _ _ h1
  simp at p0 p1 p2 p3 p4 p5
  have HR := Lib.hid (show ToldE Z T w (.returned (.tuple #[fiveV t A K c c', .int .i64 0])) w8 from ⟨hb08, .inr ⟨t, A, K, c, c', hT, rfl, hout⟩⟩)
  have HV := Lib.hid (show _ ∧ _ from ⟨hw7, hw8⟩)
  clear b0 b1 hb05 hT c0 c1 ff hw7 hw8 g0 g1 h0 h1 hAB hb06 hb08 hout hin hb6 HK HB
  go_wp2
  rw [← HV.out.1, ← HV.out.2]
  refine leaves_cons (f := 30) (args := #[.pointer (some ⟨w.heap.size, 0, none⟩), .pointer (some ⟨w.heap.size + 1, 0, none⟩)]) (by simp) (by simp [go_sem]) ?_
  refine (told1_idle ⟨w.heap.size, 0, none⟩ ⟨w.heap.size + 1, 0, none⟩ _).mono ?_
  rintro e u' w'' ⟨rfl, rfl, rfl⟩
  simp [Leaves, settle, results, Tryz.results15, go_sem, p0, p1, p2, p3, p4, p5]
  exact HR.out
end Go.Proofs.YtlikpnaffpngiaaGreatDoor

/- Package term's walker: a row of turns in memory of the call's own; next, into: what is still ahead. No condition but of sizes. -/
import Derived.Test.YtlikpnaffpngiaaGreatDoorSameTs
import Derived.Maps.AppendAt
set_option linter.unusedVariables false
set_option linter.unusedSimpArgs false
namespace Go.Proofs.YtlikpnaffpngiaaGreatDoor
open Go.RowKit

theorem info_turn : (Tryz.prog.info? 123).map (fun i => (i.zero, i.size, i.bytes)) = some (some (.agg #[.pointer none, .nilFunc]), 2, 16) := by kernel_rfl
/-- A row of n turns, in blocks from B on. -/
def TRow (W : World) (B : Nat) (v : Value) (n : Nat) (E : List Value) : Prop := W.ownsRow B 123 2 v n E
theorem TRow.below {W W' : World} {B n : Nat} {v : Value} {E : List Value} (h : TRow W B v n E) (hb : Below W.heap.size W W') : TRow W' B v n E := by
  have hh : W.ownsRow B 123 2 v n E := h
  refine ⟨hh.1, ?_⟩
  rcases hh.2 with h0 | ⟨g, cap, cur, e, hB, hg, r⟩
  · exact .inl h0
  · refine .inr ⟨g, cap, cur, e, hB, ?_, r⟩
    rw [hb.block g (Own.lt.cell_lt' hg)]; exact hg
theorem TRow.nil (W : World) (B : Nat) : TRow W B (.slice none 0 0) 0 [] := World.ownsRow_nil W B 123 2
/-- What was there stays but for block g and the row's own; the row lies in its own block still, or in a new one. -/
structure Turned (g : Nat) (v v' : Value) (W W' : World) : Prop where
  os : W'.os = W.os
  tape : W'.tape = W.tape
  output : W'.output = W.output
  size : W.heap.size ≤ W'.heap.size
  block : ∀ k, k < W.heap.size → k ≠ g → v.ownBlock ≠ some k → W'.heap[k]? = W.heap[k]?
  own : ∀ k, v'.ownBlock = some k → v.ownBlock = some k ∨ W.heap.size ≤ k
theorem Turned.refl (g : Nat) (v : Value) (W : World) : Turned g v v W W := ⟨rfl, rfl, rfl, Nat.le_refl _, fun _ _ _ _ => rfl, fun _ h => .inl h⟩
theorem Turned.trans {g : Nat} {v v' v'' : Value} {a b c : World} (h : Turned g v v' a b) (k : Turned g v' v'' b c) : Turned g v v'' a c :=
  ⟨k.os.trans h.os, k.tape.trans h.tape, k.output.trans h.output, Nat.le_trans h.size k.size, fun i hi hg hv => (k.block i (Nat.lt_of_lt_of_le hi h.size) hg fun e => by
    rcases h.own i e with e | e
    · exact hv e
    · omega).trans (h.block i hi hg hv), fun i hi => by
    rcases k.own i hi with e | e
    · exact h.own i e
    · exact .inr (Nat.le_trans h.size e)⟩
theorem one_set {w : World} {g : Nat} {u v : Value} {T : TypeId} (h : w.heap[g]? = some (.cells #[u] T (0, 0))) : (w.setCell ⟨g, 0, none⟩ v).heap[g]? = some (.cells #[v] T (0, 0)) := one_setCell h
/-- A walker, first in its block: what is ahead; x: what lies behind it there. -/
def WK (W : World) (g : Nat) (v : Value) (T : TypeId) (x : List Value) : Prop := W.heap[g]? = some (.cells ⟨v :: x⟩ T (0, 0))
theorem WK.cell {W : World} {g : Nat} {v : Value} {T : TypeId} {x : List Value} (h : WK W g v T x) : W.cell? ⟨g, 0, none⟩ = some v := by
  unfold WK at h; simp [World.cell?, h]
theorem WK.frozen {W : World} {g : Nat} {v : Value} {T : TypeId} {x : List Value} (h : WK W g v T x) : W.frozen? ⟨g, 0, none⟩ = false := by
  unfold WK at h; simp [World.frozen?, h]
theorem WK.lt {W : World} {g : Nat} {v : Value} {T : TypeId} {x : List Value} (h : WK W g v T x) : g < W.heap.size := cell_lt h.cell
theorem WK.to {W W' : World} {g : Nat} {v : Value} {T : TypeId} {x : List Value} (h : WK W g v T x) (e : W'.heap[g]? = W.heap[g]?) : WK W' g v T x := e.trans h
theorem WK.set {W : World} {g : Nat} {u v : Value} {T : TypeId} {x : List Value} (h : WK W g u T x) : WK (W.setCell ⟨g, 0, none⟩ v) g v T x := by
  unfold WK at h ⊢
  simp [World.setCell, Array.getElem?_modify, h]
theorem turn_one {p : Addr} {F : FuncId} {fs cs : Array Value} : ∀ u ∈ [Value.pointer (some p), .func (.func F) fs cs], u.oneCell' = true := by
  intro u hu
  simp at hu
  rcases hu with rfl | rfl <;> rfl
theorem turn_news {w : World} {a b : Value} {T : TypeId} : ∀ j z, [a, b][j]? = some z → (w.alloc (.cells #[a, b] T)).cell? ((⟨w.heap.size, 0, none⟩ : Addr).add j) = some z := by
  intro j z hj
  match j, hj with
  | 0, hj => simp at hj; subst hj; simp [Addr.add]
  | 1, hj => simp at hj; subst hj; simp [Addr.add]

set_option maxRecDepth 100000 in
set_option maxHeartbeats 3200000 in
theorem next_any {T : TypeId} {x : List Value} {w : World} {B gw n : Nat} {v : Value} {p : Addr} {F : FuncId} {fs cs : Array Value} {E : List Value} (hv : TRow w B v n E) (hg : WK w gw v T x) (hgB : gw < B) (hB : B ≤ w.heap.size) (hn : n ≤ 100000000) :
    Calls Tryz.prog 64 #[.pointer (some ⟨gw, 0, none⟩), .func (.func F) fs cs, .pointer (some p)] w fun e w' => (∃ u, e = .returned u) ∧ ∃ v', TRow w' B v' (n + 1) (E ++ [.pointer (some p), .func (.func F) fs cs]) ∧ WK w' gw v' T x ∧ Turned gw v v' w w' := by
  obtain ⟨i0, hi, hz0, hz1, hz2⟩ := info_parts info_turn
  have m0 : w.cell? ⟨gw, 0, none⟩ = some v := hg.cell
  have HV := Lib.hid (show _ ∧ _ ∧ _ ∧ _ from ⟨hv, hg, hgB, hB⟩)
  clear hg hgB hB
  go_enter Tryz.func64, Tryz.ntmps64
  go_wp2_with (at_builtin; refine wpList_append_own_at _ rfl _ _ 101 rfl B 123 i0 _ 2 16 Tryz.underlying101 hi hz0 hz1 hz2 rfl (by decide) _ _ _ rfl (hv.below ((Below.refl _ _).alloc (Nat.le_refl _) _)) ⟨w.heap.size, 0, none⟩ 1 1 [.pointer (some p), .func (.func F) fs cs] rfl rfl ?c1 ?c2 ?c3 ?c4 ?c5 ?_)
  case c1 => exact turn_news
  case c2 => exact turn_one
  case c3 => unfold maxLen; omega
  case c4 => omega
  case c5 => simp; have := HV.out.2.2.2; omega
  intro v' w3 hown' hgrow' _ hwhere
  obtain ⟨g', cap, rfl⟩ : ∃ g' cap, v' = .slice (some ⟨g', 0, none⟩) (n + 1) cap := by
    rcases hown'.2 with ⟨_, h0⟩ | ⟨g', cap, cur, e, _⟩
    · exact absurd h0 (by omega)
    · exact ⟨g', cap, e⟩
  obtain ⟨hv, hg, hgB, hB⟩ := HV.out
  have hb : Below B w w3 := ((Below.refl B w).alloc hB _).grown hgrow' (by rw [World.size_alloc]; omega) (fun k hk => (hv.lt k hk).1)
  have hg3 : WK w3 gw v T x := hg.to (hb.block gw hgB)
  have m3 : w3.cell? ⟨gw, 0, none⟩ = some v := hg3.cell
  have f3 : w3.frozen? ⟨gw, 0, none⟩ = false := hg3.frozen
  have HE := Lib.hid (show TRow (w3.setCell ⟨gw, 0, none⟩ (.slice (some ⟨g', 0, none⟩) (n + 1) cap)) B (.slice (some ⟨g', 0, none⟩) (n + 1) cap) (n + 1) (E ++ [.pointer (some p), .func (.func F) fs cs]) ∧ WK (w3.setCell ⟨gw, 0, none⟩ (.slice (some ⟨g', 0, none⟩) (n + 1) cap)) gw (.slice (some ⟨g', 0, none⟩) (n + 1) cap) T x ∧ Turned gw v (.slice (some ⟨g', 0, none⟩) (n + 1) cap) w (w3.setCell ⟨gw, 0, none⟩ (.slice (some ⟨g', 0, none⟩) (n + 1) cap)) from
    ⟨ownsRow_setCell_below hown' hgB _, hg3.set, hb.os, hb.tape, hb.output, (by simpa using hb.size), fun k hk hne hv => (Below.heap_setCell _ _ _ _ hne).trans ((hgrow'.block k (by rw [World.size_alloc]; omega) (fun e => hv e.symm)).trans (Below.heap_alloc _ _ _ hk)), fun k hk => by
      rcases hwhere with e | e
      · exact .inl (e ▸ hk)
      · rw [e] at hk
        injection hk with hk
        exact .inr (by omega)⟩)
  clear hown' hgrow' hwhere hv hg hgB hB hb hg3 m0 HV
  go_wp2
  go_returns
  exact ⟨⟨_, rfl⟩, _, HE.out⟩
/-- The turns that 'into' lays for n parts at K: the last part's first. -/
def rowTurns (f : Value) (K : Option Addr) : Nat → List Value
  | 0 => []
  | i + 1 => [.pointer (K.map fun a => a.add (i * 5)), f] ++ rowTurns f K i
set_option maxRecDepth 100000 in
set_option maxHeartbeats 3200000 in
theorem into_any {T : TypeId} {x : List Value} {w : World} {B gw m n c : Nat} {v : Value} {K : Option Addr} {F : FuncId} {fs cs : Array Value} {E : List Value} (hv : TRow w B v m E) (hg : WK w gw v T x) (hgB : gw < B) (hB : B ≤ w.heap.size) (hn : m + n ≤ 100000000) (hK : n ≠ 0 → ∃ ad, K = some ad) :
    Calls Tryz.prog 53 #[.pointer (some ⟨gw, 0, none⟩), .func (.func F) fs cs, .slice K n c] w fun e w' => (∃ u, e = .returned u) ∧ ∃ v', TRow w' B v' (m + n) (E ++ rowTurns (.func (.func F) fs cs) K n) ∧ WK w' gw v' T x ∧ Turned gw v v' w w' := by
  have HV := Lib.hid (show TRow w B v (m + (n - n)) (E ++ []) ∧ [] ++ rowTurns (.func (.func F) fs cs) K n = rowTurns (.func (.func F) fs cs) K n ∧ WK w gw v T x ∧ Turned gw v v w w from ⟨by rw [Nat.sub_self, Nat.add_zero, List.append_nil]; exact hv, rfl, hg, Turned.refl _ _ _⟩)
  have HB := Lib.hid (show _ ∧ _ from ⟨hgB, hB⟩)
  have HK := Lib.hid hK
  have hn1 : n ≤ 100000000 := by omega
  have HM := Lib.hid hn
  clear hv hg hgB hB hK hn
  go_enter Tryz.func53, Tryz.ntmps53
  go_wp2
  go_loopw [6] (fun iv wr => ∃ (r : Nat) (v' : Value) (D : List Value), r ≤ n ∧ iv = .int .i64 ((r : Int) - 1) ∧ Hid (TRow wr B v' (m + (n - r)) (E ++ D) ∧ D ++ rowTurns (.func (.func F) fs cs) K r = rowTurns (.func (.func F) fs cs) K n ∧ WK wr gw v' T x ∧ Turned gw v v' w wr)) (fun iv _ => (intOf iv + 1).toNat)
  case atStart => exact ⟨n, v, [], Nat.le_refl _, rfl, HV.out⟩
  case round =>
    obtain ⟨r, v', D, hr, rfl, HI⟩ := hrel
    rcases r with _ | r
    · have e0 : (((0 : Nat) : Int) - 1) = -1 := by omega
      rw [e0]
      have HE := Lib.hid (show TRow wr B v' (m + n) (E ++ rowTurns (.func (.func F) fs cs) K n) ∧ WK wr gw v' T x ∧ Turned gw v v' w wr from by
        obtain ⟨h1, h2, h3, h4⟩ := HI.out
        have h2' : D = rowTurns (.func (.func F) fs cs) K n := by rw [← h2]; exact (List.append_nil D).symm
        rw [← h2']
        exact ⟨h1, h3, h4⟩)
      clear HI
      go_wp2
      go_returns
      exact ⟨⟨_, rfl⟩, v', HE.out⟩
    · have e0 : (((r + 1 : Nat) : Int) - 1) = (r : Int) := by omega
      rw [e0]
      obtain ⟨ad, rfl⟩ := HK.out (by omega)
      have hrn : (r : Int) < (n : Int) := by omega
      obtain ⟨h1, h2, h3, h4⟩ := HI.out
      have HN := Lib.hid (next_any (p := ad.add (r * 5)) (F := F) (fs := fs) (cs := cs) h1 h3 HB.out.1 (Nat.le_trans HB.out.2 h4.size) (by have := HM.out; omega))
      have H2 := Lib.hid (show _ ∧ _ from ⟨h2, h4⟩)
      clear h1 h2 h3 h4 HI
      go_wp2_with fail
      refine HN.out.mono ?_
      rintro e w' ⟨⟨u, rfl⟩, v'', h1, h2, h3⟩
      have HE := Lib.hid (show TRow w' B v'' (m + (n - r)) (E ++ (D ++ [.pointer (some (ad.add (r * 5))), .func (.func F) fs cs])) ∧ (D ++ [.pointer (some (ad.add (r * 5))), .func (.func F) fs cs]) ++ rowTurns (.func (.func F) fs cs) (some ad) r = rowTurns (.func (.func F) fs cs) (some ad) n ∧ WK w' gw v'' T x ∧ Turned gw v v'' w w' from by
        refine ⟨?_, ?_, h2, H2.out.2.trans h3⟩
        · rw [← List.append_assoc, show m + (n - r) = m + (n - (r + 1)) + 1 by omega]; exact h1
        · rw [← H2.out.1, List.append_assoc]; rfl)
      clear h1 h2 h3 H2 HN
      go_wp2
      go_roundw
      case rel => exact ⟨r, v'', _, by omega, by go_num, HE.out⟩
      case measure => simp [intOf]
end Go.Proofs.YtlikpnaffpngiaaGreatDoor

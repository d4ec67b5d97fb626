/- Package term's Free: the names that stand in a part. Package term's Free: the names that stand in a term, rising, each once. Package term's Free, whole: what it gathers, sorted, each name once. whetstonekit's SameTexts: a row of texts and once more the same. -/
import Derived.Test.YtponkpiahgoohaaGreatDoorTAwakeS
import Derived.Laws.AppendOwn
import Derived.Laws.OwnMore
import Derived.Tactics
import Derived.Deep.RegionLaw
import Derived.Deep.AppendLies
import Derived.Lib.SmallJoins
set_option linter.unusedVariables false
set_option linter.unusedSimpArgs false
namespace Go.Proofs.YtponkpiahgoohaaGreatDoor
open Go.RowKit

/-- The names that stand in the parts of a list, in their order. -/
def namesOf (d : List Tm) : List (List UInt8) := (d.filter fun t => t.kind == 1).map fun t => t.name.data.toList
def strVals (l : List (List UInt8)) : List Value := l.map fun s => Value.string ⟨s.toArray⟩
def Strs (W : World) (B : Nat) (v : Value) (l : List (List UInt8)) : Prop := W.ownsRow B 9 1 v l.length (strVals l)
theorem info_str : (Tryz.prog.info? 9).map (fun i => (i.zero, i.size, i.bytes)) = some (some (.string ⟨#[]⟩), 1, 16) := by kernel_rfl
theorem Strs.slice {W : World} {B : Nat} {v : Value} {l : List (List UInt8)} (h : Strs W B v l) : ∃ A c, v = .slice A l.length c := by
  rcases h.2 with ⟨e, h0⟩ | ⟨g, cap, cur, e, _⟩
  · rw [h0]; exact ⟨_, _, e⟩
  · exact ⟨_, _, e⟩
theorem Strs.kept {W W' : World} {B : Nat} {v : Value} {l : List (List UInt8)} (h : Strs W B v l) (hb : ∀ k, v.ownBlock = some k → k < W.heap.size → W'.heap[k]? = W.heap[k]?) : Strs W' B v l := by
  have hh : W.ownsRow B 9 1 v l.length (strVals l) := h
  refine ⟨hh.1, ?_⟩
  rcases hh.2 with h0 | ⟨g, cap, cur, e, hB, hg, r⟩
  · exact .inl h0
  · refine .inr ⟨g, cap, cur, e, hB, ?_, r⟩
    rw [hb g (by rw [e]; rfl) (Own.lt.cell_lt' hg)]; exact hg
set_option maxRecDepth 100000 in
set_option maxHeartbeats 3200000 in
theorem free_no {W : World} {b : Nat} {kd : Int} {ad : Addr} (c0 : W.cell? ad = some (.int .u8 kd)) (hk : (kd == 1) = false) :
    Calls Tryz.prog 29 #[.pointer (some ad), .pointer (some ⟨b, 0, none⟩)] W fun e w' => (∃ u, e = .returned u) ∧ w' = W := by
  go_enter Tryz.func29, Tryz.ntmps29
  go_wp2
  go_returns
  exact ⟨⟨_, rfl⟩, rfl⟩
theorem one_str (s : ByteArray) : ∀ u ∈ [Value.string s], u.oneCell' = true := fun u hu => by rw [List.mem_singleton.1 hu]; rfl
theorem str_63 {n : Nat} (h : n ≤ 1000000) : n + 1 ≤ maxLen := by unfold maxLen; omega
theorem str_by {n : Nat} (h : n ≤ 1000000) : (n + 1) * 16 ≤ 140737488355328 := by omega
theorem str_B {B : Nat} {W : World} {o : Obj} (h : B ≤ W.heap.size) : B ≤ (W.alloc o).heap.size := by rw [World.size_alloc]; omega
theorem frozen_one {W : World} {b : Nat} {v : Value} {T : TypeId} (h : W.heap[b]? = some (.cells #[v] T (0, 0))) : W.frozen? ⟨b, 0, none⟩ = false := by simp [World.frozen?, h]
theorem free_box {W w4 : World} {b B : Nat} {v : Value} {T : TypeId} {l : List (List UInt8)} {o : Obj} (hb : W.heap[b]? = some (.cells #[v] T (0, 0))) (hv : Strs W B v l) (hbB : b < B) (hg : (W.alloc o).drew.grownBy w4 v.ownBlock) : w4.heap[b]? = some (.cells #[v] T (0, 0)) := by
  have hlt : b < W.heap.size := Own.lt.cell_lt' hb
  refine (hg.block b ?_ fun e => ?_).trans ((Below.heap_alloc _ _ _ hlt).trans hb)
  · show b < (W.alloc o).heap.size
    rw [World.size_alloc]; omega
  · have := (World.ownsRow.lt hv b e.symm).1; omega
theorem free_fin {W w4 : World} {b B g4 c4 : Nat} {v : Value} {l : List (List UInt8)} {nm : ByteArray} (hv : Strs W B v l) (h : w4.ownsRow B 9 1 (.slice (some ⟨g4, 0, none⟩) (l.length + 1) c4) (l.length + 1) (strVals l ++ [.string nm]) ∧ (W.alloc (.cells #[.string nm] 9)).drew.grownBy w4 v.ownBlock ∧ (v.ownBlock = some g4 ∨ g4 = (W.alloc (.cells #[.string nm] 9)).drew.heap.size) ∧ w4.heap[b]? = some (.cells #[v] 31 (0, 0))) :
    Strs w4 B (.slice (some ⟨g4, 0, none⟩) (l.length + 1) c4) (l ++ [nm.data.toList]) ∧ w4.heap[b]? = some (.cells #[v] 31 (0, 0)) ∧ (∀ k, k < W.heap.size → v.ownBlock ≠ some k → w4.heap[k]? = W.heap[k]?) ∧ (w4.os = W.os ∧ w4.tape = W.tape ∧ w4.output = W.output ∧ W.heap.size ≤ w4.heap.size) ∧ ((Value.slice (some ⟨g4, 0, none⟩) (l.length + 1) c4).ownBlock = v.ownBlock ∨ ∃ k, (Value.slice (some ⟨g4, 0, none⟩) (l.length + 1) c4).ownBlock = some k ∧ W.heap.size ≤ k) := by
  obtain ⟨hr, hg, ho, hb⟩ := h
  have s1 : (W.alloc (.cells #[.string nm] 9)).drew.heap.size = W.heap.size + 1 := World.size_alloc ..
  refine ⟨?_, hb, fun k hk hne => (hg.block k (by rw [s1]; omega) (fun e => hne e.symm)).trans (Below.heap_alloc _ _ _ hk), ⟨hg.os, hg.tape, hg.output, by have := hg.size; rw [s1] at this; omega⟩, ?_⟩
  · have e1 : (l ++ [nm.data.toList]).length = l.length + 1 := by simp
    have e2 : strVals (l ++ [nm.data.toList]) = strVals l ++ [.string nm] := by
      unfold strVals
      rw [List.map_append]
      simp
    unfold Strs
    rw [e1, e2]
    exact hr
  · rcases ho with e | e
    · exact .inl e.symm
    · exact .inr ⟨g4, rfl, by rw [e, s1]; omega⟩
set_option maxRecDepth 100000 in
set_option maxHeartbeats 3200000 in
theorem free_yes {W : World} {b B : Nat} {ad : Addr} {nm : ByteArray} {v : Value} {l : List (List UInt8)} (c0 : W.cell? ad = some (.int .u8 1)) (c1 : W.cell? (ad.add 1) = some (.string nm)) (hb : W.heap[b]? = some (.cells #[v] 31 (0, 0))) (hv : Strs W B v l) (hB : B ≤ W.heap.size) (hbB : b < B) (hl : l.length ≤ 1000000) :
    Calls Tryz.prog 29 #[.pointer (some ad), .pointer (some ⟨b, 0, none⟩)] W fun e w' => (∃ u, e = .returned u) ∧ ∃ v' w2, w' = w2.setCell ⟨b, 0, none⟩ v' ∧ Strs w2 B v' (l ++ [nm.data.toList]) ∧ w2.heap[b]? = some (.cells #[v] 31 (0, 0)) ∧ (∀ k, k < W.heap.size → v.ownBlock ≠ some k → w2.heap[k]? = W.heap[k]?) ∧ (w2.os = W.os ∧ w2.tape = W.tape ∧ w2.output = W.output ∧ W.heap.size ≤ w2.heap.size) ∧ (v'.ownBlock = v.ownBlock ∨ ∃ k, v'.ownBlock = some k ∧ W.heap.size ≤ k) := by
  obtain ⟨i0, hi, hz0, hz1, hz2⟩ := info_parts info_str
  obtain ⟨A, c, rfl⟩ := hv.slice
  have m0 : W.cell? ⟨b, 0, none⟩ = some (.slice A l.length c) := cell_one0 hb
  rw [add_posK _ (by decide)] at c1
  have m0a : (W.alloc (.cells #[.string nm] 9)).cell? ⟨b, 0, none⟩ = some (.slice A l.length c) := (cell_congr (Below.heap_alloc _ _ _ (Own.lt.cell_lt' hb))).trans m0
  have HH := Lib.hid (show _ ∧ _ ∧ _ ∧ _ ∧ _ from ⟨hb, hv, hB, hbB, hl⟩)
  clear hb hv hB hbB
  go_enter Tryz.func29, Tryz.ntmps29
  go_wp2_with fail
  go_region_law (refine step_append_lies _ rfl (.tmp 8) (.tmp 13) 31 rfl B 9 i0 _ 1 16 Tryz.underlying31 hi hz0 hz1 hz2 rfl (by decide) (.slice A l.length c) l.length (strVals l) (by simp [Act.eval, Act.put]) (World.ownsRow.alloc HH.out.2.1 _) ⟨W.heap.size, 0, none⟩ 1 1 [.string nm] (by simp [Act.eval, Act.put]) rfl (cell_one_new _ _ _) (one_str nm) (by decide) (str_63 HH.out.2.2.2.2) (str_by HH.out.2.2.2.2) (str_B HH.out.2.2.1) _ rfl ?_; intro g4 c4 w4 r4 q4 o4 l4; have nb := free_box HH.out.1 HH.out.2.1 HH.out.2.2.2.1 q4; have mb := cell_one0 nb; have fb := frozen_one nb; have R4 := Lib.hid (show _ ∧ _ ∧ _ ∧ _ from ⟨r4, q4, o4, nb⟩); clear r4 q4 o4 l4 nb)
  all_goals (have HE := Lib.hid (free_fin HH.out.2.1 R4.out); clear R4)
  all_goals go_wp2
  all_goals go_returns
  all_goals exact ⟨⟨_, rfl⟩, _, w4, rfl, HE.out⟩
end Go.Proofs.YtponkpiahgoohaaGreatDoor

namespace Go.Proofs.YtponkpiahgoohaaGreatDoor
open Go.RowKit Go.Sort

/-- What Free's visit has gathered: v, in block b. -/
def FreeS (M b B : Nat) (w : World) (d : List Tm) (X : Nat → Prop) (W : World) : Prop := ∃ v, (∀ k, X k ↔ k = b ∨ v.ownBlock = some k) ∧ W.heap[b]? = some (.cells #[v] 31 (0, 0)) ∧ Strs W B v (namesOf d) ∧ B ≤ W.heap.size ∧ Below M w W
theorem namesOf_len (d : List Tm) : (namesOf d).length ≤ d.length := by
  unfold namesOf
  rw [List.length_map]
  exact List.length_filter_le _ _
theorem free_visits {w w1 : World} {M N b B : Nat} {all : List Tm} (hw1 : w1.heap.size ≤ N) (hB : w1.heap.size ≤ B) (hbB : b < B) (hMb : M ≤ b) (hb1 : ∀ p v, w1.cell? p = some v → p.block ≠ b) (hall : all.length ≤ 1000000) :
    Visits N M 29 #[] #[.pointer (some ⟨b, 0, none⟩)] all (SS w1 (FreeS M b B w)) := by
  refine Visits.static hw1 (enters_of Tryz.func29 (by kernel_rfl) rfl) (fun h k hk => ?_) (fun {d X W W'} h hk hs => ?_) (fun {d X W ad t r} h hd hp hsub => ?_)
  · obtain ⟨v, hX, hb, hv, _⟩ := h
    rcases (hX k).1 hk with rfl | e
    · exact Own.lt.cell_lt' hb
    · exact (World.ownsRow.lt hv k e).2
  · obtain ⟨v, hX, hb, hv, hBs, hbl⟩ := h
    exact ⟨v, hX, (hk b ((hX b).2 (.inl rfl))).trans hb, hv.kept fun k e _ => hk k ((hX k).2 (.inr e)), Nat.le_trans hBs hs.size, hbl.trans hs⟩
  · obtain ⟨v, hX, hb, hv, hBs, hbl⟩ := h
    obtain ⟨u0, u1, u2, u3, u4, ⟨h0, h1, h2, h3, h4⟩, ht⟩ := hp
    obtain ⟨A, K, c, c', e, _⟩ := ht.parts
    simp only [Value.agg.injEq, Array.mk.injEq, List.cons.injEq, and_true] at e
    obtain ⟨rfl, rfl, rfl, rfl, rfl⟩ := e
    have hdl : d.length ≤ 1000000 := by
      have := congrArg List.length hd
      simp at this
      omega
    have hln := namesOf_len d
    by_cases hk : t.kind = 1
    · have hn : namesOf (d ++ [t]) = namesOf d ++ [t.name.data.toList] := by
        unfold namesOf
        rw [List.filter_append, List.map_append]
        simp [hk]
      refine (free_yes (B := B) (hk ▸ hsub _ _ h0) (hsub _ _ h1) hb hv hBs hbB (by omega)).mono ?_
      rintro e w' ⟨hu, v', w2, rfl, r1, r2, r3, ⟨r4, r5, r6, r7⟩, r8⟩
      have hvb : ∀ k, v.ownBlock = some k → B ≤ k := fun k hk => (World.ownsRow.lt hv k hk).1
      have hne : ∀ k, v'.ownBlock = some k → k ≠ b := fun k hk => by have := (World.ownsRow.lt r1 k hk).1; omega
      have hkeep : ∀ k, k < W.heap.size → k ≠ b → v.ownBlock ≠ some k → (w2.setCell ⟨b, 0, none⟩ v').heap[k]? = W.heap[k]? := fun k hk h1 h2 => (Below.heap_setCell _ _ _ _ h1).trans (r3 k hk h2)
      have hbs : Below M W (w2.setCell ⟨b, 0, none⟩ v') := ⟨r4, r5, r6, by simpa using r7, fun k hk => hkeep k (by omega) (by omega) (fun e => by have := hvb k e; omega)⟩
      refine ⟨hu, fun k => k = b ∨ v'.ownBlock = some k, ⟨v', fun k => Iff.rfl, one_set r2, ?_, by simpa using Nat.le_trans hBs r7, hbl.trans hbs⟩, ⟨hbs.os, hbs.tape, hbs.output, hbs.size, fun k hk hx _ => hkeep k hk (fun e => hx ((hX k).2 (.inl e))) (fun e => hx ((hX k).2 (.inr e))), fun k hk => ?_⟩, hbs, fun p u hp => ?_⟩
      · rw [hn]
        exact r1.kept fun k hk _ => Below.heap_setCell _ _ _ _ (hne k hk)
      · rcases hk with rfl | hk
        · exact .inl ((hX k).2 (.inl rfl))
        · rcases r8 with e | ⟨k', e, h⟩
          · exact .inl ((hX k).2 (.inr (e ▸ hk)))
          · rw [hk] at e
            injection e with e
            exact .inr (.inl (e ▸ h))
      · have e1 := hsub p u hp
        exact (cell_congr (hkeep _ (cell_lt e1) (hb1 p u hp) (fun e => by have := hvb _ e; have := cell_lt hp; omega))).trans e1
    · have hn : namesOf (d ++ [t]) = namesOf d := by
        unfold namesOf
        rw [List.filter_append, List.map_append]
        simp [hk]
      refine (free_no (b := b) (hsub _ _ h0) (beq_eq_false_iff_ne.2 hk)).mono ?_
      rintro e w' ⟨hu, rfl⟩
      exact ⟨hu, X, ⟨v, hX, hb, by rw [hn]; exact hv, hBs, hbl⟩, Touch.refl _ _, Below.refl _ _, hsub⟩
end Go.Proofs.YtponkpiahgoohaaGreatDoor

namespace Go.Proofs.YtponkpiahgoohaaGreatDoor
open Go.RowKit Go.Sort

/-- The names that stand in a term, rising, each once. -/
def freeK (t : Tm) : List (List UInt8) := Lib.compact ((namesOf (preT t)).mergeSort fun x y => decide (x ≤ y))
def StrsAt (W : World) (A : Option Addr) (l : List (List UInt8)) : Prop := ∀ (i : Nat) (s : List UInt8), l[i]? = some s → ∃ g, A = some ⟨g, 0, none⟩ ∧ W.cell? ⟨g, i, none⟩ = some (.string ⟨s.toArray⟩)
theorem putRow_off {enc : List UInt8 → Value} {w : World} {blk off k : Nat} {d : Array (List UInt8)} (h : k ≠ blk) : (putRow enc w blk off d).heap[k]? = w.heap[k]? := by
  unfold putRow mapBlock
  simp [Array.getElem?_modify, Ne.symm h]
theorem putRow_size {enc : List UInt8 → Value} {w : World} {blk off : Nat} {d : Array (List UInt8)} : (putRow enc w blk off d).heap.size = w.heap.size := by
  unfold putRow mapBlock
  simp
theorem grow_old {w : World} {os : Array Obj} {k : Nat} (h : k < w.heap.size) : (grow w os).heap[k]? = w.heap[k]? := by
  unfold grow
  simp [Array.getElem?_append, h]
theorem frozen_congr {a b : World} {p : Addr} (h : b.heap[p.block]? = a.heap[p.block]?) : b.frozen? p = a.frozen? p := by
  unfold World.frozen?; rw [h]
theorem sort_below {w1 : World} {M g q : Nat} {d : Array (List UInt8)} {os : Array Obj} (hg : M ≤ g) (hM : M ≤ w1.heap.size) : RowKit.Below M w1 (grow (putRow encStr (Sort.ahead w1 q) g 0 d) os) := by
  refine ⟨rfl, rfl, rfl, ?_, fun k hk => ?_⟩
  · have e1 : (putRow encStr (Sort.ahead w1 q) g 0 d).heap.size = w1.heap.size := putRow_size
    unfold grow
    rw [Array.size_append, e1]
    exact Nat.le_add_right _ _
  · have e1 : (putRow encStr (Sort.ahead w1 q) g 0 d).heap.size = w1.heap.size := putRow_size
    exact (grow_old (by rw [e1]; omega)).trans (putRow_off (show k ≠ g by omega))
theorem sort_keep {w1 : World} {g q k : Nat} {d : Array (List UInt8)} {os : Array Obj} (hk : k < w1.heap.size) (hne : k ≠ g) : (grow (putRow encStr (Sort.ahead w1 q) g 0 d) os).heap[k]? = w1.heap[k]? := by
  have e1 : (putRow encStr (Sort.ahead w1 q) g 0 d).heap.size = w1.heap.size := putRow_size
  exact (grow_old (by rw [e1]; exact hk)).trans (putRow_off hne)
theorem comp_below {w2 : World} {M g q : Nat} {d : Array (List UInt8)} (hg : M ≤ g) : RowKit.Below M w2 (putRow encStr (Sort.ahead w2 q) g 0 d) :=
  ⟨rfl, rfl, rfl, Nat.le_of_eq putRow_size.symm, fun k hk => putRow_off (show k ≠ g by omega)⟩
theorem holds_grow {w : World} {os : Array Obj} {blk off : Nat} {d : Array (List UInt8)} (h : Holds encStr w blk off d) : Holds encStr (grow w os) blk off d := fun j hj => by
  have hlt := cell_lt (h j hj).1
  exact ⟨(cell_congr (grow_old hlt)).trans (h j hj).1, (frozen_congr (grow_old hlt)).trans (h j hj).2⟩
theorem strs_holds {W : World} {B g cap : Nat} {l : List (List UInt8)} (h : Strs W B (.slice (some ⟨g, 0, none⟩) l.length cap) l) (hl : 0 < l.length) : Holds encStr W g 0 l.toArray ∧ l.length ≤ cap ∧ B ≤ g ∧ g < W.heap.size := by
  have hh : W.ownsRow B 9 1 (.slice (some ⟨g, 0, none⟩) l.length cap) l.length (strVals l) := h
  rcases hh.2 with ⟨_, h0⟩ | ⟨g', cap', cur, e, hB, hg, hc, _⟩
  · omega
  · simp only [Value.slice.injEq, Option.some.injEq, Addr.mk.injEq, and_true, true_and] at e
    obtain ⟨rfl, rfl⟩ := e
    refine ⟨fun j hj => ⟨?_, by simp [World.frozen?, hg]⟩, hc, hB, Own.lt.cell_lt' hg⟩
    have hj' : j < l.length := by simpa using hj
    rw [Nat.zero_add, World.ownsRow.cellAt hh j (by omega)]
    unfold strVals
    rw [List.getElem?_map, List.getElem?_eq_getElem hj']
    simp [getElem!_pos, hj']
theorem at_of_holds {W : World} {g : Nat} {l m : List (List UInt8)} (h : Holds encStr W g 0 (l ++ m).toArray) : StrsAt W (some ⟨g, 0, none⟩) l := fun i s hi => by
  have hil : i < l.length := (List.getElem?_eq_some_iff.1 hi).1
  have := (h i (by simp; omega)).1
  refine ⟨g, rfl, ?_⟩
  rw [Nat.zero_add] at this
  rw [this]
  have e1 : (l ++ m).toArray[i]! = s := by
    rw [getElem!_pos _ i (by simp; omega)]
    simp only [List.getElem_toArray]
    rw [List.getElem_append_left hil]
    exact (List.getElem?_eq_some_iff.1 hi).2
  rw [e1]
theorem compact_len (l : List (List UInt8)) : (Lib.compact l).length ≤ l.length := Lib.compact_length_le l
theorem free_end {w w2 w3 : World} {g q n : Nat} {l : List (List UInt8)} (hl : l.length = n) (hH : Holds encStr w2 g 0 l.toArray) (hb : RowKit.Below w.heap.size w w2) (hg : w.heap.size ≤ g) (hw3 : w3 = putRow encStr (Sort.ahead w2 q) g 0 (Lib.compact l ++ List.replicate (n - (Lib.compact l).length) []).toArray) : StrsAt w3 (some ⟨g, 0, none⟩) (Lib.compact l) ∧ RowKit.Below w.heap.size w w3 := by
  subst hw3
  refine ⟨at_of_holds (holds_putRow encStr _ g 0 _ _ (holds_ahead encStr w2 q g 0 _ hH) ?_), hb.trans (comp_below hg)⟩
  have := compact_len l
  rw [List.size_toArray, List.size_toArray, List.length_append, List.length_replicate]
  omega
set_option maxRecDepth 100000 in
set_option maxHeartbeats 3200000 in
theorem free_any {w : World} {u0 u1 u2 u3 u4 : Value} {t : Tm} (ht : TmV w (.agg #[u0, u1, u2, u3, u4]) t) (hwt : (preT t).length ≤ 100000) :
    Calls Tryz.prog 9 #[.agg #[u0, u1, u2, u3, u4]] w fun e w' => ∃ A c, e = .returned (.slice A (freeK t).length c) ∧ StrsAt w' A (freeK t) ∧ Below w.heap.size w w' := by
  have HH := Lib.hid (show _ ∧ _ from ⟨ht, hwt⟩)
  clear ht hwt
  go_enter Tryz.func9, Tryz.ntmps9
  go_wp2_with fail
  obtain ⟨ht, hwt⟩ := HH.out
  obtain ⟨g0, g1, g2, hs3, hb3⟩ := three_alloc w (.cells #[u0, u1, u2, u3, u4] 30) (.cells #[.slice none 0 0] 31) (.cells #[u0, u1, u2, u3, u4] 30)
  obtain ⟨a0, a1, a2, asz, ab⟩ := three_alloc w (.cells #[u0, u1, u2, u3, u4] 30) (.cells #[] 31) (.cells #[u0, u1, u2, u3, u4] 30)
  obtain ⟨hsub, hbl⟩ := blank_three w (.cells #[u0, u1, u2, u3, u4] 30) (.cells #[u0, u1, u2, u3, u4] 30) (.slice none 0 0) 31
  have hpl : (preL [t]).length ≤ (preT t).length := by rw [preL_one]; exact Nat.le_refl _
  have hV := free_visits (N := w.heap.size + 3) (M := w.heap.size) (b := w.heap.size + 1) (B := w.heap.size + 3) (all := preL [t]) (w := w) (w1 := ((w.alloc (.cells #[u0, u1, u2, u3, u4] 30)).alloc (.cells #[] 31)).alloc (.cells #[u0, u1, u2, u3, u4] 30)) (Nat.le_of_eq asz) (Nat.le_of_eq asz) (by omega) (by omega) hbl (by omega)
  rw [← hs3] at hV
  have hp : PtrTm (((w.alloc (.cells #[u0, u1, u2, u3, u4] 30)).alloc (.cells #[] 31)).alloc (.cells #[u0, u1, u2, u3, u4] 30)) ⟨w.heap.size + 1 + 1, 0, none⟩ t := by
    have a2' : (((w.alloc (.cells #[u0, u1, u2, u3, u4] 30)).alloc (.cells #[] 31)).alloc (.cells #[u0, u1, u2, u3, u4] 30)).heap[w.heap.size + 1 + 1]? = some (.cells #[u0, u1, u2, u3, u4] 30 (0, 0)) := a2
    exact ⟨u0, u1, u2, u3, u4, cells_five a2', ht.sub (sub_below ab)⟩
  have HE := Lib.hid (each_any (c := 1) (K := some ⟨w.heap.size + 1 + 1, 0, none⟩) (l := [t]) (X0 := fun k => k = w.heap.size + 1 ∨ (Value.slice none 0 0).ownBlock = some k) hV (by omega) hb3.size ⟨⟨.slice none 0 0, fun k => Iff.rfl, g1, World.ownsRow_nil _ _ _ _, Nat.le_refl _, hb3⟩, hsub, fun q hq => by
      have e : q = (⟨w.heap.size + 1 + 1, 0, none⟩, t) := List.mem_singleton.1 (by simpa [kidsOf, kidsAt, Addr.add_zero'] using hq)
      rw [e]
      exact hp⟩ (fun _ => ⟨_, rfl⟩))
  have H3 := Lib.hid (show _ ∧ _ ∧ _ ∧ _ from ⟨hb3, hs3, hpl, hwt⟩)
  clear ht hwt g0 g1 g2 hs3 hb3 a0 a1 a2 asz ab hsub hbl hpl hV hp HH
  refine Calls.mono HE.out ?_
  rintro e w1 ⟨⟨u, rfl⟩, X', ⟨⟨v, hX, hb, hv, hBs, _⟩, _, _⟩, hT, hbel⟩
  rw [preL_one] at hv
  obtain ⟨A', c', rfl⟩ := hv.slice
  have m0 : w1.cell? ⟨w.heap.size + 1, 0, none⟩ = some (.slice A' (namesOf (preT t)).length c') := cell_one0 hb
  have hbw : Below w.heap.size w w1 := H3.out.1.trans hbel
  have hBs' : w.heap.size + 3 ≤ w1.heap.size := by rw [H3.out.2.1] at hBs; exact hBs
  have hln : (namesOf (preT t)).length ≤ 100000 := by
    have h1 := namesOf_len (preT t)
    have h2 := H3.out.2.2.1
    have h3 := H3.out.2.2.2
    rw [preL_one] at h2
    omega
  clear hX hT hbel HE
  rcases Nat.eq_zero_or_pos (namesOf (preT t)).length with h0 | h0
  · have e0 : namesOf (preT t) = [] := List.length_eq_zero_iff.1 h0
    have ef : freeK t = [] := by unfold freeK; rw [e0, List.mergeSort_nil]; rfl
    have HF := Lib.hid (show freeK t = [] ∧ Below w.heap.size w w1 from ⟨ef, hbw⟩)
    have H1 := Lib.hid (Tryz.slices_Sort_string_none A' c' w1)
    have H2 := Lib.hid (Tryz.slices_Compact_string_empty A' c' w1)
    rw [h0] at m0
    clear hb hv hBs hBs' hbw hln h0 e0 ef H3
    go_wp2_with fail
    refine H1.out.mono ?_
    rintro e w2 ⟨rfl, hw⟩
    have hw := hw.symm
    subst hw
    go_wp2_with fail
    refine H2.out.mono ?_
    rintro e w2 ⟨rfl, hw⟩
    have hw := hw.symm
    subst hw
    go_wp2
    go_returns
    exact ⟨A', c', by rw [HF.out.1]; rfl, by rw [HF.out.1]; exact fun i s h => by simp at h, HF.out.2⟩
  · obtain ⟨g, cap, ev, hBg, hgl⟩ := World.ownsRow.form hv h0
    injection ev with e1 _ e3
    subst e1; subst e3
    obtain ⟨hH, hcap, _, _⟩ := strs_holds hv h0
    have hgb : g ≠ w.heap.size + 1 := by rw [H3.out.2.1] at hBg; omega
    have hgw : w.heap.size ≤ g := by rw [H3.out.2.1] at hBg; omega
    have hsl : ((namesOf (preT t)).mergeSort fun x y => decide (x ≤ y)).length = (namesOf (preT t)).length := List.length_mergeSort _
    have H1 := Lib.hid (Tryz.slices_Sort_string g 0 c' (namesOf (preT t)) w1 hH hgl (by omega))
    have HK := Lib.hid (show _ ∧ _ ∧ _ ∧ _ ∧ _ ∧ _ ∧ _ ∧ _ ∧ _ from ⟨hH, hcap, hgb, hgw, hgl, hb, hbw, hsl, hln⟩)
    clear hb hv hBs hBs' hbw hH hcap hgb hgw hsl hBg hgl hln h0 H3
    go_wp2_with fail
    refine H1.out.mono ?_
    rintro e w2 ⟨rfl, q, os, hw2⟩
    obtain ⟨hH, hcap, hgb, hgw, hgl, hb, hbw, hsl, hln⟩ := HK.out
    have hk2 : ∀ k, k < w1.heap.size → k ≠ g → w2.heap[k]? = w1.heap[k]? := fun k h1 h2 => by rw [hw2]; exact sort_keep h1 h2
    have hH2 : Holds encStr w2 g 0 ((namesOf (preT t)).mergeSort fun x y => decide (x ≤ y)).toArray := by
      rw [hw2]
      exact holds_grow (holds_putRow encStr _ g 0 _ _ (holds_ahead encStr w1 q g 0 _ hH) (by rw [List.size_toArray, List.size_toArray]; exact hsl))
    have b2 : w2.heap[w.heap.size + 1]? = some (.cells #[.slice (some ⟨g, 0, none⟩) (namesOf (preT t)).length c'] 31 (0, 0)) := (hk2 _ (Own.lt.cell_lt' hb) (Ne.symm hgb)).trans hb
    have m2 : w2.cell? ⟨w.heap.size + 1, 0, none⟩ = some (.slice (some ⟨g, 0, none⟩) (namesOf (preT t)).length c') := cell_one0 b2
    have hC := Tryz.slices_Compact_string g 0 c' ((namesOf (preT t)).mergeSort fun x y => decide (x ≤ y)) w2 hH2 (by rw [hsl]; omega) (by rw [hsl]; exact hcap)
    rw [hsl] at hC
    have HC := Lib.hid hC
    have hb2 : RowKit.Below w.heap.size w w2 := hbw.trans (by rw [hw2]; exact sort_below hgw hbw.size)
    have HF := Lib.hid (show _ ∧ _ ∧ _ from ⟨hH2, hb2, hgw⟩)
    clear hw2 hk2 hH hcap hgb hgw hgl hb hbw hln b2 hC hb2 hH2 H1 m0 HK
    go_wp2_with fail
    refine HC.out.mono ?_
    rintro e w3 ⟨rfl, q3, hw3⟩
    have HE := Lib.hid (free_end hsl HF.out.1 HF.out.2.1 HF.out.2.2 hw3)
    clear hw3 HF HC hsl m2
    go_wp2
    go_returns
    exact ⟨_, _, rfl, HE.out⟩
end Go.Proofs.YtponkpiahgoohaaGreatDoor

namespace Go.Proofs.YtponkpiahgoohaaGreatDoor
open Go.RowKit

theorem StrsAt.below {W W' : World} {A : Option Addr} {l : List (List UInt8)} (h : StrsAt W A l) (hb : Below W.heap.size W W') : StrsAt W' A l := fun i s hi => by
  obtain ⟨g, e, hc⟩ := h i s hi
  exact ⟨g, e, (hb.cell (cell_lt hc)).trans hc⟩
end Go.Proofs.YtponkpiahgoohaaGreatDoor

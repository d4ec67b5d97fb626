/- The law TermKeys: keys tell terms apart, and are read back. Premises: terms in memory, of whatever shape; the library's variables as they are laid. -/
import Derived.Test.YthicoobhabighaaGreatDoorTAwakeA
import Derived.Test.YthicoobhabighaaGreatDoorTGreat
import Derived.Test.YthicoobhabighaaGreatDoorTFreeA
import Derived.Test.YthicoobhabighaaGreatDoorBk
set_option linter.unusedVariables false
set_option linter.unusedSimpArgs false
namespace Go.Proofs.YthicoobhabighaaGreatDoor
open Go.RowKit

theorem pre_wt : ∀ (n : Nat) {l : List Tm}, (preL l).length ≤ n → ∀ p ∈ preL l, wtT p ≤ wtL l
  | _, [], _, p, hp => by rw [preL_nil] at hp; cases hp
  | 0, t :: l, h, _, _ => by rw [preL_cons] at h; simp at h
  | n + 1, t :: l, h, p, hp => by
    rw [preL_cons] at h hp
    simp at h
    rw [wtL_cons]
    rcases List.mem_cons.1 hp with rfl | hp
    · omega
    · rcases List.mem_append.1 hp with hp | hp
      · have h1 := pre_wt n (l := t.kids) (by omega) p hp
        have h2 := wtT_eq t
        omega
      · have h1 := pre_wt n (l := l) (by omega) p hp
        omega
theorem preL_oneK (t : Tm) : preL [t] = preT t := by rw [preL_cons, preL_nil, List.append_nil, preT_eq]
/-- What a term's weight bounds. -/
theorem small_parts {t : Tm} (h : wtT t ≤ 3000) : (preT t).length ≤ 3000 ∧ ∀ p ∈ preT t, p.ds.length ≤ 1000000 ∧ p.kids.length ≤ 1000000 := by
  have h1 : (preT t).length ≤ 3000 := by
    have := preL_wt _ (l := [t]) (Nat.le_refl _)
    rw [preL_oneK, wtL_one] at this
    omega
  refine ⟨h1, fun p hp => ?_⟩
  have h2 : wtT p ≤ 3000 := by
    have := pre_wt _ (l := [t]) (Nat.le_refl _) p (by rw [preL_oneK]; exact hp)
    rw [wtL_one] at this
    omega
  have h3 := wtT_eq p
  have h4 := preL_len p.kids
  have h5 := preL_wt _ (l := p.kids) (Nat.le_refl _)
  omega
theorem keyK_small {W : World} {v : Value} {t : Tm} (ht : TmV W v t) (h : wtT t ≤ 3000) : (keyK (preT t)).length ≤ 8000000 := by
  have := keyK_len _ (l := [t]) (Nat.le_refl _) (by rw [preL_oneK]; exact ht.good)
  rw [preL_oneK, wtL_one] at this
  omega
theorem keys_same {W : World} {v1 v2 : Value} {a b : Tm} (ha : TmV W v1 a) (hb : TmV W v2 b) (h : keyK (preT a) = keyK (preT b)) : a = b := by
  have e := keys_cut (preL [a]).length (a := [a]) (b := [b]) (r := []) (r' := []) (Nat.le_refl _) rfl (by rw [preL_oneK]; exact fun p hp => (ha.good p hp).kind.1) (by rw [preL_oneK]; exact fun p hp => (hb.good p hp).kind.1) (by rw [preL_oneK, preL_oneK, h])
  injection e.1
theorem freeK_len {t : Tm} (h : (preT t).length ≤ 3000) : (freeK t).length ≤ 1000000 := by
  have h1 : (namesOf (preT t)).length ≤ (preT t).length := by
    unfold namesOf
    rw [List.length_map]
    exact List.length_filter_le _ _
  have h2 : ∀ l : List (List UInt8), (Lib.compact l).length ≤ l.length := fun l => by
    unfold Lib.compact Lib.compactUpTo
    rw [List.length_map]
    refine Nat.le_trans (List.length_filter_le _ _) ?_
    rw [List.length_range]
    exact Nat.le_refl _
  have h3 := h2 ((namesOf (preT t)).mergeSort fun x y => decide (x ≤ y))
  rw [List.length_mergeSort] at h3
  unfold freeK
  omega
/-- A text's Key, by a name. -/
def KeyTold (t : Tm) (k : ByteArray) : Prop := ∀ (W : World) (u0 u1 u2 u3 u4 : Value), TmV W (.agg #[u0, u1, u2, u3, u4]) t → TabM W.heap.size W → Calls Tryz.prog 8 #[.agg #[u0, u1, u2, u3, u4]] W fun e w' => e = .returned (.string k) ∧ Below W.heap.size W w'
theorem key_told {t : Tm} (h : wtT t ≤ 3000) : KeyTold t ⟨(keyK (preT t)).toArray⟩ := fun W u0 u1 u2 u3 u4 ht htab => key_any ht (by omega) htab
theorem size_one {w : World} {g c n : Nat} {t : Tm} (hn : n = (preL [t]).length) (h : wtT t ≤ 3000) (hK : TmsAt w (some ⟨g, 0, none⟩) [t]) : Calls Tryz.prog 11 #[.slice (some ⟨g, 0, none⟩) 1 c] w fun e w' => e = .returned (.int .i64 (n : Int)) ∧ Below w.heap.size w w' := by
  subst hn
  exact size_any (l := [t]) (by have := (small_parts h).1; rw [preL_oneK]; omega) hK
theorem tab_on {w W : World} (h : LibM w.heap.size w) (hb : Below w.heap.size w W) : TabM W.heap.size W := h.2.on hb hb.size
/-- What is known of the two terms, ahead of the law's last statements. -/
structure KeysIn (w : World) (u0 u1 u2 u3 u4 v0 v1 v2 v3 v4 : Value) (a b : Tm) (ka kb : ByteArray) (r : Bool) (n m : Nat) : Prop where
  lib : LibM w.heap.size w
  ta : TmV w (.agg #[u0, u1, u2, u3, u4]) a
  tb : TmV w (.agg #[v0, v1, v2, v3, v4]) b
  wa : wtT a ≤ 3000
  wb : wtT b ≤ 3000
  same : r = true ↔ a = b
  told : KeyTold a ka ∧ KeyTold b kb
  bytes : ka = ⟨(keyK (preT a)).toArray⟩
  eq : (ka.toList == kb.toList) = r
  calls : ∀ (W : World) (v1 v2 : Value), TmV W v1 a → TmV W v2 b → Calls Tryz.prog 7 #[v1, v2] W (SaysB W r)
  num : n = (preL [a]).length ∧ m = (preL [b]).length
theorem keys_in {w : World} {u0 u1 u2 u3 u4 v0 v1 v2 v3 v4 : Value} {a b : Tm} (hl : LibM w.heap.size w) (ha : TmV w (.agg #[u0, u1, u2, u3, u4]) a) (hb : TmV w (.agg #[v0, v1, v2, v3, v4]) b) (hwa : wtT a ≤ 3000) (hwb : wtT b ≤ 3000) : ∃ ka kb r n m, KeysIn w u0 u1 u2 u3 u4 v0 v1 v2 v3 v4 a b ka kb r n m := by
  obtain ⟨r, hr, hC⟩ := sameTm 3000 a b hwa (by omega)
  refine ⟨_, _, r, _, _, hl, ha, hb, hwa, hwb, hr, ⟨key_told hwa, key_told hwb⟩, rfl, ?_, hC, rfl, rfl⟩
  cases hrr : r with
  | true =>
    rw [hr.1 hrr]
    exact beq_self_eq_true _
  | false =>
    refine bytes_no fun e => ?_
    have h1 : keyK (preT a) = keyK (preT b) := by
      injection e with e
      injection e with e
    have := hr.2 (keys_same ha hb h1)
    rw [hrr] at this; cases this
theorem of_told {w W : World} {u0 u1 u2 u3 u4 v0 v1 v2 v3 v4 : Value} {a b : Tm} {ka kb : ByteArray} {r : Bool} {n m : Nat} (h : KeysIn w u0 u1 u2 u3 u4 v0 v1 v2 v3 v4 a b ka kb r n m) (hb : Below w.heap.size w W) :
    Calls Tryz.prog 9 #[.string ka] W fun e w' => ∃ A K c c', e = .returned (.tuple #[.agg #[.int .u8 a.kind, .string a.name, .bool a.neg, .slice A a.ds.length c, .slice K a.kids.length c'], .bool true]) ∧ TmV w' (.agg #[.int .u8 a.kind, .string a.name, .bool a.neg, .slice A a.ds.length c, .slice K a.kids.length c']) a ∧ Below W.heap.size W w' := by
  rw [h.bytes]
  refine (of_ok (h.lib.on hb hb.size) (fun p hp => ⟨h.ta.good p hp, (small_parts h.wa).2 p hp⟩) (keyK_small h.ta h.wa)).mono ?_
  rintro e w' ⟨x0, x1, x2, x3, x4, rfl, ht, hb'⟩
  obtain ⟨A, K, c, c', e⟩ := ht.five
  simp only [Value.agg.injEq, Array.mk.injEq, List.cons.injEq, and_true] at e
  obtain ⟨rfl, rfl, rfl, rfl, rfl⟩ := e
  exact ⟨A, K, c, c', rfl, ht, hb'⟩
theorem tms_next {w : World} {o : Obj} {a : Tm} {u0 u1 u2 u3 u4 : Value} (ha : TmV w (.agg #[u0, u1, u2, u3, u4]) a) : TmsAt ((w.alloc o).alloc (.cells #[u0, u1, u2, u3, u4] 28)) (some ⟨w.heap.size + 1, 0, none⟩) [a] := by
  have h := tms_one (w := w.alloc o) (ha.alloc o)
  rw [World.size_alloc] at h
  exact h
theorem strs_bel {W W' : World} {A : Option Addr} {l : List (List UInt8)} (h : StrsAt W A l) (hb : Below W.heap.size W W') : StrsAt W' A l := fun i s hi => by
  obtain ⟨g, e, hc⟩ := h i s hi
  exact ⟨g, e, (hb.cell (cell_lt hc)).trans hc⟩
theorem same_back {W : World} {v1 v2 : Value} {a : Tm} (hw : wtT a ≤ 3000) (h1 : TmV W v1 a) (h2 : TmV W v2 a) : Calls Tryz.prog 7 #[v1, v2] W fun e w' => e = .returned (.bool true) ∧ Below W.heap.size W w' := by
  obtain ⟨r, hr, hC⟩ := sameTm 3000 a a hw (by omega)
  have : r = true := hr.2 rfl
  subst this
  exact hC W v1 v2 h1 h2
/-- A term of memory, as a structure. -/
def bTm (a : Tm) : BK := ⟨fun v W => ∃ p0 p1 p2 p3 p4, v = .agg #[p0, p1, p2, p3, p4] ∧ TmV W v a, fun v W W' h hb => by
  obtain ⟨p0, p1, p2, p3, p4, e, ht⟩ := h
  exact ⟨p0, p1, p2, p3, p4, e, ht.bel hb⟩⟩
set_option maxRecDepth 100000 in
set_option maxHeartbeats 6400000 in
theorem termKeys_ok {w : World} {u0 u1 u2 u3 u4 v0 v1 v2 v3 v4 : Value} {a b : Tm} (hl : LibM w.heap.size w) (ha : TmV w (.agg #[u0, u1, u2, u3, u4]) a) (hb : TmV w (.agg #[v0, v1, v2, v3, v4]) b) :
    Calls Tryz.prog 3 #[.agg #[u0, u1, u2, u3, u4], .agg #[v0, v1, v2, v3, v4]] w fun e w' => e = .returned (.bool true) ∧ Below w.heap.size w w' := by
  have HH := Lib.hid (show _ ∧ _ ∧ _ from ⟨hl, ha, hb⟩)
  clear hl ha hb
  obtain ⟨z0, z1, zs, zb⟩ := two_allocK w (.cells #[u0, u1, u2, u3, u4] 28) (.cells #[v0, v1, v2, v3, v4] 28)
  have HA := Lib.hid (awake4_ok (HH.out.1.on zb (by rw [zs]; omega)))
  have HZ := Lib.hid (show _ ∧ _ ∧ _ ∧ _ from ⟨z0, z1, zs, zb⟩)
  clear z0 z1 zs zb
  go_enter Tryz.func3, Tryz.ntmps3
  go_wp2_with fail
  refine HA.out.mono ?_
  rintro e w1 ⟨rfl, hb1⟩
  have q0 : w1.heap[w.heap.size]? = some (.cells #[u0, u1, u2, u3, u4] 28 (0, 0)) := (hb1.block _ (by rw [HZ.out.2.2.1]; omega)).trans HZ.out.1
  have q1 : w1.heap[w.heap.size + 1]? = some (.cells #[v0, v1, v2, v3, v4] 28 (0, 0)) := (hb1.block _ (by rw [HZ.out.2.2.1]; omega)).trans HZ.out.2.1
  have bw1 : Below w.heap.size w w1 := HZ.out.2.2.2.trans (hb1.mono (by rw [HZ.out.2.2.1]; omega))
  have HK := Lib.hid (show ∀ w' : World, Below w1.heap.size w1 w' → w'.cell? ⟨w.heap.size, 0, none⟩ = some u0 ∧ w'.cell? ⟨w.heap.size, 1, none⟩ = some u1 ∧ w'.cell? ⟨w.heap.size, 2, none⟩ = some u2 ∧ w'.cell? ⟨w.heap.size, 3, none⟩ = some u3 ∧ w'.cell? ⟨w.heap.size, 4, none⟩ = some u4 ∧ w'.cell? ⟨w.heap.size + 1, 0, none⟩ = some v0 ∧ w'.cell? ⟨w.heap.size + 1, 1, none⟩ = some v1 ∧ w'.cell? ⟨w.heap.size + 1, 2, none⟩ = some v2 ∧ w'.cell? ⟨w.heap.size + 1, 3, none⟩ = some v3 ∧ w'.cell? ⟨w.heap.size + 1, 4, none⟩ = some v4 from fun w' hb' => by
    have p0 := (hb'.block _ (Own.lt.cell_lt' q0)).trans q0
    have p1 := (hb'.block _ (Own.lt.cell_lt' q1)).trans q1
    exact ⟨cell_blk p0, cell_blk p0, cell_blk p0, cell_blk p0, cell_blk p0, cell_blk p1, cell_blk p1, cell_blk p1, cell_blk p1, cell_blk p1⟩)
  have HB := Lib.hid bw1
  obtain ⟨c0, c1, c2, c3, c4, d0, d1, d2, d3, d4⟩ := HK.out w1 (Below.refl _ _)
  clear hb1 q0 q1 bw1 HA HZ
  go_wp2_with fail
  obtain ⟨g, hg⟩ : ∃ g, g = decide (3000 < wtL [a, b]) := ⟨_, rfl⟩
  have HG := Lib.hid (great_any (Kd := none) (cd := 0) (c := 2) (tms_two (HH.out.2.1.bel HB.out) (HH.out.2.2.bel HB.out)) (by simp))
  rw [← hg] at HG
  refine HG.out.mono ?_
  rintro e w2 ⟨rfl, hb2⟩
  have HB2 := Lib.hid (show Below w1.heap.size w1 w2 from bstep (bal (Below.refl _ _) _) hb2)
  have Hg := Lib.hid hg
  clear hb2 HG hg
  cases g with
  | true =>
    have HE := Lib.hid (HB.out.trans (HB2.out.mono HB.out.size))
    clear HB HB2 HK HH Hg
    go_wp2
    go_returns
    exact ⟨rfl, HE.out⟩
  | false =>
    have hw : wtL [a, b] ≤ 3000 := by
      have := of_decide_eq_false Hg.out.symm
      omega
    rw [wtL_cons, wtL_one] at hw
    obtain ⟨ka, kb, r, n, m, hin⟩ := keys_in HH.out.1 HH.out.2.1 HH.out.2.2 (by omega) (by omega)
    have HI := Lib.hid hin
    have hcase : (r = true ∧ kb = ka) ∨ (r = false ∧ (ka.toList == kb.toList) = false) := by
      cases hr : r with
      | true => exact .inl ⟨rfl, (bytes_is (beq_iff_eq.1 (hr ▸ hin.eq))).symm⟩
      | false => exact .inr ⟨rfl, hr ▸ hin.eq⟩
    clear hin hw Hg HH c0 c1 c2 c3 c4 d0 d1 d2 d3 d4
    obtain ⟨c0, c1, c2, c3, c4, d0, d1, d2, d3, d4⟩ := HK.out w2 HB2.out
    rcases hcase with ⟨rfl, rfl⟩ | ⟨rfl, hR⟩
    all_goals go_wp2_with fail
    all_goals refine (HI.out.calls _ _ _ (HI.out.ta.bel (HB.out.trans (HB2.out.mono HB.out.size))) (HI.out.tb.bel (HB.out.trans (HB2.out.mono HB.out.size)))).mono ?_
    all_goals rintro e w3 ⟨rfl, hb3⟩
    all_goals have HB3 := Lib.hid (show Below w1.heap.size w1 w3 from bstep HB2.out hb3)
    all_goals clear hb3 c0 c1 c2 c3 c4 d0 d1 d2 d3 d4
    all_goals obtain ⟨c0, c1, c2, c3, c4, d0, d1, d2, d3, d4⟩ := HK.out w3 HB3.out
    all_goals go_wp2_with fail
    all_goals go_region_held3 (fun w' => w'.cell? ⟨w.heap.size, 0, none⟩ = some u0 ∧ w'.cell? ⟨w.heap.size, 1, none⟩ = some u1 ∧ w'.cell? ⟨w.heap.size, 2, none⟩ = some u2 ∧ w'.cell? ⟨w.heap.size, 3, none⟩ = some u3 ∧ w'.cell? ⟨w.heap.size, 4, none⟩ = some u4 ∧ w'.cell? ⟨w.heap.size + 1, 0, none⟩ = some v0 ∧ w'.cell? ⟨w.heap.size + 1, 1, none⟩ = some v1 ∧ w'.cell? ⟨w.heap.size + 1, 2, none⟩ = some v2 ∧ w'.cell? ⟨w.heap.size + 1, 3, none⟩ = some v3 ∧ w'.cell? ⟨w.heap.size + 1, 4, none⟩ = some v4)
      (first
        | exact HK.out _ (HB3.out.drew)
        | exact HK.out _ KB.out
        | exact HK.out _ KA.out
        | go_keep)
      (first
        | (go_at_call 8; refine (HI.out.told.2 w4 _ _ _ _ _ (HI.out.tb.bel (HB.out.trans (KA.out.mono HB.out.size))) (tab_on HI.out.lib (HB.out.trans (KA.out.mono HB.out.size)))).mono ?_; rintro e w5 ⟨rfl, hb5⟩; have KB := Lib.hid (show Below w1.heap.size w1 w5 from bstep KA.out hb5); clear hb5)
        | (go_at_call 8; refine (HI.out.told.1 w3.drew _ _ _ _ _ (HI.out.ta.bel (HB.out.trans (HB3.out.drew.mono HB.out.size))) (tab_on HI.out.lib (HB.out.trans (HB3.out.drew.mono HB.out.size)))).mono ?_; rintro e w4 ⟨rfl, hb4⟩; have KA := Lib.hid (show Below w1.heap.size w1 w4 from bstep HB3.out.drew hb4); clear hb4))
    all_goals (rename_i Kx hKx hSx; refine hKx _ _ ?_; clear hKx Kx hSx; clear c0 c1 c2 c3 c4 d0 d1 d2 d3 d4)
    all_goals obtain ⟨c0, c1, c2, c3, c4, d0, d1, d2, d3, d4⟩ := HK.out w5 KB.out
    all_goals go_wp2_with fail
    all_goals refine (HI.out.told.1 w5 _ _ _ _ _ (HI.out.ta.bel (HB.out.trans (KB.out.mono HB.out.size))) (tab_on HI.out.lib (HB.out.trans (KB.out.mono HB.out.size)))).mono ?_
    all_goals rintro e w6 ⟨rfl, hb6⟩
    all_goals have HB6 := Lib.hid (show Below w1.heap.size w1 w6 from bstep KB.out hb6)
    all_goals have HOF := Lib.hid (of_told HI.out (HB.out.trans (HB6.out.mono HB.out.size)))
    all_goals clear hb6 c0 c1 c2 c3 c4 d0 d1 d2 d3 d4
    all_goals go_wp2_with fail
    all_goals refine HOF.out.mono ?_
    all_goals rintro e w7 ⟨A7, K7, c7, d7, rfl, ht7, hb7⟩
    all_goals have H7 := Lib.hid (show _ ∧ _ from ⟨ht7, (show Below w1.heap.size w1 w7 from bstep HB6.out hb7)⟩)
    all_goals clear ht7 hb7 HOF
    all_goals go_wp2_with fail
    all_goals obtain ⟨w8, hw8⟩ : ∃ w8, w8 = w7.alloc (.cells #[.int .u8 a.kind, .string a.name, .bool a.neg, .slice A7 a.ds.length c7, .slice K7 a.kids.length d7] 28) := ⟨_, rfl⟩
    all_goals rw [← hw8]
    all_goals have q7 : w8.heap[w7.heap.size]? = some (.cells #[.int .u8 a.kind, .string a.name, .bool a.neg, .slice A7 a.ds.length c7, .slice K7 a.kids.length d7] 28 (0, 0)) := by rw [hw8]; exact heap_alloc_new _ _
    all_goals have b8 : Below w1.heap.size w1 w8 := by rw [hw8]; exact bal H7.out.2 _
    all_goals have HBW := Lib.hid (HB.out.trans (b8.mono HB.out.size))
    all_goals have HT := Lib.hid (show TmV w8 (.agg #[.int .u8 a.kind, .string a.name, .bool a.neg, .slice A7 a.ds.length c7, .slice K7 a.kids.length d7]) a from by rw [hw8]; exact H7.out.1.alloc _)
    all_goals have HK9 := Lib.hid (show ∀ w' : World, Below w8.heap.size w8 w' → w'.cell? ⟨w.heap.size, 0, none⟩ = some u0 ∧ w'.cell? ⟨w.heap.size, 1, none⟩ = some u1 ∧ w'.cell? ⟨w.heap.size, 2, none⟩ = some u2 ∧ w'.cell? ⟨w.heap.size, 3, none⟩ = some u3 ∧ w'.cell? ⟨w.heap.size, 4, none⟩ = some u4 ∧ w'.cell? ⟨w.heap.size + 1, 0, none⟩ = some v0 ∧ w'.cell? ⟨w.heap.size + 1, 1, none⟩ = some v1 ∧ w'.cell? ⟨w.heap.size + 1, 2, none⟩ = some v2 ∧ w'.cell? ⟨w.heap.size + 1, 3, none⟩ = some v3 ∧ w'.cell? ⟨w.heap.size + 1, 4, none⟩ = some v4 ∧ w'.cell? ⟨w7.heap.size, 0, none⟩ = some (.int .u8 a.kind) ∧ w'.cell? ⟨w7.heap.size, 1, none⟩ = some (.string a.name) ∧ w'.cell? ⟨w7.heap.size, 2, none⟩ = some (.bool a.neg) ∧ w'.cell? ⟨w7.heap.size, 3, none⟩ = some (.slice A7 a.ds.length c7) ∧ w'.cell? ⟨w7.heap.size, 4, none⟩ = some (.slice K7 a.kids.length d7) from fun w' hb' => by
      obtain ⟨e0, e1, e2, e3, e4, f0, f1, f2, f3, f4⟩ := HK.out w' (bstep b8 hb')
      have p7 := (hb'.block _ (Own.lt.cell_lt' q7)).trans q7
      exact ⟨e0, e1, e2, e3, e4, f0, f1, f2, f3, f4, cell_blk p7, cell_blk p7, cell_blk p7, cell_blk p7, cell_blk p7⟩)
    all_goals have HCP := Lib.hid (copyTerm_ok _ (Nat.le_refl _) (small_parts HI.out.wa).2 : Copies a)
    all_goals clear q7 b8 hw8 HB6 KB KA HB3 HB2 HK H7 HB
    · have hab : a = b := HI.out.same.1 rfl
      subst hab
      have hnm : m = n := HI.out.num.2.trans HI.out.num.1.symm
      subst hnm
      have hfl := Lib.hid (freeK_len (small_parts HI.out.wa).1)
      go_region_held3 (fun w' => w'.cell? ⟨w.heap.size, 0, none⟩ = some u0 ∧ w'.cell? ⟨w.heap.size, 1, none⟩ = some u1 ∧ w'.cell? ⟨w.heap.size, 2, none⟩ = some u2 ∧ w'.cell? ⟨w.heap.size, 3, none⟩ = some u3 ∧ w'.cell? ⟨w.heap.size, 4, none⟩ = some u4 ∧ w'.cell? ⟨w.heap.size + 1, 0, none⟩ = some v0 ∧ w'.cell? ⟨w.heap.size + 1, 1, none⟩ = some v1 ∧ w'.cell? ⟨w.heap.size + 1, 2, none⟩ = some v2 ∧ w'.cell? ⟨w.heap.size + 1, 3, none⟩ = some v3 ∧ w'.cell? ⟨w.heap.size + 1, 4, none⟩ = some v4 ∧ w'.cell? ⟨w7.heap.size, 0, none⟩ = some (.int .u8 a.kind) ∧ w'.cell? ⟨w7.heap.size, 1, none⟩ = some (.string a.name) ∧ w'.cell? ⟨w7.heap.size, 2, none⟩ = some (.bool a.neg) ∧ w'.cell? ⟨w7.heap.size, 3, none⟩ = some (.slice A7 a.ds.length c7) ∧ w'.cell? ⟨w7.heap.size, 4, none⟩ = some (.slice K7 a.kids.length d7))
        (first
        | exact HK9.out _ ST.out
        | exact HK9.out _ F2.out.2.2
        | exact HK9.out _ F1.out.2
        | exact HK9.out _ Z2.out
        | exact HK9.out _ (bal Z1A.out _)
        | exact HK9.out _ Z1A.out
        | exact HK9.out _ Z1B.out.2
        | exact HK9.out _ Z1C.out.2
        | exact HK9.out _ (bal (bal K2.out _) _)
        | exact HK9.out _ (bal K2.out _)
        | exact HK9.out _ K2.out
        | exact HK9.out _ CP.out.2
        | exact HK9.out _ K1.out
        | exact HK9.out _ SM.out
        | exact HK9.out _ ((Below.refl _ _).drew)
        | go_keep)
        (first
        | (go_at_call 12; refine (sameTexts_ok F2.out.1 F2.out.2.1 hfl.out).mono ?_; rintro e x9 ⟨rfl, hb9⟩; have ST := Lib.hid (show Below w8.heap.size w8 x9 from bstep F2.out.2.2 hb9.below); clear hb9)
        | (go_at_call 13; refine (free_any (w := x7) (HI.out.tb.bel (HBW.out.trans (F1.out.2.mono HBW.out.size))) (by have := HI.out.wa; omega)).mono ?_; rintro e x8 ⟨B8, g8, rfl, hs8, hb8⟩; have F2 := Lib.hid (show StrsAt x8 _ (freeK a) ∧ StrsAt x8 _ (freeK a) ∧ Below w8.heap.size w8 x8 from ⟨strs_bel F1.out.1 hb8, hs8, bstep F1.out.2 hb8⟩); clear hs8 hb8)
        | (go_at_call 13; refine (free_any (w := x6) (HI.out.ta.bel (HBW.out.trans (Z2.out.mono HBW.out.size))) (by have := HI.out.wa; omega)).mono ?_; rintro e x7 ⟨B7, g7, rfl, hs7, hb7⟩; have F1 := Lib.hid (show StrsAt x7 _ (freeK a) ∧ Below w8.heap.size w8 x7 from ⟨hs7, bstep Z2.out hb7⟩); clear hs7 hb7)
        | (go_at_call 11; have hz := size_one (c := 1) (w := x5) HI.out.num.2 HI.out.wb Z1B.out.1; with_reducible refine hz.mono ?_; clear hz; rintro e x6 ⟨rfl, hb6⟩; have Z2 := Lib.hid (show Below w8.heap.size w8 x6 from bstep Z1B.out.2 hb6); clear hb6)
        | (go_at_call 11; have hz := size_one (c := 1) (w := x5) HI.out.num.2 HI.out.wb Z1C.out.1; with_reducible refine hz.mono ?_; clear hz; rintro e x6 ⟨rfl, hb6⟩; have Z2 := Lib.hid (show Below w8.heap.size w8 x6 from bstep Z1C.out.2 hb6); clear hb6)
        | (go_at_call 11; have hz := size_one (c := 1) HI.out.num.2 HI.out.wb (tms_one (w := x5) (HI.out.tb.bel (HBW.out.trans (Z1A.out.mono HBW.out.size)))); with_reducible refine hz.mono ?_; clear hz; rintro e x6 ⟨rfl, hb6⟩; have Z2 := Lib.hid (show Below w8.heap.size w8 x6 from bstep (bal Z1A.out _) hb6); clear hb6)
        | (go_at_call 11; have hz := size_one (c := 1) HI.out.num.1 HI.out.wa (tms_one (w := x4) (HI.out.ta.bel (HBW.out.trans (K2.out.mono HBW.out.size)))); with_reducible refine hz.mono ?_; clear hz; rintro e x5 ⟨rfl, hb5⟩; have Z1A := Lib.hid (show Below w8.heap.size w8 x5 from bstep (bal K2.out _) hb5); clear hb5)
        | (go_at_call 11; have hz := size_one (c := 1) HI.out.num.1 HI.out.wa ((tms_one (w := x4) (HI.out.ta.bel (HBW.out.trans (K2.out.mono HBW.out.size)))).below (bal (Below.refl _ _) (.cells #[v0, v1, v2, v3, v4] 28))); with_reducible refine hz.mono ?_; clear hz; rintro e x5 ⟨rfl, hb5⟩; have Z1B := Lib.hid (show TmsAt x5 (some ⟨x4.heap.size + 1, 0, none⟩) [a] ∧ Below w8.heap.size w8 x5 from ⟨(tms_next (o := (.cells #[u0, u1, u2, u3, u4] 28)) (HI.out.tb.bel (HBW.out.trans (K2.out.mono HBW.out.size)))).below hb5, bstep (bal (bal K2.out _) _) hb5⟩); clear hb5)
        | (go_at_call 11; have hz := size_one (c := 1) HI.out.num.1 HI.out.wa (tms_next (w := x4) (o := (.cells #[v0, v1, v2, v3, v4] 28)) (HI.out.ta.bel (HBW.out.trans (K2.out.mono HBW.out.size)))); with_reducible refine hz.mono ?_; clear hz; rintro e x5 ⟨rfl, hb5⟩; have Z1C := Lib.hid (show TmsAt x5 (some ⟨x4.heap.size, 0, none⟩) [a] ∧ Below w8.heap.size w8 x5 from ⟨((tms_one (w := x4) (HI.out.tb.bel (HBW.out.trans (K2.out.mono HBW.out.size)))).below (bal (Below.refl _ _) (.cells #[u0, u1, u2, u3, u4] 28))).below hb5, bstep (bal (bal K2.out _) _) hb5⟩); clear hb5)
        | (go_at_call 8; refine (HI.out.told.1 x3 _ _ _ _ _ CP.out.1 (tab_on HI.out.lib (HBW.out.trans (CP.out.2.mono HBW.out.size)))).mono ?_; rintro e x4 ⟨rfl, hb4⟩; have K2 := Lib.hid (show Below w8.heap.size w8 x4 from bstep CP.out.2 hb4); clear hb4)
        | (go_at_call 10; refine (HCP.out x2 _ _ _ _ _ (HI.out.ta.bel (HBW.out.trans (K1.out.mono HBW.out.size)))).mono ?_; rintro e x3 ⟨p0, p1, p2, p3, p4, rfl, hd3, hb3⟩; have CP := Lib.hid (show TmV x3 _ a ∧ Below w8.heap.size w8 x3 from ⟨hd3.tm, bstep K1.out hb3⟩); clear hd3 hb3)
        | (go_at_call 8; refine (HI.out.told.1 x1 _ _ _ _ _ (HI.out.ta.bel (HBW.out.trans (SM.out.mono HBW.out.size))) (tab_on HI.out.lib (HBW.out.trans (SM.out.mono HBW.out.size)))).mono ?_; rintro e x2 ⟨rfl, hb2⟩; have K1 := Lib.hid (show Below w8.heap.size w8 x2 from bstep SM.out hb2); clear hb2)
        | (go_at_call 7; refine (same_back HI.out.wa (HT.out.bel ((Below.refl _ _).drew)) (HI.out.ta.bel (HBW.out.drew))).mono ?_; rintro e x1 ⟨rfl, hb1⟩; have SM := Lib.hid (show Below w8.heap.size w8 x1 from ((Below.refl _ _).drew).trans hb1); clear hb1))
      all_goals (have HE := Lib.hid (HBW.out.trans (ST.out.mono HBW.out.size)); clear HI HBW HT HK9 HCP K2 CP K1 SM Z2 F1 F2 ST hfl)
      all_goals go_wp2
      all_goals go_returns
      all_goals exact ⟨rfl, HE.out⟩
    · rename_i Kx hKx
      obtain ⟨i0, i1, i2, i3, i4, -, -, -, -, -, i5, i6, i7, i8, i9⟩ := HK9.out w8 (Below.refl _ _)
      have back8 : w8.cell? ⟨w7.heap.size, 0, none⟩ = some (.int .u8 a.kind) ∧ w8.cell? ⟨w7.heap.size, 1, none⟩ = some (.string a.name) ∧ w8.cell? ⟨w7.heap.size, 2, none⟩ = some (.bool a.neg) ∧ w8.cell? ⟨w7.heap.size, 3, none⟩ = some (.slice A7 a.ds.length c7) ∧ w8.cell? ⟨w7.heap.size, 4, none⟩ = some (.slice K7 a.kids.length d7) := ⟨i5, i6, i7, i8, i9⟩
      have aa8 : w8.cell? ⟨w.heap.size, 0, none⟩ = some u0 ∧ w8.cell? ⟨w.heap.size, 1, none⟩ = some u1 ∧ w8.cell? ⟨w.heap.size, 2, none⟩ = some u2 ∧ w8.cell? ⟨w.heap.size, 3, none⟩ = some u3 ∧ w8.cell? ⟨w.heap.size, 4, none⟩ = some u4 := ⟨i0, i1, i2, i3, i4⟩
      clear i0 i1 i2 i3 i4 i5 i6 i7 i8 i9 HK9
      refine name_frame (G := fun a => Code.wp _ _ _ a _) ?_
      intro a0 hA0
      have hN : a0.tmps.size = 64 := by rw [hA0]; rfl
      have hD : a0.defers = [] := by rw [hA0]
      have e7 : a0.eval (.tmp 7) = .bool true := by rw [hA0]; rfl
      have e5 : a0.eval (.tmp 5) = .bool false := by rw [hA0]; rfl
      have e6 : a0.eval (.tmp 6) = .pointer (some ⟨w7.heap.size, 0, none⟩) := by rw [hA0]; rfl
      have e2 : a0.eval (.tmp 2) = .pointer (some ⟨w.heap.size, 0, none⟩) := by rw [hA0]; rfl
      clear hA0
      refine wp_region_bk hN [bIs (.bool true), bIs (.bool true), bIs (.agg #[.int .u8 a.kind, .string a.name, .bool a.neg, .slice A7 a.ds.length c7, .slice K7 a.kids.length d7]), bIs (.agg #[u0, u1, u2, u3, u4]), bIs (.bool true), bIs (.bool true), bIs (.bool true), bIs (.agg #[u0, u1, u2, u3, u4]), bIs (.string ka), bIs (.agg #[u0, u1, u2, u3, u4]), bTm a, bIs (.string ka), bIs (.bool true), bIs (.bool true), bIs (.bool true), bIs (.bool false), bIs (.bool true), bIs (.bool true), bIs undef, bIs undef, bIs undef, bIs undef, bIs undef, bIs undef, bIs undef, bIs undef, bIs undef, bIs undef, bIs undef, bIs undef, bIs undef, bIs undef, bIs (.bool true), bIs (.bool true), bIs (.bool true)] [ [], [(0, some 30)], [], [], [(2, some 32), (3, some 33)], [(1, some 31), (4, some 34)], [(5, some 35)], [], [(7, some 37)], [], [(9, some 39)], [(10, some 40)], [(8, some 38), (11, some 41)], [(6, some 36), (12, some 42)], [(13, some 43)], [], [(15, some 45)], [(16, some 46)], [], [(18, some 48)], [(19, some 49)], [], [(21, some 51)], [(22, some 52)], [(20, some 50), (23, some 53)], [(24, some 54)], [], [(26, some 56)], [], [(28, some 58)], [(27, some 57), (29, some 59)], [(25, some 55), (30, some 60)], [(17, some 47), (31, some 61)], [(14, some 44), (32, some 62)], [(33, some 63)] ] [(0, some 30), (1, some 31), (2, some 32), (3, some 33), (4, some 34), (5, some 35), (6, some 36), (7, some 37), (8, some 38), (9, some 39), (10, some 40), (11, some 41), (12, some 42), (13, some 43), (14, some 44), (15, some 45), (16, some 46), (17, some 47), (18, some 48), (19, some 49), (20, some 50), (21, some 51), (22, some 52), (23, some 53), (24, some 54), (25, some 55), (26, some 56), (27, some 57), (28, some 58), (29, some 59), (30, some 60), (31, some 61), (32, some 62), (33, some 63), (34, some 4)] [(1, true), (6, true), (14, true), (17, true)] [18, 19, 20, 21, 22, 23, 24, 25, 26, 27, 28, 29, 30, 31] rfl (by kernel_rfl) (by kernel_rfl) rfl rfl ?_ ?_
      rotate_left
      · intro W x hb hall
        refine then_n ?_
        refine hKx _ _ ?_
        clear hKx
        obtain ⟨b0, hb0⟩ : ∃ b, b = putE x a0 [(0, some 30), (1, some 31), (2, some 32), (3, some 33), (4, some 34), (5, some 35), (6, some 36), (7, some 37), (8, some 38), (9, some 39), (10, some 40), (11, some 41), (12, some 42), (13, some 43), (14, some 44), (15, some 45), (16, some 46), (17, some 47), (18, some 48), (19, some 49), (20, some 50), (21, some 51), (22, some 52), (23, some 53), (24, some 54), (25, some 55), (26, some 56), (27, some 57), (28, some 58), (29, some 59), (30, some 60), (31, some 61), (32, some 62), (33, some 63), (34, some 4)] := ⟨_, rfl⟩
        rw [← hb0]
        have hD0 := defers_behind hb0 hD
        have f4 := (slot_new (t := 4) (i := 34) hb0 hN (by kernel_rfl) (by kernel_rfl)).trans (show x 34 = .bool true from hall 34 (of_decide_eq_true (by kernel_rfl)))
        refine wp_ret ?_
        repeat (refine then_r ?_)
        exact ret_one (t := 4) rfl hD0 f4 ⟨rfl, HBW.out.trans (hb.mono HBW.out.size)⟩
      refine b_cons rfl rfl ?_ ?_
      · exact b_pure [] [(7, .bool true)] (.bool true) (.bool true) (rfl) rfl hN (by kernel_rfl) (by kernel_rfl) rfl (old1 e7) (by kernel_rfl) (by kernel_rfl) rfl (fun _ => by kernel_rfl)
      refine b_cons rfl rfl ?_ ?_
      · exact b_pure [.bool true] [] (.bool true) (.bool true) (rfl) rfl hN (by kernel_rfl) (by kernel_rfl) rfl old0 (by kernel_rfl) (by kernel_rfl) rfl (fun _ => by kernel_rfl)
      refine b_cons rfl rfl ?_ ?_
      · exact b_load (back8) e6 hN (by kernel_rfl) rfl
      refine b_cons rfl rfl ?_ ?_
      · exact b_load (aa8) e2 hN (by kernel_rfl) rfl
      refine b_cons rfl rfl ?_ ?_
      · refine b_call (ss := [.dep 2, .dep 3]) hN (by kernel_rfl) (by kernel_rfl) (by kernel_rfl) (by kernel_rfl) fun W x hb hd => ?_
        have hB := HBW.out.trans (hb.mono HBW.out.size)
        have g0 := hd (2, some 32) (by simp)
        have g1 := hd (3, some 33) (by simp)
        replace g0 : x 2 = .agg #[.int .u8 a.kind, .string a.name, .bool a.neg, .slice A7 a.ds.length c7, .slice K7 a.kids.length d7] := g0
        replace g1 : x 3 = .agg #[u0, u1, u2, u3, u4] := g1
        show Calls _ _ #[x 2, x 3] _ _
        rw [g0, g1]
        refine (same_back HI.out.wa (HT.out.bel hb) (HI.out.ta.bel hB)).mono ?_
        rintro e W' ⟨rfl, h1⟩
        exact ⟨_, rfl, h1, rfl⟩
      refine b_cons rfl rfl ?_ ?_
      · exact b_pure [.bool true, .bool true] [] (.bool true) (.bool true) (rfl) rfl hN (by kernel_rfl) (by kernel_rfl) rfl old0 (by kernel_rfl) (by kernel_rfl) rfl (fun _ => by kernel_rfl)
      refine b_cons rfl rfl ?_ ?_
      · exact b_pure [.bool true] [] (.bool true) (.bool true) (rfl) rfl hN (by kernel_rfl) (by kernel_rfl) rfl old0 (by kernel_rfl) (by kernel_rfl) rfl (fun _ => by kernel_rfl)
      refine b_cons rfl rfl ?_ ?_
      · exact b_load (aa8) e2 hN (by kernel_rfl) rfl
      refine b_cons rfl rfl ?_ ?_
      · refine b_call (ss := [.dep 7]) hN (by kernel_rfl) (by kernel_rfl) (by kernel_rfl) (by kernel_rfl) fun W x hb hd => ?_
        have hB := HBW.out.trans (hb.mono HBW.out.size)
        have g0 := hd (7, some 37) (by simp)
        replace g0 : x 7 = .agg #[u0, u1, u2, u3, u4] := g0
        show Calls _ _ #[x 7] _ _
        rw [g0]
        refine (HI.out.told.1 W _ _ _ _ _ (HI.out.ta.bel hB) (tab_on HI.out.lib hB)).mono ?_
        rintro e W' ⟨rfl, h1⟩
        exact ⟨_, rfl, h1, rfl⟩
      refine b_cons rfl rfl ?_ ?_
      · exact b_load (aa8) e2 hN (by kernel_rfl) rfl
      refine b_cons rfl rfl ?_ ?_
      · refine b_call (ss := [.dep 9]) hN (by kernel_rfl) (by kernel_rfl) (by kernel_rfl) (by kernel_rfl) fun W x hb hd => ?_
        have hB := HBW.out.trans (hb.mono HBW.out.size)
        have g0 := hd (9, some 39) (by simp)
        replace g0 : x 9 = .agg #[u0, u1, u2, u3, u4] := g0
        show Calls _ _ #[x 9] _ _
        rw [g0]
        refine (HCP.out W _ _ _ _ _ (HI.out.ta.bel hB)).mono ?_
        rintro e W' ⟨p0, p1, p2, p3, p4, rfl, h0, h1⟩
        exact ⟨_, rfl, h1, p0, p1, p2, p3, p4, rfl, h0.tm⟩
      refine b_cons rfl rfl ?_ ?_
      · refine b_call (ss := [.dep 10]) hN (by kernel_rfl) (by kernel_rfl) (by kernel_rfl) (by kernel_rfl) fun W x hb hd => ?_
        have hB := HBW.out.trans (hb.mono HBW.out.size)
        have g0 := hd (10, some 40) (by simp)
        obtain ⟨p0, p1, p2, p3, p4, g0, ht⟩ := g0
        replace g0 : x 10 = _ := g0
        replace ht : TmV W _ a := ht
        show Calls _ _ #[x 10] _ _
        rw [g0] at ht ⊢
        refine (HI.out.told.1 W _ _ _ _ _ ht (tab_on HI.out.lib hB)).mono ?_
        rintro e W' ⟨rfl, h1⟩
        exact ⟨_, rfl, h1, rfl⟩
      refine b_cons rfl rfl ?_ ?_
      · exact b_pure [.string ka, .string ka] [] (.bool (ka.toList == ka.toList)) (.bool true) (congrArg Value.bool (beq_self_eq_true _)) rfl hN (by kernel_rfl) (by kernel_rfl) rfl old0 (by kernel_rfl) (by kernel_rfl) rfl (fun _ => by kernel_rfl)
      refine b_cons rfl rfl ?_ ?_
      · exact b_pure [.bool true, .bool true] [] (.bool true) (.bool true) (rfl) rfl hN (by kernel_rfl) (by kernel_rfl) rfl old0 (by kernel_rfl) (by kernel_rfl) rfl (fun _ => by kernel_rfl)
      refine b_cons rfl rfl ?_ ?_
      · exact b_pure [.bool true] [] (.bool true) (.bool true) (rfl) rfl hN (by kernel_rfl) (by kernel_rfl) rfl old0 (by kernel_rfl) (by kernel_rfl) rfl (fun _ => by kernel_rfl)
      refine b_cons rfl rfl ?_ ?_
      · exact b_pure [] [(5, .bool false)] (.bool false) (.bool false) (rfl) rfl hN (by kernel_rfl) (by kernel_rfl) rfl (old1 e5) (by kernel_rfl) (by kernel_rfl) rfl (fun _ => by kernel_rfl)
      refine b_cons rfl rfl ?_ ?_
      · exact b_pure [.bool false] [] (.bool true) (.bool true) (rfl) rfl hN (by kernel_rfl) (by kernel_rfl) rfl old0 (by kernel_rfl) (by kernel_rfl) rfl (fun _ => by kernel_rfl)
      refine b_cons rfl rfl ?_ ?_
      · exact b_pure [.bool true] [] (.bool true) (.bool true) (rfl) rfl hN (by kernel_rfl) (by kernel_rfl) rfl old0 (by kernel_rfl) (by kernel_rfl) rfl (fun _ => by kernel_rfl)
      refine b_skip (by kernel_rfl) ?_
      refine b_skip (by kernel_rfl) ?_
      refine b_skip (by kernel_rfl) ?_
      refine b_skip (by kernel_rfl) ?_
      refine b_skip (by kernel_rfl) ?_
      refine b_skip (by kernel_rfl) ?_
      refine b_skip (by kernel_rfl) ?_
      refine b_skip (by kernel_rfl) ?_
      refine b_skip (by kernel_rfl) ?_
      refine b_skip (by kernel_rfl) ?_
      refine b_skip (by kernel_rfl) ?_
      refine b_skip (by kernel_rfl) ?_
      refine b_skip (by kernel_rfl) ?_
      refine b_skip (by kernel_rfl) ?_
      refine b_cons rfl rfl ?_ ?_
      · exact b_pure [.bool true, undef] [] (.bool true) (.bool true) (rfl) rfl hN (by kernel_rfl) (by kernel_rfl) rfl old0 (by kernel_rfl) (by kernel_rfl) rfl (fun _ => by kernel_rfl)
      refine b_cons rfl rfl ?_ ?_
      · exact b_pure [.bool true, .bool true] [] (.bool true) (.bool true) (rfl) rfl hN (by kernel_rfl) (by kernel_rfl) rfl old0 (by kernel_rfl) (by kernel_rfl) rfl (fun _ => by kernel_rfl)
      refine b_cons rfl rfl ?_ ?_
      · exact b_pure [.bool true] [] (.bool true) (.bool true) (rfl) rfl hN (by kernel_rfl) (by kernel_rfl) rfl old0 (by kernel_rfl) (by kernel_rfl) rfl (fun _ => by kernel_rfl)
      exact b_nil rfl
end Go.Proofs.YthicoobhabighaaGreatDoor

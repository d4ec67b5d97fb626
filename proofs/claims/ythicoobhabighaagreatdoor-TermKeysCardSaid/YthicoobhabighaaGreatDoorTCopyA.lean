/- whetstonekit's copies of digits and numbers in new memory; terms that hang on some blocks alone. whetstonekit's CopyTerms and CopyTerm: a term once more, in new memory. whetstonekit's CopyTerm: a term once more, in new memory. -/
import Derived.Test.YthicoobhabighaaGreatDoorTOfA
set_option linter.unusedVariables false
set_option linter.unusedSimpArgs false
namespace Go.Proofs.YthicoobhabighaaGreatDoor
open Go.RowKit

/-- v stands for t, and hangs on blocks of D alone. -/
def DepTm (D : Nat → Prop) (W : World) (v : Value) (t : Tm) : Prop := ∀ W' : World, (∀ a u, W.cell? a = some u → D a.block → W'.cell? a = some u) → TmV W' v t
def DepTms (D : Nat → Prop) (W : World) (K : Option Addr) (l : List Tm) : Prop := ∀ W' : World, (∀ a u, W.cell? a = some u → D a.block → W'.cell? a = some u) → TmsAt W' K l
theorem DepTm.to {D D' : Nat → Prop} {W W' : World} {v : Value} {t : Tm} (h : DepTm D W v t) (hk : ∀ a u, W.cell? a = some u → D a.block → W'.cell? a = some u ∧ D' a.block) : DepTm D' W' v t := fun W2 h2 => h W2 fun a u hu hd => h2 a u (hk a u hu hd).1 (hk a u hu hd).2
theorem DepTms.to {D D' : Nat → Prop} {W W' : World} {K : Option Addr} {l : List Tm} (h : DepTms D W K l) (hk : ∀ a u, W.cell? a = some u → D a.block → W'.cell? a = some u ∧ D' a.block) : DepTms D' W' K l := fun W2 h2 => h W2 fun a u hu hd => h2 a u (hk a u hu hd).1 (hk a u hu hd).2
theorem DepTm.tm {D : Nat → Prop} {W : World} {v : Value} {t : Tm} (h : DepTm D W v t) : TmV W v t := h W fun _ _ h _ => h
theorem u32s_one {ds : List Nat} : ∀ u ∈ u32s ds, u.oneCell' = true := fun u hu => by
  unfold u32s at hu
  obtain ⟨d, _, rfl⟩ := List.mem_map.1 hu
  rfl
set_option maxRecDepth 100000 in
set_option maxHeartbeats 3200000 in
theorem copyLimbs_ok {w : World} {A : Option Addr} {c : Nat} {ds : List Nat} (hr : Row w A (u32s ds)) (hl : ds.length ≤ 1000000) :
    Calls Tryz.prog 59 #[.slice A ds.length c] w fun e w' => ∃ v', e = .returned v' ∧ U32s w' w.heap.size v' ds ∧ Below w.heap.size w w' := by
  obtain ⟨i0, hi, hz0, hz1, hz2⟩ := info_parts info_u32
  have HR := Lib.hid hr
  clear hr
  go_enter Tryz.func59, Tryz.ntmps59
  go_wp2_with (at_builtin; refine wpList_append_row rfl _ _ 23 rfl w.heap.size 51 i0 _ 4 Tryz.underlying23 hi hz0 hz1 hz2 rfl (.slice none 0 0) 0 [] rfl (World.ownsRow_nil _ _ _ _) A ds.length c (u32s ds) rfl (by simp [u32s]) HR.out u32s_one ?b1 ?b2 (Nat.le_refl _) ?_)
  case b1 => unfold maxLen; omega
  case b2 => omega
  intro v' w' ho hg
  have HE := Lib.hid (show U32s w' w.heap.size v' ds ∧ Below w.heap.size w w' from ⟨by
    unfold U32s
    exact ho, ⟨hg.os, hg.tape, hg.output, hg.size, fun k hk => hg.block k hk (fun e => by cases e)⟩⟩)
  clear ho hg
  go_wp2
  go_returns
  exact ⟨_, rfl, HE.out⟩
set_option maxRecDepth 100000 in
set_option maxHeartbeats 3200000 in
theorem copyInt_ok {w : World} {b : Bool} {A : Option Addr} {c : Nat} {ds : List Nat} (hr : Row w A (u32s ds)) (hl : ds.length ≤ 1000000) :
    Calls Tryz.prog 33 #[.agg #[.bool b, .slice A ds.length c]] w fun e w' => ∃ A' c', e = .returned (.agg #[.bool b, .slice A' ds.length c']) ∧ U32s w' (w.heap.size + 2) (.slice A' ds.length c') ds ∧ Below w.heap.size w w' := by
  have HR := Lib.hid hr
  obtain ⟨a0, a1, asz, ab⟩ := two_alloc w (.cells #[.bool b, .slice A ds.length c] 25) (.cells #[.bool false, .slice none 0 0] 25)
  have HC := Lib.hid (copyLimbs_ok (w := (w.alloc (.cells #[.bool b, .slice A ds.length c] 25)).alloc (.cells #[.bool false, .slice none 0 0] 25)) (c := c) (hr.below ab) hl)
  have HA := Lib.hid (show _ ∧ _ ∧ _ ∧ _ from ⟨a0, a1, asz, ab⟩)
  clear hr a0 a1 asz ab
  go_enter Tryz.func33, Tryz.ntmps33
  go_wp2_with fail
  refine HC.out.mono ?_
  rintro e w1 ⟨v', rfl, ho, hb⟩
  obtain ⟨A', c', rfl⟩ := ho.slice
  obtain ⟨a0, a1, asz, ab⟩ := HA.out
  rw [asz] at ho hb
  have b0 : w1.heap[w.heap.size]? = some (.cells #[.bool b, .slice A ds.length c] 25 (0, 0)) := (hb.block _ (by omega)).trans a0
  have b1 : w1.heap[w.heap.size + 1]? = some (.cells #[.bool false, .slice none 0 0] 25 (0, 0)) := (hb.block _ (by omega)).trans a1
  have m0 : w1.cell? ⟨w.heap.size, 0, none⟩ = some (.bool b) := cell_of_row w1 _ 0 _ _ _ b0
  have m1 : w1.cell? ⟨w.heap.size, 1, none⟩ = some (.slice A ds.length c) := cell_of_row w1 _ 1 _ _ _ b0
  have f1 : w1.frozen? ⟨w.heap.size, 1, none⟩ = false := by simp [World.frozen?, b0]
  have n0 : w1.cell? ⟨w.heap.size + 1, 0, none⟩ = some (.bool false) := cell_of_row w1 _ 0 _ _ _ b1
  have n1 : w1.cell? ⟨w.heap.size + 1, 1, none⟩ = some (.slice none 0 0) := cell_of_row w1 _ 1 _ _ _ b1
  have g0 : w1.frozen? ⟨w.heap.size + 1, 0, none⟩ = false := by simp [World.frozen?, b1]
  have g1 : w1.frozen? ⟨w.heap.size + 1, 1, none⟩ = false := by simp [World.frozen?, b1]
  have HF := Lib.hid (show ∀ wf, wf = ((w1.setCell ⟨w.heap.size, 1, none⟩ (.slice A' ds.length c')).setCell ⟨w.heap.size + 1, 0, none⟩ (.bool b)).setCell ⟨w.heap.size + 1, 1, none⟩ (.slice A' ds.length c') → wf.heap[w.heap.size + 1]? = some (.cells #[.bool b, .slice A' ds.length c'] 25 (0, 0)) ∧ U32s wf (w.heap.size + 2) (.slice A' ds.length c') ds ∧ Below w.heap.size w wf from by
    intro wf hwf
    subst hwf
    have hk : ∀ k, k ≠ w.heap.size → k ≠ w.heap.size + 1 → (((w1.setCell ⟨w.heap.size, 1, none⟩ (.slice A' ds.length c')).setCell ⟨w.heap.size + 1, 0, none⟩ (.bool b)).setCell ⟨w.heap.size + 1, 1, none⟩ (.slice A' ds.length c')).heap[k]? = w1.heap[k]? := fun k h1 h2 => (Below.heap_setCell _ _ _ _ h2).trans ((Below.heap_setCell _ _ _ _ h2).trans (Below.heap_setCell _ _ _ _ h1))
    refine ⟨two_set ((Below.heap_setCell _ _ _ _ (by show w.heap.size + 1 ≠ w.heap.size; omega)).trans b1), ho.kept fun k hk2 _ => hk k ?_ ?_, (ab.trans (hb.mono (by omega))).trans ⟨rfl, rfl, rfl, by simp, fun k hk2 => hk k (by omega) (by omega)⟩⟩
    · have := (World.ownsRow.lt ho k hk2).1; omega
    · have := (World.ownsRow.lt ho k hk2).1; omega)
  clear ho hb b0 b1 a0 a1 asz ab HC HA
  go_wp2
  obtain ⟨wf, hwf⟩ : ∃ wf, wf = ((w1.setCell ⟨w.heap.size, 1, none⟩ (.slice A' ds.length c')).setCell ⟨w.heap.size + 1, 0, none⟩ (.bool b)).setCell ⟨w.heap.size + 1, 1, none⟩ (.slice A' ds.length c') := ⟨_, rfl⟩
  rw [← hwf]
  obtain ⟨q0, q1, q2⟩ := HF.out wf hwf
  have t0 : wf.cell? ⟨w.heap.size + 1, 0, none⟩ = some (.bool b) := cell_of_row wf _ 0 _ _ _ q0
  have t1 : wf.cell? ⟨w.heap.size + 1, 1, none⟩ = some (.slice A' ds.length c') := cell_of_row wf _ 1 _ _ _ q0
  exact bodyPost_ret (v := .agg #[.bool b, .slice A' ds.length c']) (by simp [results, Tryz.results33, go_sem, t0, t1]) rfl ⟨_, _, rfl, q1, q2⟩
/-- What CopyTerm tells of t. -/
def Copies (t : Tm) : Prop := ∀ (w : World) (u0 u1 u2 u3 u4 : Value), TmV w (.agg #[u0, u1, u2, u3, u4]) t → Calls Tryz.prog 10 #[.agg #[u0, u1, u2, u3, u4]] w fun e w' => ∃ v0 v1 v2 v3 v4, e = .returned (.agg #[v0, v1, v2, v3, v4]) ∧ DepTm (fun k => w.heap.size ≤ k) w' (.agg #[v0, v1, v2, v3, v4]) t ∧ Below w.heap.size w w'
/-- A row of terms of the call's own, in blocks from B on: each hangs on blocks from B on, and not on the row's own. -/
structure CT (B : Nat) (l : List Tm) (wr : World) (ov : Value) (k : Nat) (E : List Value) : Prop where
  row : wr.ownsRow B 28 5 ov k E
  dep : ∀ j t, l[j]? = some t → j < k → ∃ u0 u1 u2 u3 u4, E[j * 5]? = some u0 ∧ E[j * 5 + 1]? = some u1 ∧ E[j * 5 + 2]? = some u2 ∧ E[j * 5 + 3]? = some u3 ∧ E[j * 5 + 4]? = some u4 ∧ DepTm (fun m => B ≤ m ∧ ov.ownBlock ≠ some m) wr (.agg #[u0, u1, u2, u3, u4]) t
theorem CT.end {B : Nat} {l : List Tm} {wr : World} {K : Option Addr} {c : Nat} {E : List Value} (h : CT B l wr (.slice K l.length c) l.length E) : DepTms (fun m => B ≤ m) wr K l := fun W' hW j t hj => by
  have hjl : j < l.length := (List.getElem?_eq_some_iff.1 hj).1
  obtain ⟨u0, u1, u2, u3, u4, e0, e1, e2, e3, e4, hd⟩ := h.dep j t hj hjl
  obtain ⟨g, cap, e, hB, _⟩ := h.row.form (by omega)
  injection e with eK _ ec
  subst eK; subst ec
  have hc : ∀ i u, i < 5 → E[j * 5 + i]? = some u → W'.cell? ⟨g, j * 5 + i, none⟩ = some u := fun i u hi hu => hW _ _ ((World.ownsRow.cellAt h.row (j * 5 + i) (by omega)).trans hu) hB
  refine ⟨⟨g, 0, none⟩, u0, u1, u2, u3, u4, rfl, ?_, hd W' fun a u hu hD => hW a u hu hD.1⟩
  rw [add_eq, add_eq, add_eq, add_eq, add_eq, Nat.zero_add]
  exact ⟨hc 0 u0 (by decide) e0, hc 1 u1 (by decide) e1, hc 2 u2 (by decide) e2, hc 3 u3 (by decide) e3, hc 4 u4 (by decide) e4⟩
/-- One term more. -/
theorem CT.more {B : Nat} {l : List Tm} {wr w1 w2 w3 : World} {ov ov' : Value} {k : Nat} {E : List Value} {t : Tm} {v0 v1 v2 v3 v4 : Value} (h : CT B l wr ov k E) (ht : l[k]? = some t) (hB : B ≤ wr.heap.size) (hd : DepTm (fun m => wr.heap.size ≤ m) w1 (.agg #[v0, v1, v2, v3, v4]) t) (hb1 : Below wr.heap.size wr w1) (hb2 : Below w1.heap.size w1 w2) (hr : w3.ownsRow B 28 5 ov' (k + 1) (E ++ [v0, v1, v2, v3, v4])) (hg : w2.grownBy w3 ov.ownBlock) (hw : ov'.ownBlock = ov.ownBlock ∨ ov'.ownBlock = some w2.heap.size) : CT B l w3 ov' (k + 1) (E ++ [v0, v1, v2, v3, v4]) := by
  have hEl : E.length = k * 5 := h.row.1
  have hown : ∀ m, ov.ownBlock = some m → m < wr.heap.size := fun m hm => (World.ownsRow.lt h.row m hm).2
  have s1 := hb1.size
  have s2 := hb2.size
  have keep : ∀ a u, w1.cell? a = some u → ov.ownBlock ≠ some a.block → w3.cell? a = some u := fun a u hu hne => (cell_congr ((hg.block _ (by have := cell_lt hu; omega) (fun e => hne e.symm)).trans (hb2.block _ (cell_lt hu)))).trans hu
  have newb : ∀ m, m < w1.heap.size → ov.ownBlock ≠ some m → ov'.ownBlock ≠ some m := fun m hm hne e => by
    rcases hw with hw | hw
    · rw [hw] at e; exact hne e
    · rw [hw] at e; injection e with e; omega
  refine ⟨hr, fun j t' hj hjk => ?_⟩
  by_cases hjk2 : j < k
  · obtain ⟨u0, u1, u2, u3, u4, e0, e1, e2, e3, e4, hdj⟩ := h.dep j t' hj hjk2
    refine ⟨u0, u1, u2, u3, u4, ?_, ?_, ?_, ?_, ?_, hdj.to fun a u hu hD => ?_⟩
    · rw [List.getElem?_append_left (by omega)]; exact e0
    · rw [List.getElem?_append_left (by omega)]; exact e1
    · rw [List.getElem?_append_left (by omega)]; exact e2
    · rw [List.getElem?_append_left (by omega)]; exact e3
    · rw [List.getElem?_append_left (by omega)]; exact e4
    · exact ⟨keep a u ((hb1.cell (cell_lt hu)).trans hu) hD.2, hD.1, newb _ (by have := cell_lt hu; omega) hD.2⟩
  · have : j = k := by omega
    subst this
    rw [ht] at hj
    obtain rfl := Option.some.inj hj
    refine ⟨v0, v1, v2, v3, v4, ?_, ?_, ?_, ?_, ?_, hd.to fun a u hu hD => ?_⟩
    · rw [List.getElem?_append_right (by omega), hEl, Nat.sub_self]; rfl
    · rw [List.getElem?_append_right (by omega), hEl, show j * 5 + 1 - j * 5 = 1 by omega]; rfl
    · rw [List.getElem?_append_right (by omega), hEl, show j * 5 + 2 - j * 5 = 2 by omega]; rfl
    · rw [List.getElem?_append_right (by omega), hEl, show j * 5 + 3 - j * 5 = 3 by omega]; rfl
    · rw [List.getElem?_append_right (by omega), hEl, show j * 5 + 4 - j * 5 = 4 by omega]; rfl
    · have hne : ov.ownBlock ≠ some a.block := fun e => by have := hown _ e; omega
      exact ⟨keep a u hu hne, by omega, newb _ (cell_lt hu) hne⟩
end Go.Proofs.YthicoobhabighaaGreatDoor

namespace Go.Proofs.YthicoobhabighaaGreatDoor
open Go.RowKit

theorem add_pos (p : Addr) {j : Nat} (h : 0 < j) : p.add j = { block := p.block, off := p.off + j } := by
  unfold Addr.add; rw [if_neg (by omega)]
theorem five_news {w : World} {o : Obj} {v0 v1 v2 v3 v4 : Value} {T : TypeId} : ∀ j z, [v0, v1, v2, v3, v4][j]? = some z → ((w.alloc o).alloc (.cells #[v0, v1, v2, v3, v4] T)).cell? ((⟨w.heap.size + 1, 0, none⟩ : Addr).add j) = some z := by
  intro j z hj
  have s1 : (w.alloc o).heap.size = w.heap.size + 1 := World.size_alloc ..
  have h1 : ((w.alloc o).alloc (.cells #[v0, v1, v2, v3, v4] T)).heap[w.heap.size + 1]? = some (.cells #[v0, v1, v2, v3, v4] T (0, 0)) := by rw [← s1]; exact heap_alloc_new _ _
  rw [add_eq, Nat.zero_add, cell_of_row _ _ j _ _ _ h1]
  simpa using hj
set_option maxRecDepth 100000 in
set_option maxHeartbeats 6400000 in
theorem copyTerms_ok {w : World} {K : Option Addr} {c : Nat} {l : List Tm} (hl : TmsAt w K l) (hn : l.length ≤ 1000000) (hC : ∀ t ∈ l, Copies t) :
    Calls Tryz.prog 34 #[.slice K l.length c] w fun e w' => ∃ K' c', e = .returned (.slice K' l.length c') ∧ DepTms (fun m => w.heap.size ≤ m) w' K' l ∧ Below w.heap.size w w' := by
  obtain ⟨i0, hi, hz0, hz1, hz2⟩ := info_parts info_term
  have HL := Lib.hid (show _ ∧ _ from ⟨hl, hC⟩)
  clear hl hC
  go_enter Tryz.func34, Tryz.ntmps34
  go_wp2
  go_loopw [3, 4] (fun ow iv wr => ∃ (k : Nat) (E : List Value) (ov : Value), k ≤ l.length ∧ ov = ow ∧ iv = .int .i64 k ∧ Hid (CT w.heap.size l wr ov k E ∧ Below w.heap.size w wr)) (fun _ iv _ => l.length - (intOf iv).toNat)
  case atStart => exact ⟨0, [], _, Nat.zero_le _, rfl, rfl, Lib.hid ⟨⟨World.ownsRow_nil _ _ _ _, fun j t _ h => absurd h (by omega)⟩, Below.refl _ _⟩⟩
  case round =>
    obtain ⟨k, E, ov, hk, rfl, rfl, HI⟩ := hrel
    obtain ⟨hct, hb⟩ := HI.out
    by_cases hlt : k < l.length
    · have hi1 : (k : Int) < l.length := by omega
      have hi0 : 0 ≤ (k : Int) := by omega
      obtain ⟨t, ht⟩ : ∃ t, l[k]? = some t := ⟨_, List.getElem?_eq_getElem hlt⟩
      obtain ⟨ad, u0, u1, u2, u3, u4, rfl, ⟨h0, h1, h2, h3, h4⟩, hv⟩ := HL.out.1 k t ht
      have hmv : ∀ p u, w.cell? p = some u → _ := fun p u h => (hb.cell (cell_lt h)).trans h
      have h0 := hmv _ _ h0
      have h1 := hmv _ _ h1
      have h2 := hmv _ _ h2
      have h3 := hmv _ _ h3
      have h4 := hmv _ _ h4
      rw [add_pos _ (by decide)] at h1 h2 h3 h4
      have HCC := Lib.hid (HL.out.2 t (List.mem_of_getElem? ht) wr u0 u1 u2 u3 u4 (hv.bel hb))
      obtain ⟨oA, oc, rfl⟩ : ∃ A c, ov = .slice A k c := by
        rcases hct.row.2 with ⟨e, h0⟩ | ⟨g, cap, cur, e, _⟩
        · subst h0; exact ⟨_, _, e⟩
        · exact ⟨_, _, e⟩
      have HK := Lib.hid (show _ ∧ _ ∧ _ from ⟨hct, hb, ht⟩)
      clear hct hb HI hv hmv ht
      go_wp2_with fail
      refine HCC.out.mono ?_
      rintro e w1 ⟨v0, v1, v2, v3, v4, rfl, hdep, hb1⟩
      obtain ⟨xA, xK, xc, xd, ev, _⟩ := hdep.tm.parts
      simp only [Value.agg.injEq, Array.mk.injEq, List.cons.injEq, and_true] at ev
      obtain ⟨rfl, rfl, rfl, rfl, rfl⟩ := ev
      have s1 := hb1.size
      have HD := Lib.hid (show _ ∧ _ from ⟨hdep, hb1⟩)
      obtain ⟨hct, hb, ht⟩ := HK.out
      have hrow1 : w1.ownsRow w.heap.size 28 5 (.slice oA k oc) k E := by
        refine ⟨hct.row.1, ?_⟩
        rcases hct.row.2 with h0 | ⟨g, cap, cur, e, hB, hg, r⟩
        · exact .inl h0
        · exact .inr ⟨g, cap, cur, e, hB, (hb1.block g (Own.lt.cell_lt' hg)).trans hg, r⟩
      have HR := Lib.hid (show _ ∧ _ from ⟨hrow1, Nat.le_trans hb.size s1⟩)
      clear hdep hb1 s1 hct hb ht hrow1 HCC
      go_wp2_with (at_builtin; refine wpList_append_own_at _ rfl _ _ 26 rfl w.heap.size 28 i0 _ 5 80 Tryz.underlying26 hi hz0 hz1 hz2 rfl (by decide) (.slice oA k oc) k E rfl ((HR.out.1.alloc _).alloc _) ⟨w1.heap.size + 1, 0, none⟩ 1 1 [.int .u8 t.kind, .string t.name, .bool t.neg, .slice xA t.ds.length xc, .slice xK t.kids.length xd] rfl rfl five_news ?c2 ?c3 ?c4 ?c5 ?_)
      case c2 =>
        intro u hu
        simp at hu
        rcases hu with rfl | rfl | rfl | rfl | rfl <;> rfl
      case c3 => unfold maxLen; omega
      case c4 => omega
      case c5 => have := HR.out.2; rw [World.size_alloc, World.size_alloc]; omega
      intro v' w3 r3 g3 _ hw
      have s3 : ((w1.alloc (.cells #[.int .u8 t.kind, .string t.name, .bool t.neg, .slice xA t.ds.length xc, .slice xK t.kids.length xd] 28)).alloc (.cells #[.int .u8 t.kind, .string t.name, .bool t.neg, .slice xA t.ds.length xc, .slice xK t.kids.length xd] 28)).heap.size = w1.heap.size + 2 := by rw [World.size_alloc, World.size_alloc]
      obtain ⟨hct, hb, ht⟩ := HK.out
      obtain ⟨hdep, hb1⟩ := HD.out
      have hb2 : Below w1.heap.size w1 ((w1.alloc (.cells #[.int .u8 t.kind, .string t.name, .bool t.neg, .slice xA t.ds.length xc, .slice xK t.kids.length xd] 28)).alloc (.cells #[.int .u8 t.kind, .string t.name, .bool t.neg, .slice xA t.ds.length xc, .slice xK t.kids.length xd] 28)) := ((Below.refl _ _).alloc (Nat.le_refl _) _).alloc (by rw [World.size_alloc]; omega) _
      have hB3 : Below w.heap.size w w3 := ((hb.trans (hb1.mono hb.size)).trans (hb2.mono HR.out.2)).grown g3 (by rw [s3]; have := HR.out.2; omega) (fun m hm => (World.ownsRow.lt HR.out.1 m hm).1)
      have HE := Lib.hid (show CT w.heap.size l w3 v' (k + 1) (E ++ [.int .u8 t.kind, .string t.name, .bool t.neg, .slice xA t.ds.length xc, .slice xK t.kids.length xd]) ∧ Below w.heap.size w w3 from ⟨hct.more ht hb.size hdep hb1 hb2 r3 g3 (by rw [s3]; exact hw), hB3⟩)
      clear r3 g3 hw s3 hct hb ht hdep hb1 hb2 hB3 HR HD HK
      go_wp2
      go_roundw
      case rel => exact ⟨k + 1, _, _, by omega, rfl, by go_num, HE⟩
      case measure => first | (simp [intOf]; done) | (simp [intOf]; omega)
    · have hk1 : k = l.length := by omega
      subst hk1
      obtain ⟨oA, oc, rfl⟩ : ∃ A c, ov = .slice A l.length c := by
        rcases hct.row.2 with ⟨e, h0⟩ | ⟨g, cap, cur, e, _⟩
        · rw [h0]; exact ⟨_, _, e⟩
        · exact ⟨_, _, e⟩
      have HE := Lib.hid (show DepTms (fun m => w.heap.size ≤ m) wr oA l ∧ Below w.heap.size w wr from ⟨hct.end, hb⟩)
      clear hct hb HI
      go_wp2
      go_returns
      exact ⟨_, _, rfl, HE.out⟩
end Go.Proofs.YthicoobhabighaaGreatDoor

namespace Go.Proofs.YthicoobhabighaaGreatDoor
open Go.RowKit

theorem below_set {M g o : Nat} (h : M ≤ g) (w : World) (v : Value) : Below M w (w.setCell ⟨g, o, none⟩ v) := ⟨rfl, rfl, rfl, by simp, fun k hk => Below.heap_setCell _ _ _ _ (show k ≠ g by omega)⟩
theorem dep_of {N : Nat} {wf : World} {t : Tm} {A' K' : Option Addr} {c' cK' : Nat} (hg : Good t) (hrow : ∀ j v, (u32s t.ds)[j]? = some v → ∃ a, A' = some a ∧ wf.cell? (a.add j) = some v ∧ N ≤ a.block) (hdep : DepTms (fun m => N ≤ m) wf K' t.kids) :
    DepTm (fun k => N ≤ k) wf (.agg #[.int .u8 t.kind, .string t.name, .bool t.neg, .slice A' t.ds.length c', .slice K' t.kids.length cK']) t := by
  intro W' hW
  obtain ⟨kind, name, neg, ds, kids⟩ := t
  refine TmV.of ?_ hg.name (fun j v hj => ?_) hg.ds hg.dl hg.kl (hdep W' hW)
  · have e1 : IntKind.u8.min = 0 := rfl
    have e2 : IntKind.u8.max = 255 := rfl
    have := hg.kind
    simp only [Tm.kind] at this ⊢
    simp only [Lit.wf, Bool.and_eq_true, decide_eq_true_eq, e1, e2]
    omega
  · obtain ⟨a, ha, hc, hb⟩ := hrow j v hj
    exact ⟨a, ha, hW _ v hc (by rw [add_block]; exact hb)⟩
theorem copy_end {N : Nat} {w1 X w2 wf : World} {t : Tm} {A' K' : Option Addr} {c' cK' : Nat} (hN : N + 2 ≤ w1.heap.size) (hg : Good t) (ho : U32s w1 (N + 2 + 2) (.slice A' t.ds.length c') t.ds) (hX : ∀ k, k ≠ N → X.heap[k]? = w1.heap[k]?) (hs : X.heap.size = w1.heap.size) (hb2 : Below w1.heap.size X w2) (hdep : DepTms (fun m => w1.heap.size ≤ m) w2 K' t.kids) (hwk : ∀ k, k ≠ N → k ≠ N + 1 → wf.heap[k]? = w2.heap[k]?) :
    DepTm (fun k => N ≤ k) wf (.agg #[.int .u8 t.kind, .string t.name, .bool t.neg, .slice A' t.ds.length c', .slice K' t.kids.length cK']) t := by
  refine dep_of hg (fun j v hj => ?_) (hdep.to fun a u hu hD => ?_)
  · obtain ⟨hrow, hblk⟩ := ho.row
    obtain ⟨a, ha, hc⟩ := hrow j v hj
    have h1 := hblk a ha
    have h2 := cell_lt hc
    rw [add_block] at h2
    refine ⟨a, ha, (cell_congr ?_).trans hc, by omega⟩
    rw [add_block]
    have e1 := hwk a.block (by omega) (by omega)
    have e2 := hb2.block a.block h2
    have e3 := hX a.block (by omega)
    exact e1.trans (e2.trans e3)
  · have hD' : w1.heap.size ≤ a.block := hD
    have e1 := hwk a.block (by omega) (by omega)
    exact ⟨(cell_congr e1).trans hu, (by omega : N ≤ a.block)⟩
set_option maxRecDepth 100000 in
set_option maxHeartbeats 6400000 in
theorem copyTerm_one {t : Tm} (hds : t.ds.length ≤ 1000000) (hkl : t.kids.length ≤ 1000000) (hC : ∀ k ∈ t.kids, Copies k) : Copies t := by
  intro w u0 u1 u2 u3 u4 hv
  have hg : Good t := hv.good t (by rw [preT_eq]; exact List.mem_cons_self ..)
  obtain ⟨A, K, cA, cK, e, x1, x2, hr, x3, x4, x5, hk⟩ := hv.parts
  simp only [Value.agg.injEq, Array.mk.injEq, List.cons.injEq, and_true] at e
  obtain ⟨rfl, rfl, rfl, rfl, rfl⟩ := e
  obtain ⟨a0, a1, asz, ab⟩ := two_alloc w (.cells #[.int .u8 t.kind, .string t.name, .bool t.neg, .slice A t.ds.length cA, .slice K t.kids.length cK] 28) (.cells #[.int .u8 0, .string ⟨#[]⟩, .bool false, .slice none 0 0, .slice none 0 0] 28)
  have HI := Lib.hid (copyInt_ok (b := t.neg) (c := cA) (hr.below ab) hds)
  have HA := Lib.hid (show _ ∧ _ ∧ _ ∧ _ ∧ _ ∧ _ ∧ _ from ⟨a0, a1, asz, ab, hk, hC, hg⟩)
  clear hv hr hk a0 a1 asz ab hC hds hg x1 x2 x3 x4 x5
  go_enter Tryz.func10, Tryz.ntmps10
  go_wp2_with fail
  refine HI.out.mono ?_
  rintro e w1 ⟨A', c', rfl, ho, hb1⟩
  obtain ⟨a0, a1, asz, ab, hk, hC, hg⟩ := HA.out
  rw [asz] at ho hb1
  have b0 : w1.heap[w.heap.size]? = some (.cells #[.int .u8 t.kind, .string t.name, .bool t.neg, .slice A t.ds.length cA, .slice K t.kids.length cK] 28 (0, 0)) := (hb1.block _ (by omega)).trans a0
  have b1 : w1.heap[w.heap.size + 1]? = some (.cells #[.int .u8 0, .string ⟨#[]⟩, .bool false, .slice none 0 0, .slice none 0 0] 28 (0, 0)) := (hb1.block _ (by omega)).trans a1
  have m2 : w1.cell? ⟨w.heap.size, 2, none⟩ = some (.bool t.neg) := cell_of_row w1 _ 2 _ _ _ b0
  have m3 : w1.cell? ⟨w.heap.size, 3, none⟩ = some (.slice A t.ds.length cA) := cell_of_row w1 _ 3 _ _ _ b0
  have m4 : w1.cell? ⟨w.heap.size, 4, none⟩ = some (.slice K t.kids.length cK) := cell_of_row w1 _ 4 _ _ _ b0
  have f2 : w1.frozen? ⟨w.heap.size, 2, none⟩ = false := by simp [World.frozen?, b0]
  have f3 : w1.frozen? ⟨w.heap.size, 3, none⟩ = false := by simp [World.frozen?, b0]
  have s1 := hb1.size
  have hkk : ∀ k, k ≠ w.heap.size → ((w1.setCell ⟨w.heap.size, 2, none⟩ (.bool t.neg)).setCell ⟨w.heap.size, 3, none⟩ (.slice A' t.ds.length c')).heap[k]? = w1.heap[k]? := fun k h => (Below.heap_setCell _ _ _ _ h).trans (Below.heap_setCell _ _ _ _ h)
  have hbw : Below w.heap.size w ((w1.setCell ⟨w.heap.size, 2, none⟩ (.bool t.neg)).setCell ⟨w.heap.size, 3, none⟩ (.slice A' t.ds.length c')) := (ab.trans (hb1.mono (by omega))).trans ⟨rfl, rfl, rfl, by simp, fun k hk2 => hkk k (by omega)⟩
  have HC := Lib.hid (copyTerms_ok (w := (w1.setCell ⟨w.heap.size, 2, none⟩ (.bool t.neg)).setCell ⟨w.heap.size, 3, none⟩ (.slice A' t.ds.length c')) (c := cK) (hk.below hbw) hkl hC)
  have b0' : ((w1.setCell ⟨w.heap.size, 2, none⟩ (.bool t.neg)).setCell ⟨w.heap.size, 3, none⟩ (.slice A' t.ds.length c')).heap[w.heap.size]? = some (.cells #[.int .u8 t.kind, .string t.name, .bool t.neg, .slice A' t.ds.length c', .slice K t.kids.length cK] 28 (0, 0)) := by
    simp [World.setCell, Array.getElem?_modify, b0]
  have ss : ((w1.setCell ⟨w.heap.size, 2, none⟩ (.bool t.neg)).setCell ⟨w.heap.size, 3, none⟩ (.slice A' t.ds.length c')).heap.size = w1.heap.size := by simp
  have HB := Lib.hid (show _ ∧ _ ∧ _ ∧ _ ∧ _ ∧ _ ∧ _ from ⟨ho, hbw, b0', hkk, b1, ss, (show w.heap.size + 2 ≤ w1.heap.size by omega)⟩)
  clear ho hb1 b0 b1 s1 hkk hbw b0' ss a0 a1 asz ab hk hC hg HI
  go_wp2_with fail
  refine HC.out.mono ?_
  rintro e w2 ⟨K', cK', rfl, hdep, hb2⟩
  obtain ⟨ho, hbw, b0, hkk, b1, ss, s1⟩ := HB.out
  rw [ss] at hb2 hdep
  have c0 : w2.heap[w.heap.size]? = some (.cells #[.int .u8 t.kind, .string t.name, .bool t.neg, .slice A' t.ds.length c', .slice K t.kids.length cK] 28 (0, 0)) := (hb2.block _ (by omega)).trans b0
  have c1 : w2.heap[w.heap.size + 1]? = some (.cells #[.int .u8 0, .string ⟨#[]⟩, .bool false, .slice none 0 0, .slice none 0 0] 28 (0, 0)) := (hb2.block _ (by omega)).trans ((hkk _ (by omega)).trans b1)
  have n0 : w2.cell? ⟨w.heap.size, 0, none⟩ = some (.int .u8 t.kind) := cell_of_row w2 _ 0 _ _ _ c0
  have n1 : w2.cell? ⟨w.heap.size, 1, none⟩ = some (.string t.name) := cell_of_row w2 _ 1 _ _ _ c0
  have n2 : w2.cell? ⟨w.heap.size, 2, none⟩ = some (.bool t.neg) := cell_of_row w2 _ 2 _ _ _ c0
  have n3 : w2.cell? ⟨w.heap.size, 3, none⟩ = some (.slice A' t.ds.length c') := cell_of_row w2 _ 3 _ _ _ c0
  have n4 : w2.cell? ⟨w.heap.size, 4, none⟩ = some (.slice K t.kids.length cK) := cell_of_row w2 _ 4 _ _ _ c0
  have g4 : w2.frozen? ⟨w.heap.size, 4, none⟩ = false := by simp [World.frozen?, c0]
  have r0 : w2.cell? ⟨w.heap.size + 1, 0, none⟩ = some (.int .u8 0) := cell_of_row w2 _ 0 _ _ _ c1
  have r1 : w2.cell? ⟨w.heap.size + 1, 1, none⟩ = some (.string ⟨#[]⟩) := cell_of_row w2 _ 1 _ _ _ c1
  have r2 : w2.cell? ⟨w.heap.size + 1, 2, none⟩ = some (.bool false) := cell_of_row w2 _ 2 _ _ _ c1
  have r3 : w2.cell? ⟨w.heap.size + 1, 3, none⟩ = some (.slice none 0 0) := cell_of_row w2 _ 3 _ _ _ c1
  have r4 : w2.cell? ⟨w.heap.size + 1, 4, none⟩ = some (.slice none 0 0) := cell_of_row w2 _ 4 _ _ _ c1
  have fr : ∀ o, w2.frozen? ⟨w.heap.size + 1, o, none⟩ = false := fun o => by simp [World.frozen?, c1]
  have q0 := fr 0
  have q1 := fr 1
  have q2 := fr 2
  have q3 := fr 3
  have q4 := fr 4
  have HF := Lib.hid (show ∀ wf, wf = (((((w2.setCell ⟨w.heap.size, 4, none⟩ (.slice K' t.kids.length cK')).setCell ⟨w.heap.size + 1, 0, none⟩ (.int .u8 t.kind)).setCell ⟨w.heap.size + 1, 1, none⟩ (.string t.name)).setCell ⟨w.heap.size + 1, 2, none⟩ (.bool t.neg)).setCell ⟨w.heap.size + 1, 3, none⟩ (.slice A' t.ds.length c')).setCell ⟨w.heap.size + 1, 4, none⟩ (.slice K' t.kids.length cK') → wf.heap[w.heap.size + 1]? = some (.cells #[.int .u8 t.kind, .string t.name, .bool t.neg, .slice A' t.ds.length c', .slice K' t.kids.length cK'] 28 (0, 0)) ∧ DepTm (fun k => w.heap.size ≤ k) wf (.agg #[.int .u8 t.kind, .string t.name, .bool t.neg, .slice A' t.ds.length c', .slice K' t.kids.length cK']) t ∧ Below w.heap.size w wf from by
    intro wf hwf
    have hwk : ∀ k, k ≠ w.heap.size → k ≠ w.heap.size + 1 → wf.heap[k]? = w2.heap[k]? := fun k h1 h2 => by
      rw [hwf]; exact (five_off h2).trans (Below.heap_setCell _ _ _ _ h1)
    refine ⟨?_, copy_end s1 HA.out.2.2.2.2.2.2 ho hkk ss hb2 hdep hwk, ?_⟩
    · rw [hwf]
      exact five_set ((Below.heap_setCell _ _ _ _ (by show w.heap.size + 1 ≠ w.heap.size; omega)).trans c1)
    · have hb3 := hb2.mono (show w.heap.size ≤ w1.heap.size by omega)
      refine hbw.trans (hb3.trans ?_)
      rw [hwf]
      exact (below_set (Nat.le_refl _) _ _).trans ((below_set (by omega) _ _).trans ((below_set (by omega) _ _).trans ((below_set (by omega) _ _).trans ((below_set (by omega) _ _).trans (below_set (by omega) _ _))))))
  clear ho hbw b0 hkk b1 ss s1 hdep hb2 c0 c1 fr HA HB HC m2 m3 m4 f2 f3
  go_wp2
  obtain ⟨wf, hwf⟩ : ∃ wf, wf = (((((w2.setCell ⟨w.heap.size, 4, none⟩ (.slice K' t.kids.length cK')).setCell ⟨w.heap.size + 1, 0, none⟩ (.int .u8 t.kind)).setCell ⟨w.heap.size + 1, 1, none⟩ (.string t.name)).setCell ⟨w.heap.size + 1, 2, none⟩ (.bool t.neg)).setCell ⟨w.heap.size + 1, 3, none⟩ (.slice A' t.ds.length c')).setCell ⟨w.heap.size + 1, 4, none⟩ (.slice K' t.kids.length cK') := ⟨_, rfl⟩
  rw [← hwf]
  obtain ⟨z0, z1, z2⟩ := HF.out wf hwf
  have t0 : wf.cell? ⟨w.heap.size + 1, 0, none⟩ = some (.int .u8 t.kind) := cell_of_row wf _ 0 _ _ _ z0
  have t1 : wf.cell? ⟨w.heap.size + 1, 1, none⟩ = some (.string t.name) := cell_of_row wf _ 1 _ _ _ z0
  have t2 : wf.cell? ⟨w.heap.size + 1, 2, none⟩ = some (.bool t.neg) := cell_of_row wf _ 2 _ _ _ z0
  have t3 : wf.cell? ⟨w.heap.size + 1, 3, none⟩ = some (.slice A' t.ds.length c') := cell_of_row wf _ 3 _ _ _ z0
  have t4 : wf.cell? ⟨w.heap.size + 1, 4, none⟩ = some (.slice K' t.kids.length cK') := cell_of_row wf _ 4 _ _ _ z0
  exact bodyPost_ret (v := .agg #[.int .u8 t.kind, .string t.name, .bool t.neg, .slice A' t.ds.length c', .slice K' t.kids.length cK']) (by simp [results, Tryz.results10, go_sem, t0, t1, t2, t3, t4]) rfl ⟨_, _, _, _, _, rfl, z1, z2⟩
/-- CopyTerm, of any term whose rows are not too long. -/
theorem copyTerm_ok : ∀ (n : Nat) {t : Tm}, (preT t).length ≤ n → (∀ p ∈ preT t, p.ds.length ≤ 1000000 ∧ p.kids.length ≤ 1000000) → Copies t
  | 0, t, h, _ => by rw [preT_eq] at h; simp at h
  | n + 1, t, h, hb => by
    rw [preT_eq] at h hb
    simp at h
    have h0 := hb t (List.mem_cons_self ..)
    refine copyTerm_one h0.1 h0.2 fun k hk => ?_
    obtain ⟨j, hj⟩ := List.getElem?_of_mem hk
    have hsub : ∀ p ∈ preT k, p ∈ preL t.kids := fun p hp => mem_preL.2 ⟨k, hk, hp⟩
    have hle : (preT k).length ≤ (preL t.kids).length := by
      have e1 := List.take_append_drop j t.kids
      have e2 : t.kids.drop j = k :: t.kids.drop (j + 1) := by
        have hjl := (List.getElem?_eq_some_iff.1 hj).1
        rw [List.drop_eq_getElem_cons hjl]
        congr 1
        exact (List.getElem?_eq_some_iff.1 hj).2
      rw [← e1, preL_append, e2, preL]
      simp; omega
    exact copyTerm_ok n (by omega) fun p hp => hb p (List.mem_cons_of_mem _ (hsub p hp))
end Go.Proofs.YthicoobhabighaaGreatDoor

/- The law's turned: trees of the program as the document's, in new memory. Premise: trees in memory, at most 10^6 of them. -/
import Derived.Test.YtbccknhinmgibaaDoorLTxt
import Derived.Deep.LoopGhost
import Derived.Deep.RegionLaw
import Derived.Deep.CutBlock
import Derived.Deep.CutRange
import Derived.BigRegion
import Derived.Outline
set_option linter.unusedVariables false
set_option linter.unusedSimpArgs false
namespace Go.Proofs.YtbccknhinmgibaaDoor
open Go.RowKit

theorem info_rtree : (Tryd.prog.info? 79).map (fun i => (i.zero, i.size, i.bytes)) = some (some (.agg #[.string ⟨#[]⟩, .slice none 0 0, .bool false, .int .i64 0]), 4, 56) := by kernel_rfl
theorem tnews (w : World) (T : TypeId) (a b c d : Value) : ∀ j u, [a, b, c, d][j]? = some u → (w.alloc (.cells #[a, b, c, d] T)).drew.cell? ((⟨w.heap.size, 0, none⟩ : Addr).add j) = some u := fun j u hu => by
  rw [add_eq0]
  show (w.alloc (.cells #[a, b, c, d] T)).cell? _ = _
  rw [cell_of_row _ _ j _ _ _ (heap_alloc_new _ _)]
  simpa using hu
theorem tone {a b c d : Value} (h0 : a.oneCell' = true) (h1 : b.oneCell' = true) (h2 : c.oneCell' = true) (h3 : d.oneCell' = true) : ∀ u ∈ [a, b, c, d], u.oneCell' = true := by
  intro u hu
  simp only [List.mem_cons, List.not_mem_nil, or_false] at hu
  rcases hu with rfl | rfl | rfl | rfl <;> assumption
/-- The call's own blocks but v's row. -/
def Dv (B : Nat) (v : Value) (m : Nat) : Prop := B ≤ m ∧ v.ownBlock ≠ some m
theorem turn_put {B T g4 c4 : Nat} {W wr w2 W1 w4 : World} {v : Value} {C : List Value} {f k : Fo} {s : ByteArray} {b : Bool} {p : Int} {K : Option Addr} {c : Nat} (hC : wr.ownsRow B T 4 v f.len C) (hK : KidsC (Dv B v) wr C f) (hbw : Below wr.heap.size wr w2) (hB : B ≤ wr.heap.size) (hbB : Below B W wr) (hd : DepF (fun m => wr.heap.size ≤ m) w2 K k) (hb : s.size ≤ 140737488355328 ∧ k.len ≤ c ∧ c ≤ maxLen ∧ k.len ≤ 140737488355328)
    (hW : ∀ m, m < w2.heap.size → W1.heap[m]? = w2.heap[m]?) (hs : w2.heap.size ≤ W1.heap.size) (ho : W1.os = w2.os ∧ W1.tape = w2.tape ∧ W1.output = w2.output)
    (hr : w4.ownsRow B T 4 (.slice (some ⟨g4, 0, none⟩) (f.len + 1) c4) (f.len + 1) (C ++ [.string s, .slice K k.len c, .bool b, .int .i64 p])) (q : W1.grownBy w4 v.ownBlock) (o : v.ownBlock = some g4 ∨ g4 = W1.heap.size) :
    RowF B T (Dv B (.slice (some ⟨g4, 0, none⟩) (f.len + 1) c4)) w4 (.slice (some ⟨g4, 0, none⟩) (f.len + 1) c4) (f.app (.one s k b p)) ∧ Below B W w4 ∧ ∀ m, m < B → w4.heap[m]? = wr.heap[m]? := by
  have hlt : ∀ m, v.ownBlock = some m → B ≤ m ∧ m < wr.heap.size := fun m hm => World.ownsRow.lt hC m hm
  have hsz := hbw.size
  have hqs := q.size
  have hstay : ∀ m, m < wr.heap.size → v.ownBlock ≠ some m → w4.heap[m]? = wr.heap[m]? := fun m hm hv => (q.block m (by omega) fun e => hv e.symm).trans ((hW m (by omega)).trans (hbw.block m hm))
  refine ⟨⟨_, by rw [Fo.len_app]; exact hr, KidsC.snoc hb (hd.to fun a u hu hD => ?_) f (KidsC.to (fun a u hu hD => ?_) f hK)⟩, ⟨q.os.trans (ho.1.trans (hbw.os.trans hbB.os)), q.tape.trans (ho.2.1.trans (hbw.tape.trans hbB.tape)), q.output.trans (ho.2.2.trans (hbw.output.trans hbB.output)), by have := hbB.size; omega, fun m hm => ?_⟩, fun m hm => hstay m (by omega) fun e => by have := (hlt m e).1; omega⟩
  · have hl := cell_lt hu
    have hD : wr.heap.size ≤ a.block := hD
    refine ⟨(cell_congr ((q.block a.block (by omega) fun e => ?_).trans (hW _ hl))).trans hu, by omega, fun e => ?_⟩
    · have := (hlt _ e.symm).2; omega
    · have e : some g4 = some a.block := e
      injection e with e
      rcases o with o | o
      · have := (hlt _ o).2; omega
      · omega
  · have hl := cell_lt hu
    refine ⟨(cell_congr (hstay _ hl hD.2)).trans hu, hD.1, fun e => ?_⟩
    have e : some g4 = some a.block := e
    injection e with e
    rcases o with o | o
    · exact hD.2 (by rw [o, e])
    · omega
  · exact (hstay m (by omega) fun e => by have := (hlt m e).1; omega).trans (hbB.block m hm)
def TurnE (W : World) (f : Fo) (e : Ending) (w' : World) : Prop := ∃ K c, e = .returned (.slice K f.len c) ∧ f.len ≤ c ∧ c ≤ maxLen ∧ DepF (fun m => W.heap.size ≤ m) w' K f ∧ Below W.heap.size W w'
set_option maxRecDepth 100000 in
set_option maxHeartbeats 6400000 in
theorem turned_step (N : Nat) (ih : ∀ (f : Fo) (W : World) (A : Option Addr) (c : Nat), f.nodes < N → FoAt W A 0 f → f.nodes ≤ 1000000 → Calls Tryd.prog 35 #[.slice A f.len c] W (TurnE W f))
    (f : Fo) (W : World) (A : Option Addr) (c : Nat) (hN : f.nodes ≤ N) (hf : FoAt W A 0 f) (hl : f.nodes ≤ 1000000) :
    Calls Tryd.prog 35 #[.slice A f.len c] W (TurnE W f) := by
  obtain ⟨n, hn⟩ : ∃ n, n = f.len := ⟨_, rfl⟩
  obtain ⟨B, hB⟩ : ∃ B, B = W.heap.size := ⟨_, rfl⟩
  have hlen : ∀ g : Fo, g.len ≤ g.nodes := by
    intro g
    induction g with
    | nil => exact Nat.le_refl _
    | cons s k b p r ihk ihr => simp only [Fo.len, Fo.nodes]; omega
  have hn0 : n ≤ 1000000 := by have := hlen f; omega
  have HH := Lib.hid (show _ ∧ _ ∧ _ ∧ _ ∧ _ from ⟨hN, hf, hl, hn, hB⟩)
  have HL := Lib.hid hlen
  rw [← hn]
  have HI := Lib.hid ih
  obtain ⟨i0, hin0, hz0, hz1, hz2⟩ := info_parts info_rtree
  clear hN hf hl hn ih hB hlen
  go_enter Tryd.func35, Tryd.ntmps35
  go_wp2
  go_loopw [3, 4] (fun ov iv wr => ∃ (i : Nat) (g f0 : Fo) (v : Value), v = ov ∧ i ≤ n ∧ iv = .int .i64 (i : Int) ∧ Hid (RowF B 79 (Dv B v) wr v f0 ∧ f0.app g = f ∧ f0.len = i ∧ Below B W wr ∧ FoAt W A i g ∧ g.nodes ≤ N)) (fun _ iv _ => n - (intOf iv).toNat)
  case atStart => exact ⟨0, f, .nil, _, rfl, Nat.zero_le _, rfl, Lib.hid ⟨⟨[], World.ownsRow_nil _ _ _ _, rfl⟩, rfl, rfl, Below.refl _ _, HH.out.2.1, HH.out.1⟩⟩
  case round =>
    obtain ⟨i, g, f0, v, rfl, hin, rfl, HR⟩ := hrel
    obtain ⟨hrow, happ, hf0, hb, hg, hgn⟩ := HR.out
    have hln : i + g.len = n := by
      have := Fo.len_app f0 g
      rw [happ] at this
      have := HH.out.2.2.2.1
      omega
    obtain ⟨Av, cv, rfl, hcv1, hcv2, hdep⟩ := hrow.dep (D' := fun m => B ≤ m) (fun m h => h.1) fun m hm => (hrow.lt m hm).1
    cases g with
    | nil =>
      have hie : i = n := by simpa [Fo.len] using hln
      have hlt : decide (i < n) = false := decide_eq_false (by omega)
      rw [Fo.app_nil] at happ
      have HE := Lib.hid (show TurnE W f (.returned (.slice Av f0.len cv)) wr from ⟨Av, cv, by rw [happ], by rw [← happ]; exact hcv1, hcv2, by rw [← happ, ← HH.out.2.2.2.2]; exact hdep, by rw [← HH.out.2.2.2.2]; exact hb⟩)
      clear hrow happ hf0 hb hg hgn hln HR hie HI hcv1 hcv2 hdep HH
      go_wp2
      go_ret
      exact HE.out
    | cons s k b p r =>
      have hil : i < n := by simp [Fo.len] at hln; omega
      have hlt : decide (i < n) = true := decide_eq_true (by omega)
      have hr0 := hg.2
      obtain ⟨⟨ga, oa, A1, cA, rfl, q0, q1, q2, q3, hb1, hk1⟩, hr1⟩ := hg.bel (W' := wr) (by rw [← HH.out.2.2.2.2]; exact hb)
      have x1 : (i : Int) < (n : Int) := by omega
      have x0 : (0 : Int) ≤ (i : Int) := by omega
      simp only [Fo.nodes] at hgn
      have hBs : B ≤ wr.heap.size := by have := hb.size; have := HH.out.2.2.2.2; omega
      have HC := Lib.hid (HI.out k wr A1 cA (by omega) hk1 (by
        have : ∀ a b : Fo, (a.app b).nodes = a.nodes + b.nodes := fun a b => by
          induction a with
          | nil => simp [Fo.app, Fo.nodes]
          | cons s k b p r ihk ihr => simp only [Fo.app, Fo.nodes, ihr]; omega
        have h2 := this f0 (.cons s k b p r)
        rw [happ] at h2
        have := HH.out.2.2.1
        simp only [Fo.nodes] at h2
        omega))
      obtain ⟨C, hC, hK⟩ := hrow
      have HG := Lib.hid (show _ ∧ _ ∧ _ ∧ _ ∧ _ ∧ _ ∧ _ ∧ _ ∧ _ from ⟨hC, hK, happ, hf0, hb, hr0, hgn, hBs, hb1⟩)
      clear hC hK happ hf0 hb hr0 hr1 hg hgn hBs hb1 hk1 HR HI hcv1 hcv2 hdep hln
      go_wp2_with fail
      refine HC.out.mono ?_
      rintro e w2 ⟨K, c2, rfl, hc2, hc3, hd, hb2⟩
      have u0 : w2.cell? ⟨ga, oa + i * 4, none⟩ = some (.string s) := (hb2.cell (cell_lt q0)).trans q0
      have u2 : w2.cell? ⟨ga, oa + i * 4 + 2, none⟩ = some (.bool b) := (hb2.cell (cell_lt q2)).trans q2
      have u3 : w2.cell? ⟨ga, oa + i * 4 + 3, none⟩ = some (.int .i64 p) := (hb2.cell (cell_lt q3)).trans q3
      have HD := Lib.hid (show _ ∧ _ ∧ _ ∧ _ from ⟨hd, hb2, hc2, hc3⟩)
      clear hd hb2 hc2 hc3 HC q0 q1 q2 q3
      have HO := Lib.hid (show (w2.alloc (.cells #[.string s, .slice K k.len c2, .bool b, .int .i64 p] 79)).drew.ownsRow B 79 4 (.slice Av f0.len cv) f0.len C from (ownsRow_same HG.out.1 fun m hm => HD.out.2.1.block m (World.ownsRow.lt HG.out.1 m hm).2).alloc _)
      have u0a : (w2.alloc (.cells #[.string s, .slice K k.len c2, .bool b, .int .i64 p] 79)).cell? ⟨ga, oa + i * 4, none⟩ = some (.string s) := (cell_congr (Below.heap_alloc _ _ _ (cell_lt u0))).trans u0
      have u2a : (w2.alloc (.cells #[.string s, .slice K k.len c2, .bool b, .int .i64 p] 79)).cell? ⟨ga, oa + i * 4 + 2, none⟩ = some (.bool b) := (cell_congr (Below.heap_alloc _ _ _ (cell_lt u2))).trans u2
      have u3a : (w2.alloc (.cells #[.string s, .slice K k.len c2, .bool b, .int .i64 p] 79)).cell? ⟨ga, oa + i * 4 + 3, none⟩ = some (.int .i64 p) := (cell_congr (Below.heap_alloc _ _ _ (cell_lt u3))).trans u3
      have hf0l : f0.len ≤ 1000000 := by have := HG.out.2.2.2.1; omega
      have HN := Lib.hid (show f0.len + 1 ≤ maxLen by unfold maxLen; omega)
      have HN2 := Lib.hid (show (f0.len + 1) * 56 ≤ 140737488355328 by omega)
      have HBB := Lib.hid (show B ≤ (w2.alloc (.cells #[.string s, .slice K k.len c2, .bool b, .int .i64 p] 79)).drew.heap.size by
        show B ≤ (w2.alloc (.cells #[.string s, .slice K k.len c2, .bool b, .int .i64 p] 79)).heap.size
        rw [World.size_alloc]
        have := HG.out.2.2.2.2.2.2.2.1
        have := HD.out.2.1.size
        omega)
      have HE := Lib.hid (fun g4 c4 w4 hr q o => turn_put (b := b) (p := p) (g4 := g4) (c4 := c4) (w4 := w4) (W1 := (w2.alloc (.cells #[.string s, .slice K k.len c2, .bool b, .int .i64 p] 79)).drew) HG.out.1 HG.out.2.1 HD.out.2.1 HG.out.2.2.2.2.2.2.2.1 HG.out.2.2.2.2.1 HD.out.1 ⟨HG.out.2.2.2.2.2.2.2.2.1, HD.out.2.2.1, HD.out.2.2.2, HG.out.2.2.2.2.2.2.2.2.2.2.2⟩ (fun m hm => Below.heap_alloc _ _ _ hm) (by show w2.heap.size ≤ (w2.alloc _).heap.size; rw [World.size_alloc]; omega) ⟨rfl, rfl, rfl⟩ hr q o)
      go_wp2_with fail
      go_region_law (refine step_append_lies _ rfl (.tmp 18) (.tmp 36) 37 rfl B 79 i0 _ 4 56 Tryd.underlying37 hin0 hz0 hz1 hz2 rfl (by decide) (.slice Av f0.len cv) f0.len C (by simp [Act.eval, Act.put]) HO.out ⟨w2.heap.size, 0, none⟩ 1 1 [.string s, .slice K k.len c2, .bool b, .int .i64 p] (by simp [Act.eval, Act.put]) rfl (tnews w2 _ _ _ _ _) (tone rfl rfl rfl rfl) (by decide) HN.out HN2.out HBB.out _ rfl ?_; intro g4 c4 w4 r4 q4 o4 l4; have R4 := Lib.hid (show _ ∧ _ ∧ _ from ⟨r4, q4, o4⟩); clear r4 q4 o4 l4)
      all_goals
        have HF := Lib.hid (HE.out g4 c4 w4 R4.out.1 R4.out.2.1 R4.out.2.2)
        clear R4 HE HO HN HN2 HBB u0a u2a u3a u0 u2 u3
        go_wp2_with fail
        exact ⟨⟨i + 1, r, f0.app (.one s k b p), _, rfl, by omega, by go_num, Lib.hid ⟨HF.out.1, by rw [Fo.app_assoc]; exact HG.out.2.2.1, by rw [Fo.len_app, HG.out.2.2.2.1]; rfl, HF.out.2.1, HG.out.2.2.2.2.2.1, by have := HG.out.2.2.2.2.2.2.1; omega⟩⟩, by simp [intOf]; omega⟩
theorem turned_ok : ∀ (N : Nat) (f : Fo) (W : World) (A : Option Addr) (c : Nat), f.nodes < N → FoAt W A 0 f → f.nodes ≤ 1000000 → Calls Tryd.prog 35 #[.slice A f.len c] W (TurnE W f)
  | 0, _, _, _, _, h, _, _ => absurd h (Nat.not_lt_zero _)
  | N + 1, f, W, A, c, h, h1, h2 => turned_step N (turned_ok N) f W A c (by omega) h1 h2
end Go.Proofs.YtbccknhinmgibaaDoor

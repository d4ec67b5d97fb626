/- Layer 4's v and plus: the terms that they make. Layer 4's lists, and Function at it. Function at CONS.1 of layer 4's lists: it is from list to list. Layer 4's awake. Premise: the library's variables as they are laid. -/
import Derived.Test.YtdkgpnkcdnfniaaDoorTree
import Derived.BigQuiet
import Derived.Test.YtdkgpnkcdnfniaaDoorTSubA
import Derived.Test.YtdkgpnkcdnfniaaDoorTGreat
import Derived.Test.YtdkgpnkcdnfniaaDoorTKey
import Derived.Test.YtdkgpnkcdnfniaaDoorTLib
import Derived.Test.YtdkgpnkcdnfniaaDoorSameTs
import Derived.Deep.RegionHeld3
set_option linter.unusedVariables false
set_option linter.unusedSimpArgs false
namespace Go.Proofs.YtdkgpnkcdnfniaaDoor
open Go.RowKit

theorem row_no_digs (W : World) : Row W none (u32s []) := by
  intro i v h; simp [u32s] at h
theorem tms_none (W : World) (K : Option Addr) : TmsAt W K [] := by
  intro j t h; simp at h
set_option maxRecDepth 100000 in
set_option maxHeartbeats 3200000 in
theorem v_ok {w : World} {s : ByteArray} (hs : s.size ≤ 140737488355328) :
    Calls Tryd.prog 15 #[.string s] w fun e w' => ∃ u, e = .returned u ∧ TmV w' u (.mk 1 s false [] []) ∧ Below w.heap.size w w' := by
  have HS := Lib.hid hs
  clear hs
  go_enter Tryd.func15, Tryd.ntmps15
  go_wp2
  go_returns
  exact ⟨_, rfl, TmV.of (ds := []) (kids := []) rfl HS.out (row_no_digs _) (by intro d hd; simp at hd) (by simp) (by simp) (tms_none _ _), (Below.refl _ _).alloc (Nat.le_refl _) _⟩
set_option maxRecDepth 100000 in
set_option maxHeartbeats 3200000 in
theorem plus_ok {w : World} {K : Option Addr} {l : List Tm} {n c : Nat} (hn : n = l.length) (hl : TmsAt w K l) (hll : l.length ≤ 140737488355328) :
    Calls Tryd.prog 14 #[.slice K n c] w fun e w' => ∃ u, e = .returned u ∧ TmV w' u (.mk 5 ⟨#[]⟩ false [] l) ∧ Below w.heap.size w w' := by
  have HS := Lib.hid (show _ ∧ _ ∧ _ from ⟨hn, hl, hll⟩)
  clear hn hl hll
  go_enter Tryd.func14, Tryd.ntmps14
  go_wp2
  go_returns
  obtain ⟨rfl, hl, hll⟩ := HS.out
  exact ⟨_, rfl, TmV.of (ds := []) (kids := l) rfl (by decide) (row_no_digs _) (by intro d hd; simp at hd) (by simp) hll (hl.below ((Below.refl _ _).alloc (Nat.le_refl _) _)), (Below.refl _ _).alloc (Nat.le_refl _) _⟩
end Go.Proofs.YtdkgpnkcdnfniaaDoor

namespace Go.Proofs.YtdkgpnkcdnfniaaDoor
open Go.RowKit

theorem cell_keep {W : World} {a : Addr} {v : Value} (o : Obj) (h : W.cell? a = some v) : (W.alloc o).cell? a = some v :=
  (((Below.refl W.heap.size W).alloc (Nat.le_refl _) o).cell (cell_lt h)).trans h
theorem cell_new {W : World} {n j : Nat} {C : Array Value} {t : TypeId} {v : Value} (hn : n = W.heap.size) (hj : C[j]? = some v) : (W.alloc (.cells C t)).cell? ⟨n, j, none⟩ = some v := by
  rw [hn, World.cell?_alloc_new]; exact hj
theorem keep6 {W : World} {a : Addr} {v : Value} (o1 o2 o3 o4 o5 : Obj) (h : W.cell? a = some v) : (((((W.alloc o1).alloc o2).alloc o3).alloc o4).alloc o5).cell? a = some v :=
  cell_keep _ (cell_keep _ (cell_keep _ (cell_keep _ (cell_keep _ h))))
/-- The row of datas that lists makes, as far as Function looks at it for CONS. -/
def ListsAt (W : World) (v : Value) : Prop := ∃ K C F ck cc cf : Nat, v = .slice (some ⟨K, 0, none⟩) 2 ck ∧
  W.cell? ⟨K, 0, none⟩ = some (.string ⟨#[108, 105, 115, 116]⟩) ∧ W.cell? ⟨K, 1, none⟩ = some (.slice (some ⟨C, 0, none⟩) 2 cc) ∧
  W.cell? ⟨C, 0, none⟩ = some (.string ⟨#[78, 73, 76]⟩) ∧ W.cell? ⟨C, 1, none⟩ = some (.slice none 0 0) ∧
  W.cell? ⟨C, 2, none⟩ = some (.string ⟨#[67, 79, 78, 83]⟩) ∧ W.cell? ⟨C, 3, none⟩ = some (.slice (some ⟨F, 0, none⟩) 2 cf) ∧
  W.cell? ⟨F, 1, none⟩ = some (.string ⟨#[108, 105, 115, 116]⟩)
set_option maxRecDepth 100000 in
set_option maxHeartbeats 3200000 in
theorem lists_ok {w : World} :
    Calls Tryd.prog 17 #[] w fun e w' => ∃ u, e = .returned u ∧ ListsAt w' u ∧ Below w.heap.size w w' := by
  go_enter Tryd.func17, Tryd.ntmps17
  go_wp2
  go_returns
  refine ⟨.slice (some ⟨w.heap.size + 1 + 1 + 1 + 1 + 1, 0, none⟩) 2 2, rfl, ⟨w.heap.size + 1 + 1 + 1 + 1 + 1, w.heap.size + 1, w.heap.size, 2, 2, 2, rfl, ?_, ?_, ?_, ?_, ?_, ?_, ?_⟩, ?_⟩
  · exact cell_new (by simp) rfl
  · exact cell_new (j := 1) (by simp) rfl
  · exact cell_keep _ (cell_keep _ (cell_keep _ (cell_keep _ (cell_new (j := 0) (by simp) rfl))))
  · exact cell_keep _ (cell_keep _ (cell_keep _ (cell_keep _ (cell_new (j := 1) (by simp) rfl))))
  · exact cell_keep _ (cell_keep _ (cell_keep _ (cell_keep _ (cell_new (j := 2) (by simp) rfl))))
  · exact cell_keep _ (cell_keep _ (cell_keep _ (cell_keep _ (cell_new (j := 3) (by simp) rfl))))
  · exact keep6 _ _ _ _ _ (cell_new (j := 1) rfl rfl)
  · exact Below.alloc (Below.alloc (Below.alloc (Below.alloc (Below.alloc (Below.alloc (Below.refl _ _) (by simp) _) (by simp; try omega) _) (by simp; try omega) _) (by simp; try omega) _) (by simp; try omega) _) (by simp; try omega) _
end Go.Proofs.YtdkgpnkcdnfniaaDoor

namespace Go.Proofs.YtdkgpnkcdnfniaaDoor
open Go.RowKit

theorem Drawn.low {w w' : World} (h : Drawn w w') : Below w.heap.size w w' := by
  obtain ⟨m, rfl⟩ := h
  exact below_drewN (Below.refl _ _) m
end Go.Proofs.YtdkgpnkcdnfniaaDoor

namespace Go.Proofs.YtdkgpnkcdnfniaaDoor
open Go.RowKit

set_option maxRecDepth 100000 in
set_option maxHeartbeats 3200000 in
theorem cutF_ok {w : World} :
    Calls Tryd.prog 36 #[.string ⟨#[67, 79, 78, 83, 46, 49]⟩] w fun e w' => e = .returned (.tuple #[.string ⟨#[67, 79, 78, 83]⟩, .int .i64 1, .bool true]) ∧ Drawn w w' := by
  go_enter Tryd.func36, Tryd.ntmps36
  go_wp2
  go_quiet (fail)
  go_wp2
  go_returns
  refine ⟨?_, (Drawn.refl _).more nq⟩
  have e1 : (⟨#[67, 79, 78, 83, 46, 49]⟩ : ByteArray).extract 0 4 = ⟨#[67, 79, 78, 83]⟩ := by rfl
  have e2 : ((⟨#[67, 79, 78, 83, 46, 49]⟩ : ByteArray)[5].toNat : Int) - 48 = 1 := by rfl
  simp only [e1, e2]
  rfl
set_option maxRecDepth 100000 in
set_option maxHeartbeats 3200000 in
theorem con_ok {w : World} {v : Value} (h : ListsAt w v) :
    Calls Tryd.prog 37 #[v, .string ⟨#[67, 79, 78, 83]⟩] w fun e w' => ∃ F cf : Nat, e = .returned (.tuple #[.string ⟨#[108, 105, 115, 116]⟩, .slice (some ⟨F, 0, none⟩) 2 cf, .bool true]) ∧ w'.cell? ⟨F, 1, none⟩ = some (.string ⟨#[108, 105, 115, 116]⟩) ∧ Below w.heap.size w w' := by
  obtain ⟨K, C, Fb, ck, cc, cf, rfl, k0, k1, c0, c1, c2, c3, f1⟩ := h
  go_enter Tryd.func37, Tryd.ntmps37
  go_wp2
  go_loopw [13] (fun a wr => a = .int .i64 0 ∧ wr = w) (fun _ _ => 0)
  case atStart => exact ⟨rfl, rfl⟩
  case round =>
    obtain ⟨rfl, rfl⟩ := hrel
    obtain ⟨W1, hW1⟩ : ∃ W1, W1 = wr.alloc (.cells #[.string ⟨#[108, 105, 115, 116]⟩, .slice (some ⟨C, 0, none⟩) 2 cc] 67) := ⟨_, rfl⟩
    have HB : Below wr.heap.size wr W1 := by rw [hW1]; exact (Below.refl _ _).alloc (Nat.le_refl _) _
    have HF := Lib.hid (show _ ∧ _ ∧ _ ∧ _ ∧ _ ∧ _ ∧ _ ∧ Below wr.heap.size wr W1 ∧ wr.heap.size < W1.heap.size from ⟨(HB.cell (cell_lt c0)).trans c0, (HB.cell (cell_lt c1)).trans c1, (HB.cell (cell_lt c2)).trans c2, (HB.cell (cell_lt c3)).trans c3, (HB.cell (cell_lt f1)).trans f1, (show W1.cell? ⟨wr.heap.size, 0, none⟩ = some (.string ⟨#[108, 105, 115, 116]⟩) from by rw [hW1]; exact cell_new rfl rfl), (show W1.cell? ⟨wr.heap.size, 1, none⟩ = some (.slice (some ⟨C, 0, none⟩) 2 cc) from by rw [hW1]; exact cell_new rfl rfl), HB, by rw [hW1]; simp⟩)
    have b1 : (wr.alloc (.cells #[.string ⟨#[108, 105, 115, 116]⟩, .slice (some ⟨C, 0, none⟩) 2 cc] 67)).cell? ⟨wr.heap.size, 1, none⟩ = some (.slice (some ⟨C, 0, none⟩) 2 cc) := cell_new rfl rfl
    clear c0 c1 c2 c3 f1 HB
    go_wp2
    rw [← hW1]
    clear k0 k1 b1 hW1
    go_loopw [20] (fun a W => ∃ k : Nat, k ≤ 1 ∧ a = .int .i64 k ∧ Hid (Below W1.heap.size W1 W)) (fun a _ => 2 - (intOf a).toNat)
    case atStart => exact ⟨0, by omega, rfl, Lib.hid (Below.refl _ _)⟩
    case round =>
      obtain ⟨k, hk, rfl, HW⟩ := hrel
      obtain ⟨f0, f1, f2, f3, f4, f5, f6, f7, f8⟩ := HF.out
      have hb := HW.out
      have g0 := (hb.cell (cell_lt f0)).trans f0
      have g1 := (hb.cell (cell_lt f1)).trans f1
      have g2 := (hb.cell (cell_lt f2)).trans f2
      have g3 := (hb.cell (cell_lt f3)).trans f3
      have HR := Lib.hid (show _ ∧ _ ∧ _ ∧ _ from ⟨(hb.cell (cell_lt f4)).trans f4, (hb.cell (cell_lt f5)).trans f5, f7.trans (hb.mono (Nat.le_of_lt f8)), hb⟩)
      clear f0 f1 f2 f3 f4 f5 f6 f7 f8 hb
      rcases (by omega : k = 0 ∨ k = 1) with rfl | rfl
      · have a0 : (wr.alloc (.cells #[.string ⟨#[78, 73, 76]⟩, .slice none 0 0] 69)).cell? ⟨wr.heap.size, 0, none⟩ = some (.string ⟨#[78, 73, 76]⟩) := cell_new rfl rfl
        clear g2 g3 HR
        go_wp2
        go_roundw
        case rel => exact ⟨1, by omega, by go_num, Lib.hid (HW.out.alloc HW.out.size _)⟩
        case measure => first | (simp [intOf]; done) | (simp [intOf]; omega)
      · have a0 : (wr.alloc (.cells #[.string ⟨#[67, 79, 78, 83]⟩, .slice (some ⟨Fb, 0, none⟩) 2 cf] 69)).cell? ⟨wr.heap.size, 0, none⟩ = some (.string ⟨#[67, 79, 78, 83]⟩) := cell_new rfl rfl
        have a1 : (wr.alloc (.cells #[.string ⟨#[67, 79, 78, 83]⟩, .slice (some ⟨Fb, 0, none⟩) 2 cf] 69)).cell? ⟨wr.heap.size, 1, none⟩ = some (.slice (some ⟨Fb, 0, none⟩) 2 cf) := cell_new rfl rfl
        have a2 := cell_keep (.cells #[.string ⟨#[67, 79, 78, 83]⟩, .slice (some ⟨Fb, 0, none⟩) 2 cf] 69) HR.out.2.1
        clear g0 g1
        go_wp2
        go_quiet (fail)
        go_wp2
        go_returns
        refine ⟨Fb, cf, rfl, ?_, below_drewN (HR.out.2.2.1.alloc HR.out.2.2.1.size _) nq⟩
        rw [World.cell?_drewN]; exact cell_keep _ HR.out.1
theorem ListsAt.below {w w' : World} {v : Value} (h : ListsAt w v) (hb : Below w.heap.size w w') : ListsAt w' v := by
  obtain ⟨K, C, F, ck, cc, cf, e, k0, k1, c0, c1, c2, c3, f1⟩ := h
  exact ⟨K, C, F, ck, cc, cf, e, (hb.cell (cell_lt k0)).trans k0, (hb.cell (cell_lt k1)).trans k1, (hb.cell (cell_lt c0)).trans c0, (hb.cell (cell_lt c1)).trans c1, (hb.cell (cell_lt c2)).trans c2, (hb.cell (cell_lt c3)).trans c3, (hb.cell (cell_lt f1)).trans f1⟩
set_option maxRecDepth 100000 in
set_option maxHeartbeats 3200000 in
/-- Function at CONS.1. -/
theorem function_ok {w : World} {v : Value} (h : ListsAt w v) :
    Calls Tryd.prog 16 #[v, .string ⟨#[67, 79, 78, 83, 46, 49]⟩] w fun e w' => e = .returned (.tuple #[.string ⟨#[108, 105, 115, 116]⟩, .string ⟨#[108, 105, 115, 116]⟩, .bool true]) ∧ Below w.heap.size w w' := by
  have HL := Lib.hid h
  obtain ⟨K, C, F, ck, cc, cf, rfl, -⟩ := h
  go_enter Tryd.func16, Tryd.ntmps16
  go_wp2_with fail
  refine Calls.mono cutF_ok ?_
  rintro e w1 ⟨rfl, hd⟩
  have HB := Lib.hid hd.low
  clear hd
  go_wp2_with fail
  refine Calls.mono (con_ok (HL.out.below HB.out)) ?_
  rintro e w2 ⟨Fb, cg, rfl, f1, hb⟩
  have HB2 := Lib.hid (Below.trans HB.out (hb.mono HB.out.size))
  clear hb
  go_wp2
  go_quiet (fail)
  go_wp2
  go_returns
  exact ⟨rfl, below_drewN HB2.out nq⟩
end Go.Proofs.YtdkgpnkcdnfniaaDoor

namespace Go.Proofs.YtdkgpnkcdnfniaaDoor
open Go.RowKit

/-- Terms written out one behind the other. -/
theorem tms_two {w : World} {a b : Tm} {u0 u1 u2 u3 u4 v0 v1 v2 v3 v4 : Value} (ha : TmV w (.agg #[u0, u1, u2, u3, u4]) a) (hb : TmV w (.agg #[v0, v1, v2, v3, v4]) b) : TmsAt (w.alloc (.cells #[u0, u1, u2, u3, u4, v0, v1, v2, v3, v4] 28)) (some ⟨w.heap.size, 0, none⟩) [a, b] := fun j t hj => by
  have hz := heap_alloc_new w (.cells #[u0, u1, u2, u3, u4, v0, v1, v2, v3, v4] 28)
  match j, hj with
  | 0, hj =>
    have e : a = t := by simpa using hj
    subst e
    refine ⟨_, u0, u1, u2, u3, u4, rfl, ?_, ha.alloc _⟩
    rw [add_eq, add_eq, add_eq, add_eq, add_eq]
    exact ⟨cell_blk hz, cell_blk hz, cell_blk hz, cell_blk hz, cell_blk hz⟩
  | 1, hj =>
    have e : b = t := by simpa using hj
    subst e
    refine ⟨_, v0, v1, v2, v3, v4, rfl, ?_, hb.alloc _⟩
    rw [add_eq, add_eq, add_eq, add_eq, add_eq]
    exact ⟨cell_blk hz, cell_blk hz, cell_blk hz, cell_blk hz, cell_blk hz⟩
  | j + 2, hj => simp at hj
theorem tms_one {w : World} {a : Tm} {u0 u1 u2 u3 u4 : Value} (ha : TmV w (.agg #[u0, u1, u2, u3, u4]) a) : TmsAt (w.alloc (.cells #[u0, u1, u2, u3, u4] 28)) (some ⟨w.heap.size, 0, none⟩) [a] := fun j t hj => by
  have hz := heap_alloc_new w (.cells #[u0, u1, u2, u3, u4] 28)
  match j, hj with
  | 0, hj =>
    have e : a = t := by simpa using hj
    subst e
    refine ⟨_, u0, u1, u2, u3, u4, rfl, ?_, ha.alloc _⟩
    rw [add_eq, add_eq, add_eq, add_eq, add_eq]
    exact ⟨cell_blk hz, cell_blk hz, cell_blk hz, cell_blk hz, cell_blk hz⟩
  | j + 1, hj => simp at hj
/-- A value that stands for a term, with its cells. -/
theorem TmV.five {w : World} {u : Value} {t : Tm} (h : TmV w u t) : ∃ A K c c', u = .agg #[.int .u8 t.kind, .string t.name, .bool t.neg, .slice A t.ds.length c, .slice K t.kids.length c'] := by
  obtain ⟨A, K, c, c', e, _⟩ := h.parts
  exact ⟨A, K, c, c', e⟩
def nX : ByteArray := ⟨#[120]⟩
def nY : ByteArray := ⟨#[121]⟩
def tX : Tm := .mk 1 ⟨#[120]⟩ false [] []
def tY : Tm := .mk 1 ⟨#[121]⟩ false [] []
def tN : Tm := .mk 2 ⟨#[]⟩ false [1] []
def plusT (a b : Tm) : Tm := .mk 5 ⟨#[]⟩ false [] [a, b]
theorem sub_awake : subT (subFn [⟨#[120]⟩, ⟨#[121]⟩] [tY, tX]) (plusT tX tY) = plusT tY tX := by
  rfl
theorem vv_ok {w : World} {s : ByteArray} (hs : s.size ≤ 140737488355328) : Calls Tryd.prog 15 #[.string s] w fun e w' => ∃ A K c c', e = .returned (.agg #[.int .u8 1, .string s, .bool false, .slice A 0 c, .slice K 0 c']) ∧ TmV w' (.agg #[.int .u8 1, .string s, .bool false, .slice A 0 c, .slice K 0 c']) (.mk 1 s false [] []) ∧ Below w.heap.size w w' := by
  refine (v_ok hs).mono ?_
  rintro e w' ⟨u, rfl, ht, hb⟩
  obtain ⟨A, K, c, c', rfl⟩ := ht.five
  exact ⟨A, K, c, c', rfl, ht, hb⟩
theorem pp_ok {w : World} {g c : Nat} {a b : Tm} (hl : TmsAt w (some ⟨g, 0, none⟩) [a, b]) : Calls Tryd.prog 14 #[.slice (some ⟨g, 0, none⟩) 2 c] w fun e w' => ∃ A K c c', e = .returned (.agg #[.int .u8 5, .string ⟨#[]⟩, .bool false, .slice A 0 c, .slice K 2 c']) ∧ TmV w' (.agg #[.int .u8 5, .string ⟨#[]⟩, .bool false, .slice A 0 c, .slice K 2 c']) (plusT a b) ∧ Below w.heap.size w w' := by
  refine (plus_ok (l := [a, b]) rfl hl (by simp)).mono ?_
  rintro e w' ⟨u, rfl, ht, hb⟩
  obtain ⟨A, K, c, c', rfl⟩ := ht.five
  exact ⟨A, K, c, c', rfl, ht, hb⟩
theorem key_x {w : World} {u0 u1 u2 u3 u4 : Value} (ht : TmV w (.agg #[u0, u1, u2, u3, u4]) tX) (htab : TabM w.heap.size w) : Calls Tryd.prog 6 #[.agg #[u0, u1, u2, u3, u4]] w fun e w' => e = .returned (.string ⟨#[49, 32, 49, 58, 120, 32, 32, 48, 59]⟩) ∧ Below w.heap.size w w' := by
  have e : (⟨(keyK (preT tX)).toArray⟩ : ByteArray) = ⟨#[49, 32, 49, 58, 120, 32, 32, 48, 59]⟩ := by kernel_rfl
  rw [← e]
  exact key_any ht (by decide) htab
theorem size_p {w : World} {g c : Nat} (hK : TmsAt w (some ⟨g, 0, none⟩) [plusT tX tN]) : Calls Tryd.prog 18 #[.slice (some ⟨g, 0, none⟩) 1 c] w fun e w' => e = .returned (.int .i64 3) ∧ Below w.heap.size w w' :=
  size_any (l := [plusT tX tN]) (by decide) hK
theorem same_p {w : World} {v1 v2 : Value} (h1 : TmV w v1 (plusT tY tX)) (h2 : TmV w v2 (plusT tY tX)) : Calls Tryd.prog 10 #[v1, v2] w fun e w' => e = .returned (.bool true) ∧ Below w.heap.size w w' := by
  obtain ⟨r, hr, hC⟩ := sameTm 100 (plusT tY tX) (plusT tY tX) (by decide) (by decide)
  have : r = true := hr.2 rfl
  subst this
  exact hC w v1 v2 h1 h2
theorem num_tm {W : World} {b : Nat} (h : W.heap[b]? = some (.cells #[.int .u32 1] 42 (0, 0))) : TmV W (.agg #[.int .u8 2, .string ⟨#[]⟩, .bool false, .slice (some ⟨b, 0, none⟩) 1 1, .slice none 0 0]) tN :=
  TmV.of (ds := [1]) (kids := []) rfl (by decide) (fun j v hj => by
    refine ⟨_, rfl, ?_⟩
    rw [add_eq, Nat.zero_add]
    match j, hj with
    | 0, hj => exact (cell_blk h).trans hj
    | j + 1, hj => simp [u32s] at hj) (by intro d hd; simp at hd; subst hd; decide) (by decide) (by decide) (tms_none _ _)
set_option maxRecDepth 100000 in
set_option maxHeartbeats 6400000 in
theorem awake4_ok {w : World} (hM : TabM w.heap.size w) : Calls Tryd.prog 5 #[] w fun e w' => e = .returned (.bool true) ∧ Below w.heap.size w w' := by
  have HM := Lib.hid hM
  clear hM
  go_enter Tryd.func5, Tryd.ntmps5
  go_wp2_with fail
  refine (vv_ok (by decide)).mono ?_
  rintro e w1 ⟨A1, K1, c1, d1, rfl, ht1, hb1⟩
  have H1 := Lib.hid (show _ ∧ _ from ⟨ht1, hb1⟩)
  clear ht1 hb1
  go_wp2_with fail
  refine (vv_ok (by decide)).mono ?_
  rintro e w2 ⟨A2, K2, c2, d2, rfl, ht2, hb2⟩
  have H2 := Lib.hid (show _ ∧ _ from ⟨ht2, hb2⟩)
  clear ht2 hb2
  go_wp2_with fail
  refine (pp_ok (tms_two (H1.out.1.bel H2.out.2) H2.out.1)).mono ?_
  rintro e w3 ⟨A3, K3, c3, d3, rfl, ht3, hb3⟩
  have H3 := Lib.hid (show _ ∧ _ from ⟨ht3, hb3⟩)
  clear ht3 hb3
  go_wp2_with fail
  refine (vv_ok (by decide)).mono ?_
  rintro e w4 ⟨A4, K4, c4, d4, rfl, ht4, hb4⟩
  have H4 := Lib.hid (show _ ∧ _ from ⟨ht4, hb4⟩)
  clear ht4 hb4
  go_wp2_with fail
  refine (vv_ok (by decide)).mono ?_
  rintro e w5 ⟨A5, K5, c5, d5, rfl, ht5, hb5⟩
  have H5 := Lib.hid (show _ ∧ _ from ⟨ht5, hb5⟩)
  clear ht5 hb5
  go_wp2_with fail
  have hz5 : (w5.alloc (.cells #[.int .u8 1, .string ⟨#[121]⟩, .bool false, .slice A4 0 c4, .slice K4 0 d4, .int .u8 1, .string ⟨#[120]⟩, .bool false, .slice A5 0 c5, .slice K5 0 d5] 28)).heap[w3.heap.size]? = some (.cells #[.string ⟨#[120]⟩, .string ⟨#[121]⟩] 9 (0, 0)) := by
    have z0 := heap_alloc_new w3 (.cells #[.string ⟨#[120]⟩, .string ⟨#[121]⟩] 9)
    have z1 := (H4.out.2.block w3.heap.size (Own.lt.cell_lt' z0)).trans z0
    have z2 := (H5.out.2.block w3.heap.size (Own.lt.cell_lt' z1)).trans z1
    exact (Below.heap_alloc _ _ _ (Own.lt.cell_lt' z2)).trans z2
  have hp5 := (((H3.out.1.alloc (.cells #[.string ⟨#[120]⟩, .string ⟨#[121]⟩] 9)).bel H4.out.2).bel H5.out.2).alloc (.cells #[.int .u8 1, .string ⟨#[121]⟩, .bool false, .slice A4 0 c4, .slice K4 0 d4, .int .u8 1, .string ⟨#[120]⟩, .bool false, .slice A5 0 c5, .slice K5 0 d5] 28)
  have hS := subst_ok (kn := some ⟨w3.heap.size, 0, none⟩) (nn := 2) (cn := 2) (ct2 := 2) (nm := [⟨#[120]⟩, ⟨#[121]⟩]) (names := [⟨#[120]⟩, ⟨#[121]⟩]) (ts := [tY, tX]) (t := plusT tX tY) hp5 (tms_two (H4.out.1.bel H5.out.2) H5.out.1) (fun j v hj => by
    refine ⟨_, rfl, ?_⟩
    rw [add_eq, Nat.zero_add]
    match j, hj with
    | 0, hj => exact (cell_blk hz5).trans hj
    | 1, hj => exact (cell_blk hz5).trans hj
    | j + 2, hj => simp at hj) (fun h => by cases h) rfl (by decide) rfl (by decide) (by intro s hs; simp at hs; rcases hs with rfl | rfl <;> decide) (by rw [sub_awake]; decide) ⟨by decide, by decide⟩
  rw [sub_awake] at hS
  have HS := Lib.hid hS
  clear hz5 hp5 hS
  refine HS.out.mono ?_
  rintro e w6 ⟨y0, y1, y2, y3, y4, rfl, ht6, hb6⟩
  obtain ⟨A6, K6, c6, d6, e6⟩ := ht6.five
  simp only [Value.agg.injEq, Array.mk.injEq, List.cons.injEq, and_true] at e6
  obtain ⟨rfl, rfl, rfl, rfl, rfl⟩ := e6
  have H6 := Lib.hid (show _ ∧ _ from ⟨ht6, hb6⟩)
  clear ht6 hb6 HS
  go_wp2_with fail
  refine lists_ok.mono ?_
  rintro e w8 ⟨ul, rfl, hl8, hb8⟩
  have H8 := Lib.hid (show _ ∧ _ from ⟨hl8, hb8⟩)
  clear hl8 hb8
  go_wp2_with fail
  refine (function_ok H8.out.1).mono ?_
  rintro e w9 ⟨rfl, hb9⟩
  have H9 := Lib.hid hb9
  clear hb9
  have hs0 : (((w.alloc (.cells #[.int .u32 1] 42)).alloc (.cells #[.int .u8 2, .string ⟨#[]⟩, .bool false, .slice (some ⟨w.heap.size, 0, none⟩) 1 1, .slice none 0 0] 28))).heap.size = w.heap.size + 2 := by rw [World.size_alloc, World.size_alloc]
  obtain ⟨z0, z1, _, zb⟩ := two_allocK w (.cells #[.int .u32 1] 42) (.cells #[.int .u8 2, .string ⟨#[]⟩, .bool false, .slice (some ⟨w.heap.size, 0, none⟩) 1 1, .slice none 0 0] 28)
  go_wp2_with fail
  have b1 := H1.out.2
  have b2 := bstep b1 H2.out.2
  have b3 := bstep (bal b2 _) H3.out.2
  have b4 := bstep (bal b3 _) H4.out.2
  have b5 := bstep b4 H5.out.2
  have b6 := bstep (bal b5 _) H6.out.2
  have b8 := bstep (bal b6 _) H8.out.2
  have b9 := bstep b8 H9.out
  rw [hs0] at b9
  have y0 : w9.heap[w.heap.size]? = some (.cells #[.int .u32 1] 42 (0, 0)) := (b9.block _ (by omega)).trans z0
  have y1 : w9.heap[w.heap.size + 1]? = some (.cells #[.int .u8 2, .string ⟨#[]⟩, .bool false, .slice (some ⟨w.heap.size, 0, none⟩) 1 1, .slice none 0 0] 28 (0, 0)) := (b9.block _ (by omega)).trans z1
  have s0 := heap_alloc_new w6 (.cells #[.int .u8 (plusT tY tX).kind, .string (plusT tY tX).name, .bool (plusT tY tX).neg, .slice A6 (plusT tY tX).ds.length c6, .slice K6 (plusT tY tX).kids.length d6] 28)
  have s8 := bstep H8.out.2 H9.out
  have s9 := (s8.block _ (Own.lt.cell_lt' s0)).trans s0
  have HB := Lib.hid (show TmV w9 (.agg #[.int .u8 2, .string ⟨#[]⟩, .bool false, .slice (some ⟨w.heap.size, 0, none⟩) 1 1, .slice none 0 0]) tN ∧ TmV w9 (.agg #[.int .u8 (plusT tY tX).kind, .string (plusT tY tX).name, .bool (plusT tY tX).neg, .slice A6 (plusT tY tX).ds.length c6, .slice K6 (plusT tY tX).kids.length d6]) (plusT tY tX) ∧ Below w.heap.size w w9 from ⟨num_tm y0, (H6.out.1.alloc _).bel s8, zb.trans (b9.mono (by omega))⟩)
  have HK := Lib.hid (show ∀ w' : World, Below w9.heap.size w9 w' → w'.cell? ⟨w.heap.size + 1, 0, none⟩ = some (.int .u8 2) ∧ w'.cell? ⟨w.heap.size + 1, 1, none⟩ = some (.string ⟨#[]⟩) ∧ w'.cell? ⟨w.heap.size + 1, 2, none⟩ = some (.bool false) ∧ w'.cell? ⟨w.heap.size + 1, 3, none⟩ = some (.slice (some ⟨w.heap.size, 0, none⟩) 1 1) ∧ w'.cell? ⟨w.heap.size + 1, 4, none⟩ = some (.slice none 0 0) ∧ w'.cell? ⟨w6.heap.size, 0, none⟩ = some (.int .u8 (plusT tY tX).kind) ∧ w'.cell? ⟨w6.heap.size, 1, none⟩ = some (.string (plusT tY tX).name) ∧ w'.cell? ⟨w6.heap.size, 2, none⟩ = some (.bool (plusT tY tX).neg) ∧ w'.cell? ⟨w6.heap.size, 3, none⟩ = some (.slice A6 (plusT tY tX).ds.length c6) ∧ w'.cell? ⟨w6.heap.size, 4, none⟩ = some (.slice K6 (plusT tY tX).kids.length d6) from fun w' hb' => by
    have q1 := (hb'.block _ (Own.lt.cell_lt' y1)).trans y1
    have q2 := (hb'.block _ (Own.lt.cell_lt' s9)).trans s9
    exact ⟨cell_blk q1, cell_blk q1, cell_blk q1, cell_blk q1, cell_blk q1, cell_blk q2, cell_blk q2, cell_blk q2, cell_blk q2, cell_blk q2⟩)
  clear b1 b2 b3 b4 b5 b6 b8 b9 y0 y1 s0 s8 s9 z0 z1 zb hs0 H1 H2 H3 H4 H5 H6 H8 H9
  go_region_held3 (fun w' => w'.cell? ⟨w.heap.size + 1, 0, none⟩ = some (.int .u8 2) ∧ w'.cell? ⟨w.heap.size + 1, 1, none⟩ = some (.string ⟨#[]⟩) ∧ w'.cell? ⟨w.heap.size + 1, 2, none⟩ = some (.bool false) ∧ w'.cell? ⟨w.heap.size + 1, 3, none⟩ = some (.slice (some ⟨w.heap.size, 0, none⟩) 1 1) ∧ w'.cell? ⟨w.heap.size + 1, 4, none⟩ = some (.slice none 0 0) ∧ w'.cell? ⟨w6.heap.size, 0, none⟩ = some (.int .u8 (plusT tY tX).kind) ∧ w'.cell? ⟨w6.heap.size, 1, none⟩ = some (.string (plusT tY tX).name) ∧ w'.cell? ⟨w6.heap.size, 2, none⟩ = some (.bool (plusT tY tX).neg) ∧ w'.cell? ⟨w6.heap.size, 3, none⟩ = some (.slice A6 (plusT tY tX).ds.length c6) ∧ w'.cell? ⟨w6.heap.size, 4, none⟩ = some (.slice K6 (plusT tY tX).kids.length d6))
    (first
      | exact HK.out _ ((Below.refl _ _).drew)
      | exact HK.out _ KX.out
      | exact HK.out _ V4.out.2
      | exact HK.out _ SM.out
      | exact HK.out _ P2.out.2
      | exact HK.out _ (bal V3.out.2.2 _)
      | exact HK.out _ V3.out.2.2
      | exact HK.out _ V2.out.2
      | exact HK.out _ Z1.out
      | exact HK.out _ (bal P1.out.2 _)
      | exact HK.out _ P1.out.2
      | exact HK.out _ (bal V1.out.2 _)
      | exact HK.out _ V1.out.2
      | go_keep)
    (first
      | (go_at_call 6; refine (key_x V4.out.1 (HM.out.on (HB.out.2.2.trans (V4.out.2.mono HB.out.2.2.size)) (Nat.le_trans HB.out.2.2.size V4.out.2.size))).mono ?_; rintro e wi ⟨rfl, hbi⟩; have KX := Lib.hid (show Below w9.heap.size w9 wi from bstep V4.out.2 hbi); clear hbi)
      | (go_at_call 15; refine (vv_ok (w := wg) (by decide)).mono ?_; rintro e wh ⟨Ah, Kh, ch, dh, rfl, hth, hbh⟩; have V4 := Lib.hid (show TmV wh _ tX ∧ Below w9.heap.size w9 wh from ⟨hth, bstep SM.out hbh⟩); clear hth hbh)
      | (go_at_call 10; refine (same_p (HB.out.2.1.bel P2.out.2) P2.out.1).mono ?_; rintro e wg ⟨rfl, hbg⟩; have SM := Lib.hid (show Below w9.heap.size w9 wg from bstep P2.out.2 hbg); clear hbg)
      | (go_at_call 14; refine (pp_ok (tms_two V3.out.2.1 V3.out.1)).mono ?_; rintro e wf ⟨Af, Kf, cf, df, rfl, htf, hbf⟩; have P2 := Lib.hid (show TmV wf _ (plusT tY tX) ∧ Below w9.heap.size w9 wf from ⟨htf, bstep (bal V3.out.2.2 _) hbf⟩); clear htf hbf)
      | (go_at_call 15; refine (vv_ok (w := wd) (by decide)).mono ?_; rintro e we ⟨Ae, Ke, ce, de, rfl, hte, hbe⟩; have V3 := Lib.hid (show TmV we _ tX ∧ TmV we _ tY ∧ Below w9.heap.size w9 we from ⟨hte, V2.out.1.bel hbe, bstep V2.out.2 hbe⟩); clear hte hbe)
      | (go_at_call 15; refine (vv_ok (w := wc) (by decide)).mono ?_; rintro e wd ⟨Ad, Kd, cd, dd, rfl, htd, hbd⟩; have V2 := Lib.hid (show TmV wd _ tY ∧ Below w9.heap.size w9 wd from ⟨htd, bstep Z1.out hbd⟩); clear htd hbd)
      | (go_at_call 18; refine (size_p (tms_one P1.out.1)).mono ?_; rintro e wc ⟨rfl, hbc⟩; have Z1 := Lib.hid (show Below w9.heap.size w9 wc from bstep (bal P1.out.2 _) hbc); clear hbc)
      | (go_at_call 14; refine (pp_ok (tms_two V1.out.1 (HB.out.1.bel V1.out.2))).mono ?_; rintro e wb ⟨Ab, Kb, cb, db, rfl, htb, hbb⟩; have P1 := Lib.hid (show TmV wb _ (plusT tX tN) ∧ Below w9.heap.size w9 wb from ⟨htb, bstep (bal V1.out.2 _) hbb⟩); clear htb hbb)
      | (go_at_call 15; refine (vv_ok (w := w9.drew) (by decide)).mono ?_; rintro e wa ⟨Aa, Ka, ca, da, rfl, hta, hba⟩; have V1 := Lib.hid (show TmV wa _ tX ∧ Below w9.heap.size w9 wa from ⟨hta, ((Below.refl _ _).drew).trans hba⟩); clear hta hba))
  all_goals (have HE := Lib.hid (HB.out.2.2.trans (KX.out.mono HB.out.2.2.size)); clear HB HK V1 P1 Z1 V2 V3 P2 SM V4 KX HM)
  all_goals go_wp2
  all_goals go_returns
  all_goals exact ⟨rfl, HE.out⟩
end Go.Proofs.YtdkgpnkcdnfniaaDoor

/- Package term's gatherer: what is told of a part out of what is told of its kids. Condition: of sizes. -/
import Derived.Test.YtlikpnaffpngiaaGreatDoorSLeave
import Derived.Deep.RegionHeldLaw
import Derived.Deep.AppendLies
set_option linter.unusedVariables false
set_option linter.unusedSimpArgs false
namespace Go.Proofs.YtlikpnaffpngiaaGreatDoor
open Go.RowKit

theorem info_strK : (Tryz.prog.info? 9).map (fun i => (i.zero, i.size, i.bytes)) = some (some (.string ⟨#[]⟩), 1, 16) := by kernel_rfl
/-- A row's beginning. -/
theorem own_take {W : World} {B n m : Nat} {g : Addr} {cap : Nat} {T : TypeId} {xs : List Value} (h : W.ownsRow B T 1 (.slice (some g) n cap) n xs) (hm : m ≤ n) : W.ownsRow B T 1 (.slice (some g) m cap) m (xs.take m) := by
  have hl : xs.length = n * 1 := h.1
  refine ⟨by rw [List.length_take]; omega, ?_⟩
  rcases h.2 with ⟨e, _⟩ | ⟨g', cap', cur, e, hB, hg, hle, h1, h2, h3⟩
  · cases e
  · injection e with e1 e2 e3
    injection e1 with e1
    subst e1; subst e3
    refine .inr ⟨g', cap, cur, rfl, hB, hg, by omega, h1, h2, ?_⟩
    rw [← h3, List.take_take]
    congr 1
    omega
theorem own_drop {W : World} {B n m cap : Nat} {g : Nat} {T : TypeId} {xs : List Value} (h : W.ownsRow B T 1 (.slice (some ⟨g, 0, none⟩) n cap) n xs) (hm : m ≤ n) : Row W (some ⟨g, m, none⟩) (xs.drop m) := fun j v hj => by
  have hl : xs.length = n * 1 := h.1
  rw [List.getElem?_drop] at hj
  have hjl := (List.getElem?_eq_some_iff.1 hj).1
  have := World.ownsRow.cellAt h (m + j) (by omega)
  rw [hj] at this
  refine ⟨_, rfl, ?_⟩
  simpa [add_eq] using this
/-- What telling asks: the gatherer's block gs, the boxes of its closure, what was told so far. -/
structure TellIn (w : World) (B gs bg bl : Nat) (vw vt vD vS : Value) (told : List ByteArray) (D : List DtT) (S : List (ByteArray × ByteArray)) : Prop where
  g : WK w gs vw 107 [vt, vD, vS]
  bgc : w.heap[bg]? = some (.cells #[.pointer (some ⟨gs, 0, none⟩)] 134 (0, 0))
  blc : w.heap[bl]? = some (.cells #[.func (.func 63) #[.pointer (some ⟨gs, 0, none⟩)] #[] ] 119 (0, 0))
  row : w.ownsRow B 9 1 vt told.length (told.map Value.string)
  srt : SorterAt w gs D S
  ne : bg ≠ gs ∧ bl ≠ gs
  lo : gs < B ∧ bg < B ∧ bl < B
  size : B ≤ w.heap.size
/-- Behind it. -/
structure TellOut (w : World) (B gs : Nat) (vw vt vD vS : Value) (told : List ByteArray) (w' : World) (vt' : Value) : Prop where
  g : WK w' gs vw 107 [vt', vD, vS]
  row : w'.ownsRow B 9 1 vt' told.length (told.map Value.string)
  turned : Turned gs vt vt' w w'
theorem tell_out {w w1 w2 : World} {B gs g cap n m : Nat} {A : Option Addr} {c : Nat} {vw vD vS : Value} {told : List ByteArray} {s : ByteArray} (hg : WK w gs vw 107 [.slice A n c, vD, vS]) (hgB : gs < B) (hB : B ≤ w.heap.size) (hown : ∀ k, (Value.slice A n c).ownBlock = some k → B ≤ k) (hb1 : Below w.heap.size w w1) (hr : w2.ownsRow B 9 1 (.slice (some ⟨g, 0, none⟩) (m + 1) cap) (m + 1) ((told.map Value.string).take m ++ [.string s])) (hm : m ≤ told.length) (hm2 : (told.take m).length = m)
    (hg2 : (w1.alloc (.cells #[.string s] 9)).grownBy w2 (Value.slice A n c).ownBlock) (hw : (Value.slice A n c).ownBlock = some g ∨ g = w1.heap.size + 1) : TellOut w B gs vw (.slice A n c) vD vS (told.take m ++ [s]) (w2.setCell ⟨gs, 1, none⟩ (.slice (some ⟨g, 0, none⟩) (m + 1) cap)) (.slice (some ⟨g, 0, none⟩) (m + 1) cap) := by
  have hs1 := hb1.size
  have hsz : (w1.alloc (.cells #[.string s] 9)).heap.size = w1.heap.size + 1 := World.size_alloc ..
  have hgl : gs < w.heap.size := hg.lt
  have k2 : ∀ k, k < w.heap.size → (Value.slice A n c).ownBlock ≠ some k → w2.heap[k]? = w.heap[k]? := fun k hk hne => (hg2.block k (by rw [hsz]; omega) fun e => hne e.symm).trans ((Below.heap_alloc _ _ _ (by omega)).trans (hb1.block k hk))
  have hngs : (Value.slice A n c).ownBlock ≠ some gs := fun e => by have := hown gs e; omega
  have hs2 : w1.heap.size + 1 ≤ w2.heap.size := by have := hg2.size; rw [hsz] at this; exact this
  have hgg : gs ≠ g := fun e => by
    rcases hw with hw | hw
    · exact hngs (by rw [hw, e])
    · omega
  refine ⟨?_, ?_, ?_⟩
  · have h2 : WK w2 gs vw 107 [.slice A n c, vD, vS] := hg.to (k2 gs hgl hngs)
    unfold WK at h2 ⊢
    simp [World.setCell, Array.getElem?_modify, h2]
  · have h3 : w2.ownsRow B 9 1 (.slice (some ⟨g, 0, none⟩) (m + 1) cap) (told.take m ++ [s]).length ((told.take m ++ [s]).map Value.string) := by
      rw [List.length_append, hm2, List.map_append, List.map_take]
      exact hr
    have := own_keep (w' := w2.setCell ⟨gs, 1, none⟩ (.slice (some ⟨g, 0, none⟩) (m + 1) cap)) h3 fun k hk _ _ => by
      injection hk with hk
      exact Below.heap_setCell _ _ _ _ (by show k ≠ gs; omega)
    exact this
  · refine ⟨hg2.os.trans hb1.os, hg2.tape.trans hb1.tape, hg2.output.trans hb1.output, by simp; omega, fun k hk h1 h2 => (Below.heap_setCell _ _ _ _ h1).trans (k2 k hk h2), fun k hk => ?_⟩
    injection hk with hk
    have hk : g = k := hk
    rcases hw with hw | hw
    · exact .inl (by rw [hw, hk])
    · exact .inr (by omega)
/-- The closure's boxes lie apart from what an append turns. -/
theorem tell_kept {w w1 w2 : World} {s : ByteArray} {k B : Nat} {v : Value} (hb1 : Below w.heap.size w w1) (hg2 : (w1.alloc (.cells #[.string s] 9)).grownBy w2 v.ownBlock) (hk : k < B) (hB : B ≤ w.heap.size) (hv : ∀ k, v.ownBlock = some k → B ≤ k) : w2.heap[k]? = w.heap[k]? := by
  have hs1 := hb1.size
  have hsz : (w1.alloc (.cells #[.string s] 9)).heap.size = w1.heap.size + 1 := World.size_alloc ..
  exact (hg2.block k (by rw [hsz]; omega) fun e => by have := hv k e.symm; omega).trans ((Below.heap_alloc _ _ _ (by omega)).trans (hb1.block k (by omega)))
theorem tell_cells {w w1 w2 : World} {B gs bg bl : Nat} {vw vt vD vS v : Value} {told : List ByteArray} {D : List DtT} {S : List (ByteArray × ByteArray)} {s : ByteArray} (h : TellIn w B gs bg bl vw vt vD vS told D S) (hb1 : Below w.heap.size w w1) (hg2 : (w1.alloc (.cells #[.string s] 9)).grownBy w2 v.ownBlock) (hv : ∀ k, v.ownBlock = some k → B ≤ k) :
    w2.cell? ⟨bg, 0, none⟩ = some (.pointer (some ⟨gs, 0, none⟩)) ∧ w2.cell? ⟨bl, 0, none⟩ = some (.func (.func 63) #[.pointer (some ⟨gs, 0, none⟩)] #[]) :=
  ⟨cell_one0 ((tell_kept hb1 hg2 h.lo.2.1 h.size hv).trans h.bgc), cell_one0 ((tell_kept hb1 hg2 h.lo.2.2 h.size hv).trans h.blc)⟩
theorem tell_cells2 {w2 : World} {gs bg bl : Nat} {a b v : Value} (hne : bg ≠ gs ∧ bl ≠ gs) (h : w2.cell? ⟨bg, 0, none⟩ = some a ∧ w2.cell? ⟨bl, 0, none⟩ = some b) : (w2.setCell ⟨gs, 1, none⟩ v).cell? ⟨bg, 0, none⟩ = some a ∧ (w2.setCell ⟨gs, 1, none⟩ v).cell? ⟨bl, 0, none⟩ = some b :=
  ⟨(cell_other fun e => by injection e with e; exact hne.1 e).trans h.1, (cell_other fun e => by injection e with e; exact hne.2 e).trans h.2⟩
theorem tell_told {w w1 w2 : World} {B gs : Nat} {v u : Value} {s : ByteArray} (hx : ∀ w', Below w.heap.size w w' → w'.cell? ⟨gs, 1, none⟩ = some u) (hb1 : Below w.heap.size w w1) (hg2 : (w1.alloc (.cells #[.string s] 9)).grownBy w2 v.ownBlock) (hk : gs < B) (hB : B ≤ w.heap.size) (hv : ∀ k, v.ownBlock = some k → B ≤ k) (hc : w.cell? ⟨gs, 1, none⟩ = some u) : w2.cell? ⟨gs, 1, none⟩ = some u :=
  (cell_congr (tell_kept hb1 hg2 hk hB hv)).trans hc
theorem tell_frozen {w w1 w2 : World} {B gs : Nat} {v vw : Value} {x : List Value} {s : ByteArray} (hg : WK w gs vw 107 x) (hb1 : Below w.heap.size w w1) (hg2 : (w1.alloc (.cells #[.string s] 9)).grownBy w2 v.ownBlock) (hk : gs < B) (hB : B ≤ w.heap.size) (hv : ∀ k, v.ownBlock = some k → B ≤ k) : w2.frozen? ⟨gs, 1, none⟩ = false := by
  have h2 : WK w2 gs vw 107 x := hg.to (tell_kept hb1 hg2 hk hB hv)
  unfold WK at h2
  simp [World.frozen?, h2]
set_option maxRecDepth 100000 in
set_option maxHeartbeats 6400000 in
theorem tell_some {w : World} {B gs bg bl g0 c : Nat} {vw vD vS : Value} {told : List ByteArray} {D : List DtT} {S : List (ByteArray × ByteArray)} {ad : Addr} {t : Tm} (h : TellIn w B gs bg bl vw (.slice (some ⟨g0, 0, none⟩) told.length c) vD vS told D S) (hp : PtrTm w ad t) (hkn : t.kids.length ≤ told.length) (hn1 : told.length ≤ 1000000) (h78 : t.kind = 7 ∨ t.kind = 8 → t.kids ≠ []) :
    Calls Tryz.prog 72 #[.pointer (some ad), .pointer (some ⟨bg, 0, none⟩), .pointer (some ⟨bl, 0, none⟩)] w fun e w' => Thrown (fun m w' => m ≠ 0 ∧ lvK D S t.kind t.name (told.drop (told.length - t.kids.length)) = none ∧ Below w.heap.size w w') e w' ∨ ((∃ u, e = .returned u) ∧ ∃ s vt', lvK D S t.kind t.name (told.drop (told.length - t.kids.length)) = some s ∧ TellOut w B gs vw (.slice (some ⟨g0, 0, none⟩) told.length c) vD vS (told.take (told.length - t.kids.length) ++ [s]) w' vt') := by
  obtain ⟨i0, hi, hz0, hz1, hz2⟩ := info_parts info_strK
  obtain ⟨A1, K, cA, cK, -, -, -, -, -, c4, -, -, -, -⟩ := ptr_cells hp
  obtain ⟨n, hn⟩ : ∃ n, n = told.length := ⟨_, rfl⟩
  obtain ⟨k, hk⟩ : ∃ k, k = t.kids.length := ⟨_, rfl⟩
  rw [← hk] at c4 hkn ⊢
  have hrow := h.row
  rw [← hn] at hkn hn1 hrow h ⊢
  have c0 : w.cell? ⟨bg, 0, none⟩ = some (.pointer (some ⟨gs, 0, none⟩)) := cell_one0 h.bgc
  have c1 : w.cell? ⟨bl, 0, none⟩ = some (.func (.func 63) #[.pointer (some ⟨gs, 0, none⟩)] #[]) := cell_one0 h.blc
  have c2 : w.cell? ⟨gs, 1, none⟩ = some (.slice (some ⟨g0, 0, none⟩) n c) := by
    have := h.g
    unfold WK at this
    simp [World.cell?, this]
  have hen : ∀ (args : Array Value) (w : World), (callFunc 63 args).run Tryz.prog w = .ok (.enter 63 args) w := run_enters (by kernel_rfl)
  have j1 : (k : Int) ≤ (n : Int) := by omega
  have j2 : 0 ≤ (n : Int) - (k : Int) := by omega
  have j3 : (n : Int) - (k : Int) ≤ (n : Int) := by omega
  have j4 : ((n : Int) - (k : Int)).toNat = n - k := by omega
  have j5 : (n : Int) ≤ 1000000 := by omega
  have j6 : 0 ≤ (n : Int) := by omega
  have j7 : 0 ≤ (k : Int) := by omega
  have j8 : n - (n - k) = k := by omega
  have j9 : n ≤ c := by
    rcases hrow.2 with ⟨e, _⟩ | ⟨g', cap', cur, e, _, _, hle, _⟩
    · cases e
    · injection e with _ _ e3
      omega
  have j10 : (n : Int) ≤ (c : Int) := by omega
  have j11 : (n : Int) - (k : Int) ≤ (c : Int) := by omega
  obtain ⟨K0, hK0⟩ : ∃ K0, K0 = if c = n - k then (some ⟨g0, 0, none⟩ : Option Addr) else some ⟨g0, n - k, none⟩ := ⟨_, rfl⟩
  have HL := Lib.hid (fun W (hW : Below w.heap.size w W) => leave_ok (w := W) (ad := ad) (K := K0) (c := c - (n - k)) (kids := told.drop (n - k)) (h.srt.sub (sub_below hW)) (hp.sub (sub_below hW)) (by
    rw [hK0]
    split
    · have h0 : told.drop (n - k) = [] := by rw [List.drop_eq_nil_iff]; omega
      rw [h0]
      intro j v hj
      cases hj
    · rw [List.map_drop]
      exact (own_drop hrow (by omega)).sub (sub_below hW)) (by rw [List.length_drop]; omega) (fun e h0 => h78 e (by
    have hl := congrArg List.length h0
    rw [List.length_drop, List.length_nil] at hl
    exact List.length_eq_zero_iff.1 (by omega))))
  have e1 : (told.drop (n - k)).length = k := by rw [List.length_drop]; omega
  rw [e1] at HL
  have HH := Lib.hid (show _ ∧ _ ∧ _ ∧ _ from ⟨h, hrow, hn, hk⟩)
  have HK := Lib.hid (fun w' (hb : Below w.heap.size w w') => (show w'.cell? ⟨bg, 0, none⟩ = some (.pointer (some ⟨gs, 0, none⟩)) ∧ w'.cell? ⟨bl, 0, none⟩ = some (.func (.func 63) #[.pointer (some ⟨gs, 0, none⟩)] #[]) from ⟨(hb.cell (cell_lt c0)).trans c0, (hb.cell (cell_lt c1)).trans c1⟩))
  have HC2 := Lib.hid c2
  clear h hp hkn hrow hn hk e1 h78
  go_enter Tryz.func72, Tryz.ntmps72
  go_wp2_with fail
  go_quiet (fail)
  go_wp2_with fail
  obtain ⟨wq, hwq⟩ : ∃ wq, wq = w.drewN nq := ⟨_, rfl⟩
  rw [← hwq]
  have hbq : Below w.heap.size w wq.drew := by rw [hwq]; exact (below_drewN (Below.refl _ _) nq).drew
  have r0 : wq.cell? ⟨bg, 0, none⟩ = some (.pointer (some ⟨gs, 0, none⟩)) := by rw [hwq]; exact c0
  have r1 : wq.cell? ⟨bl, 0, none⟩ = some (.func (.func 63) #[.pointer (some ⟨gs, 0, none⟩)] #[]) := by rw [hwq]; exact c1
  have r2 : wq.cell? ⟨gs, 1, none⟩ = some (.slice (some ⟨g0, 0, none⟩) n c) := by rw [hwq]; exact HC2.out
  have HBQ := Lib.hid hbq
  have HTC := Lib.hid (fun w' (hb : Below w.heap.size w w') => (hb.cell (cell_lt HC2.out)).trans HC2.out)
  have HRow := Lib.hid (fun w' (hb : Below w.heap.size w w') => (own_keep (w' := w') (own_take (m := n - k) HH.out.2.1 (by omega)) fun k _ _ hk => hb.block k hk))
  have HSy := Lib.hid (fun W (hW : Below w.heap.size w W) => (HL.out W hW).mono fun e w' h => (show (_ ∨ _) ∧ Below w.heap.size w w' from ⟨Or.symm h.1, hW.trans (h.2.mono hW.size)⟩))
  have hlo := HH.out.1.lo
  have hne := HH.out.1.ne
  have hBs := HH.out.1.size
  have hm1 : n - k + 1 ≤ maxLen := by unfold maxLen; omega
  have hm2 : (n - k + 1) * 16 ≤ 140737488355328 := by omega
  clear hbq hwq c0 c1 HL
  refine wp_region_held_drew (S := (fun w' => w'.cell? ⟨bg, 0, none⟩ = some (.pointer (some ⟨gs, 0, none⟩)) ∧ w'.cell? ⟨bl, 0, none⟩ = some (.func (.func 63) #[.pointer (some ⟨gs, 0, none⟩)] #[]))) (by kernel_rfl) ?_ (fun hHeld => ?_)
  · (first | exact HS4.out _ | exact HS3.out | exact HK.out _ (HB1.out.alloc HB1.out.size _) | exact HK.out _ HB1.out | exact HK.out _ HBQ.out | go_keep)
  refine' wpAnyH_take (i := 0) (v := _) rfl (by kernel_rfl) (by kernel_rfl) (by kernel_rfl) (fun _ _ _ h => h) (Or.inl ⟨by rfl, fun w hSw => ?hy1⟩) (by assumption) ?rest1
  case hy1 =>
    (try dsimp only at hSw)
    go_simp
    all_goals with_reducible rfl
  try simp only [Act.put, List.getElem_toArray, List.getElem_cons_zero, List.getElem_cons_succ, List.setIfInBounds_toArray, List.set_cons_zero, List.set_cons_succ]
  refine' wpAnyH_take (i := 1) (v := _) rfl (by kernel_rfl) (by kernel_rfl) (by kernel_rfl) (fun _ _ _ h => h) (Or.inl ⟨by rfl, fun w hSw => ?hy2⟩) (by assumption) ?rest2
  case hy2 =>
    (try dsimp only at hSw)
    go_simp
    all_goals with_reducible rfl
  try simp only [Act.put, List.getElem_toArray, List.getElem_cons_zero, List.getElem_cons_succ, List.setIfInBounds_toArray, List.set_cons_zero, List.set_cons_succ]
  refine' wpAnyH_take (i := 2) (v := _) rfl (by kernel_rfl) (by kernel_rfl) (by kernel_rfl) (fun _ _ _ h => h) (Or.inl ⟨by rfl, fun w hSw => ?hy3⟩) (by assumption) ?rest3
  case hy3 =>
    (try dsimp only at hSw)
    go_simp
    all_goals with_reducible rfl
  try simp only [Act.put, List.getElem_toArray, List.getElem_cons_zero, List.getElem_cons_succ, List.setIfInBounds_toArray, List.set_cons_zero, List.set_cons_succ]
  refine' wpAnyH_take (i := 3) (v := _) rfl (by kernel_rfl) (by kernel_rfl) (by kernel_rfl) (fun _ _ _ h => h) (Or.inl ⟨by rfl, fun w hSw => ?hy4⟩) (by assumption) ?rest4
  case hy4 =>
    (try dsimp only at hSw)
    go_simp
    all_goals with_reducible rfl
  try simp only [Act.put, List.getElem_toArray, List.getElem_cons_zero, List.getElem_cons_succ, List.setIfInBounds_toArray, List.set_cons_zero, List.set_cons_succ]
  refine' wpAnyH_take (i := 5) (v := _) rfl (by kernel_rfl) (by kernel_rfl) (by kernel_rfl) (fun _ _ _ h => h) (Or.inl ⟨by rfl, fun w hSw => ?hy5⟩) (by assumption) ?rest5
  case hy5 =>
    (try dsimp only at hSw)
    go_simp
    all_goals with_reducible rfl
  try simp only [Act.put, List.getElem_toArray, List.getElem_cons_zero, List.getElem_cons_succ, List.setIfInBounds_toArray, List.set_cons_zero, List.set_cons_succ]
  refine' wpAnyH_take (i := 7) (v := _) rfl (by kernel_rfl) (by kernel_rfl) (by kernel_rfl) (fun _ _ _ h => h) (Or.inl ⟨by rfl, fun w hSw => ?hy6⟩) (by assumption) ?rest6
  case hy6 =>
    (try dsimp only at hSw)
    go_simp
    all_goals with_reducible rfl
  try simp only [Act.put, List.getElem_toArray, List.getElem_cons_zero, List.getElem_cons_succ, List.setIfInBounds_toArray, List.set_cons_zero, List.set_cons_succ]
  refine' wpAnyH_take (i := 8) (v := _) rfl (by kernel_rfl) (by kernel_rfl) (by kernel_rfl) (fun _ _ _ h => h) (Or.inl ⟨by rfl, fun w hSw => ?hy7⟩) (by assumption) ?rest7
  case hy7 =>
    (try dsimp only at hSw)
    go_simp
    all_goals with_reducible rfl
  try simp only [Act.put, List.getElem_toArray, List.getElem_cons_zero, List.getElem_cons_succ, List.setIfInBounds_toArray, List.set_cons_zero, List.set_cons_succ]
  refine' wpAnyH_take (i := 9) (v := _) rfl (by kernel_rfl) (by kernel_rfl) (by kernel_rfl) (fun _ _ _ h => h) (Or.inl ⟨by rfl, fun w hSw => ?hy8⟩) (by assumption) ?rest8
  case hy8 =>
    (try dsimp only at hSw)
    go_simp
    all_goals with_reducible rfl
  try simp only [Act.put, List.getElem_toArray, List.getElem_cons_zero, List.getElem_cons_succ, List.setIfInBounds_toArray, List.set_cons_zero, List.set_cons_succ]
  refine' wpAnyH_take (i := 10) (v := _) rfl (by kernel_rfl) (by kernel_rfl) (by kernel_rfl) (fun _ _ _ h => h) (Or.inl ⟨by rfl, fun w hSw => ?hy9⟩) (by assumption) ?rest9
  case hy9 =>
    (try dsimp only at hSw)
    go_simp
    all_goals with_reducible rfl
  try simp only [Act.put, List.getElem_toArray, List.getElem_cons_zero, List.getElem_cons_succ, List.setIfInBounds_toArray, List.set_cons_zero, List.set_cons_succ]
  refine' wpAnyH_take (i := 11) (v := _) rfl (by kernel_rfl) (by kernel_rfl) (by kernel_rfl) (fun _ _ _ h => h) (Or.inl ⟨by rfl, fun w hSw => ?hy10⟩) (by assumption) ?rest10
  case hy10 =>
    (try dsimp only at hSw)
    go_simp
    all_goals with_reducible rfl
  try simp only [Act.put, List.getElem_toArray, List.getElem_cons_zero, List.getElem_cons_succ, List.setIfInBounds_toArray, List.set_cons_zero, List.set_cons_succ]
  refine' wpAnyH_take (i := 13) (v := _) rfl (by kernel_rfl) (by kernel_rfl) (by kernel_rfl) (fun _ _ _ h => h) (Or.inl ⟨by rfl, fun w hSw => ?hy11⟩) (by assumption) ?rest11
  case hy11 =>
    (try dsimp only at hSw)
    go_simp
    all_goals with_reducible rfl
  try simp only [Act.put, List.getElem_toArray, List.getElem_cons_zero, List.getElem_cons_succ, List.setIfInBounds_toArray, List.set_cons_zero, List.set_cons_succ]
  refine wpAnyH_ready (rs := [4, 12]) (by kernel_rfl) (by simp) ?_
  refine AllReadyH.cons rfl (fun K hK => ?_) (AllReadyH.cons rfl (fun K hK => ?_) AllReadyH.nil)
  · skip
    go_simp
    refine hK.out _ _ ?_ (fun hHeld' => ?_)
    · (try dsimp only)
      (first | exact HS4.out _ | exact HS3.out | exact HK.out _ (HB1.out.alloc HB1.out.size _) | exact HK.out _ HB1.out | exact HK.out _ HBQ.out | go_keep)
    clear hK K hHeld
    have hHeld := hHeld'
    clear hHeld'
    refine' wpAnyH_take (i := 6) (v := _) rfl (by kernel_rfl) (by kernel_rfl) (by kernel_rfl) (fun _ _ _ h => h) (Or.inl ⟨by rfl, fun w hSw => ?hy12⟩) (by assumption) ?rest12
    case hy12 =>
      (try dsimp only at hSw)
      go_simp
      all_goals with_reducible rfl
    try simp only [Act.put, List.getElem_toArray, List.getElem_cons_zero, List.getElem_cons_succ, List.setIfInBounds_toArray, List.set_cons_zero, List.set_cons_succ]
    refine wpAnyH_ready (rs := [12]) (by kernel_rfl) (by simp) ?_
    refine AllReadyH.cons rfl (fun K hK => ?_) AllReadyH.nil
    go_simp
    refine hK.out _ _ ?_ (fun hHeld' => ?_)
    · (try dsimp only)
      (first | exact HS4.out _ | exact HS3.out | exact HK.out _ (HB1.out.alloc HB1.out.size _) | exact HK.out _ HB1.out | exact HK.out _ HBQ.out | go_keep)
    clear hK K hHeld
    have hHeld := hHeld'
    clear hHeld'
    refine' wpAnyH_take (i := 14) (v := _) rfl (by kernel_rfl) (by kernel_rfl) (by kernel_rfl) (fun _ _ _ h => h) (Or.inl ⟨by rfl, fun w hSw => ?hy13⟩) (by assumption) ?rest13
    case hy13 =>
      (try dsimp only at hSw)
      go_simp
      all_goals with_reducible rfl
    try simp only [Act.put, List.getElem_toArray, List.getElem_cons_zero, List.getElem_cons_succ, List.setIfInBounds_toArray, List.set_cons_zero, List.set_cons_succ]
    refine wpAnyH_ready (rs := [15]) (by kernel_rfl) (by simp) ?_
    refine AllReadyH.cons rfl (fun K hK => ?_) AllReadyH.nil
    go_simp
    go_at_call 63; rw [← hK0]; refine (HSy.out wq.drew HBQ.out).mono ?_; rintro e w1 ⟨⟨hs, m, hm, rfl⟩ | ⟨s, hs, rfl⟩, hb⟩; exact ⟨rfl, Or.inl ⟨m, rfl, hm, hs, hb⟩⟩; have HO := Lib.hid hs; have HB1 := Lib.hid hb; have r3 := HTC.out w1 hb; have r6 := fun b => HTC.out _ (hb.alloc hb.size b); clear hs hb; dsimp only
    refine hK.out _ _ ?_ (fun hHeld' => ?_)
    · (try dsimp only)
      (first | exact HS4.out _ | exact HS3.out | exact HK.out _ (HB1.out.alloc HB1.out.size _) | exact HK.out _ HB1.out | exact HK.out _ HBQ.out | go_keep)
    clear hK K hHeld
    have hHeld := hHeld'
    clear hHeld'
    refine wpAnyH_ready (rs := [16]) (by kernel_rfl) (by simp) ?_
    refine AllReadyH.cons rfl (fun K hK => ?_) AllReadyH.nil
    go_simp
    refine hK.out _ _ ?_ (fun hHeld' => ?_)
    · (try dsimp only)
      (first | exact HS4.out _ | exact HS3.out | exact HK.out _ (HB1.out.alloc HB1.out.size _) | exact HK.out _ HB1.out | exact HK.out _ HBQ.out | go_keep)
    clear hK K hHeld
    have hHeld := hHeld'
    clear hHeld'
    refine wpAnyH_ready (rs := [17]) (by kernel_rfl) (by simp) ?_
    refine AllReadyH.cons rfl (fun K hK => ?_) AllReadyH.nil
    refine step_append_lies _ rfl (.tmp 22) (.tmp 32) 63 rfl B 9 i0 (.string ⟨#[]⟩) 1 16 Tryz.underlying63 hi hz0 hz1 hz2 rfl (by decide) (.slice (some ⟨g0, 0, none⟩) (n - k) c) (n - k) ((told.map Value.string).take (n - k)) rfl (HRow.out _ (HB1.out.alloc HB1.out.size _)) ⟨w1.heap.size, 0, none⟩ 1 1 [.string s] rfl rfl (World.news_of_block (heap_alloc_new w1 (.cells #[.string s] 9))) (by simp [Value.oneCell']) (by decide) hm1 hm2 (by have := HB1.out.size; rw [World.size_alloc]; omega) (w1.heap.size + 1) (World.size_alloc ..) ?_; intro g cap w2 hown hgrow hat hlt; have HS3 := Lib.hid (tell_cells (v := .slice (some ⟨g0, 0, none⟩) (n - k) c) HH.out.1 HB1.out hgrow (fun k hk => (World.ownsRow.lt HH.out.2.1 k hk).1)); have HS4 := Lib.hid (fun v => tell_cells2 (v := v) hne HS3.out); have HG := Lib.hid (show _ ∧ _ ∧ _ ∧ _ from ⟨hown, hgrow, hat, hlt⟩); have r4 := tell_told (v := .slice (some ⟨g0, 0, none⟩) (n - k) c) HTC.out HB1.out hgrow hlo.1 hBs (fun k hk => (World.ownsRow.lt HH.out.2.1 k hk).1) HC2.out; have r5 := tell_frozen (v := .slice (some ⟨g0, 0, none⟩) (n - k) c) HH.out.1.g HB1.out hgrow hlo.1 hBs (fun k hk => (World.ownsRow.lt HH.out.2.1 k hk).1); clear hown hgrow hat hlt
    refine hK.out _ _ ?_ (fun hHeld' => ?_)
    · (try dsimp only)
      (first | exact HS4.out _ | exact HS3.out | exact HK.out _ (HB1.out.alloc HB1.out.size _) | exact HK.out _ HB1.out | exact HK.out _ HBQ.out | go_keep)
    clear hK K hHeld
    have hHeld := hHeld'
    clear hHeld'
    refine' wpAnyH_take (i := 18) (v := _) rfl (by kernel_rfl) (by kernel_rfl) (by kernel_rfl) (fun _ _ _ h => h) (Or.inl ⟨by rfl, fun w hSw => ?hy14⟩) (by assumption) ?rest14
    case hy14 =>
      (try dsimp only at hSw)
      go_simp
      all_goals with_reducible rfl
    try simp only [Act.put, List.getElem_toArray, List.getElem_cons_zero, List.getElem_cons_succ, List.setIfInBounds_toArray, List.set_cons_zero, List.set_cons_succ]
    refine' wpAnyH_take (i := 19) (v := _) rfl (by kernel_rfl) (by kernel_rfl) (by kernel_rfl) (fun _ _ _ h => h) (Or.inl ⟨by rfl, fun w hSw => ?hy15⟩) (by assumption) ?rest15
    case hy15 =>
      (try dsimp only at hSw)
      go_simp
      all_goals with_reducible rfl
    try simp only [Act.put, List.getElem_toArray, List.getElem_cons_zero, List.getElem_cons_succ, List.setIfInBounds_toArray, List.set_cons_zero, List.set_cons_succ]
    refine wpAnyH_ready (rs := [20]) (by kernel_rfl) (by simp) ?_
    refine AllReadyH.cons rfl (fun K hK => ?_) AllReadyH.nil
    go_simp
    refine hK.out _ _ ?_ (fun hHeld' => ?_)
    · (try dsimp only)
      (first | exact HS4.out _ | exact HS3.out | exact HK.out _ (HB1.out.alloc HB1.out.size _) | exact HK.out _ HB1.out | exact HK.out _ HBQ.out | go_keep)
    clear hK K hHeld
    have hHeld := hHeld'
    clear hHeld'
    refine wpAnyH_done (by kernel_rfl) ?_ _
    rw [← hK0]
    go_wp2
    go_returns
    have hln := HH.out.2.2.1
    refine .inr ⟨⟨_, rfl⟩, s, _, HO.out, tell_out HH.out.1.g hlo.1 hBs (fun k hk => (World.ownsRow.lt HH.out.2.1 k hk).1) HB1.out HG.out.1 (by omega) (by rw [List.length_take]; omega) HG.out.2.1 HG.out.2.2.1⟩
  · skip
    go_simp
    refine hK.out _ _ ?_ (fun hHeld' => ?_)
    · (try dsimp only)
      (first | exact HS4.out _ | exact HS3.out | exact HK.out _ (HB1.out.alloc HB1.out.size _) | exact HK.out _ HB1.out | exact HK.out _ HBQ.out | go_keep)
    clear hK K hHeld
    have hHeld := hHeld'
    clear hHeld'
    refine' wpAnyH_take (i := 14) (v := _) rfl (by kernel_rfl) (by kernel_rfl) (by kernel_rfl) (fun _ _ _ h => h) (Or.inl ⟨by rfl, fun w hSw => ?hy16⟩) (by assumption) ?rest16
    case hy16 =>
      (try dsimp only at hSw)
      go_simp
      all_goals with_reducible rfl
    try simp only [Act.put, List.getElem_toArray, List.getElem_cons_zero, List.getElem_cons_succ, List.setIfInBounds_toArray, List.set_cons_zero, List.set_cons_succ]
    refine wpAnyH_ready (rs := [4, 15]) (by kernel_rfl) (by simp) ?_
    refine AllReadyH.cons rfl (fun K hK => ?_) (AllReadyH.cons rfl (fun K hK => ?_) AllReadyH.nil)
    · skip
      go_simp
      refine hK.out _ _ ?_ (fun hHeld' => ?_)
      · (try dsimp only)
        (first | exact HS4.out _ | exact HS3.out | exact HK.out _ (HB1.out.alloc HB1.out.size _) | exact HK.out _ HB1.out | exact HK.out _ HBQ.out | go_keep)
      clear hK K hHeld
      have hHeld := hHeld'
      clear hHeld'
      refine' wpAnyH_take (i := 6) (v := _) rfl (by kernel_rfl) (by kernel_rfl) (by kernel_rfl) (fun _ _ _ h => h) (Or.inl ⟨by rfl, fun w hSw => ?hy17⟩) (by assumption) ?rest17
      case hy17 =>
        (try dsimp only at hSw)
        go_simp
        all_goals with_reducible rfl
      try simp only [Act.put, List.getElem_toArray, List.getElem_cons_zero, List.getElem_cons_succ, List.setIfInBounds_toArray, List.set_cons_zero, List.set_cons_succ]
      refine wpAnyH_ready (rs := [15]) (by kernel_rfl) (by simp) ?_
      refine AllReadyH.cons rfl (fun K hK => ?_) AllReadyH.nil
      go_simp
      go_at_call 63; rw [← hK0]; refine (HSy.out wq.drew HBQ.out).mono ?_; rintro e w1 ⟨⟨hs, m, hm, rfl⟩ | ⟨s, hs, rfl⟩, hb⟩; exact ⟨rfl, Or.inl ⟨m, rfl, hm, hs, hb⟩⟩; have HO := Lib.hid hs; have HB1 := Lib.hid hb; have r3 := HTC.out w1 hb; have r6 := fun b => HTC.out _ (hb.alloc hb.size b); clear hs hb; dsimp only
      refine hK.out _ _ ?_ (fun hHeld' => ?_)
      · (try dsimp only)
        (first | exact HS4.out _ | exact HS3.out | exact HK.out _ (HB1.out.alloc HB1.out.size _) | exact HK.out _ HB1.out | exact HK.out _ HBQ.out | go_keep)
      clear hK K hHeld
      have hHeld := hHeld'
      clear hHeld'
      refine wpAnyH_ready (rs := [16]) (by kernel_rfl) (by simp) ?_
      refine AllReadyH.cons rfl (fun K hK => ?_) AllReadyH.nil
      go_simp
      refine hK.out _ _ ?_ (fun hHeld' => ?_)
      · (try dsimp only)
        (first | exact HS4.out _ | exact HS3.out | exact HK.out _ (HB1.out.alloc HB1.out.size _) | exact HK.out _ HB1.out | exact HK.out _ HBQ.out | go_keep)
      clear hK K hHeld
      have hHeld := hHeld'
      clear hHeld'
      refine wpAnyH_ready (rs := [17]) (by kernel_rfl) (by simp) ?_
      refine AllReadyH.cons rfl (fun K hK => ?_) AllReadyH.nil
      refine step_append_lies _ rfl (.tmp 22) (.tmp 32) 63 rfl B 9 i0 (.string ⟨#[]⟩) 1 16 Tryz.underlying63 hi hz0 hz1 hz2 rfl (by decide) (.slice (some ⟨g0, 0, none⟩) (n - k) c) (n - k) ((told.map Value.string).take (n - k)) rfl (HRow.out _ (HB1.out.alloc HB1.out.size _)) ⟨w1.heap.size, 0, none⟩ 1 1 [.string s] rfl rfl (World.news_of_block (heap_alloc_new w1 (.cells #[.string s] 9))) (by simp [Value.oneCell']) (by decide) hm1 hm2 (by have := HB1.out.size; rw [World.size_alloc]; omega) (w1.heap.size + 1) (World.size_alloc ..) ?_; intro g cap w2 hown hgrow hat hlt; have HS3 := Lib.hid (tell_cells (v := .slice (some ⟨g0, 0, none⟩) (n - k) c) HH.out.1 HB1.out hgrow (fun k hk => (World.ownsRow.lt HH.out.2.1 k hk).1)); have HS4 := Lib.hid (fun v => tell_cells2 (v := v) hne HS3.out); have HG := Lib.hid (show _ ∧ _ ∧ _ ∧ _ from ⟨hown, hgrow, hat, hlt⟩); have r4 := tell_told (v := .slice (some ⟨g0, 0, none⟩) (n - k) c) HTC.out HB1.out hgrow hlo.1 hBs (fun k hk => (World.ownsRow.lt HH.out.2.1 k hk).1) HC2.out; have r5 := tell_frozen (v := .slice (some ⟨g0, 0, none⟩) (n - k) c) HH.out.1.g HB1.out hgrow hlo.1 hBs (fun k hk => (World.ownsRow.lt HH.out.2.1 k hk).1); clear hown hgrow hat hlt
      refine hK.out _ _ ?_ (fun hHeld' => ?_)
      · (try dsimp only)
        (first | exact HS4.out _ | exact HS3.out | exact HK.out _ (HB1.out.alloc HB1.out.size _) | exact HK.out _ HB1.out | exact HK.out _ HBQ.out | go_keep)
      clear hK K hHeld
      have hHeld := hHeld'
      clear hHeld'
      refine' wpAnyH_take (i := 18) (v := _) rfl (by kernel_rfl) (by kernel_rfl) (by kernel_rfl) (fun _ _ _ h => h) (Or.inl ⟨by rfl, fun w hSw => ?hy18⟩) (by assumption) ?rest18
      case hy18 =>
        (try dsimp only at hSw)
        go_simp
        all_goals with_reducible rfl
      try simp only [Act.put, List.getElem_toArray, List.getElem_cons_zero, List.getElem_cons_succ, List.setIfInBounds_toArray, List.set_cons_zero, List.set_cons_succ]
      refine' wpAnyH_take (i := 19) (v := _) rfl (by kernel_rfl) (by kernel_rfl) (by kernel_rfl) (fun _ _ _ h => h) (Or.inl ⟨by rfl, fun w hSw => ?hy19⟩) (by assumption) ?rest19
      case hy19 =>
        (try dsimp only at hSw)
        go_simp
        all_goals with_reducible rfl
      try simp only [Act.put, List.getElem_toArray, List.getElem_cons_zero, List.getElem_cons_succ, List.setIfInBounds_toArray, List.set_cons_zero, List.set_cons_succ]
      refine wpAnyH_ready (rs := [20]) (by kernel_rfl) (by simp) ?_
      refine AllReadyH.cons rfl (fun K hK => ?_) AllReadyH.nil
      go_simp
      refine hK.out _ _ ?_ (fun hHeld' => ?_)
      · (try dsimp only)
        (first | exact HS4.out _ | exact HS3.out | exact HK.out _ (HB1.out.alloc HB1.out.size _) | exact HK.out _ HB1.out | exact HK.out _ HBQ.out | go_keep)
      clear hK K hHeld
      have hHeld := hHeld'
      clear hHeld'
      refine wpAnyH_done (by kernel_rfl) ?_ _
      rw [← hK0]
      go_wp2
      go_returns
      have hln := HH.out.2.2.1
      refine .inr ⟨⟨_, rfl⟩, s, _, HO.out, tell_out HH.out.1.g hlo.1 hBs (fun k hk => (World.ownsRow.lt HH.out.2.1 k hk).1) HB1.out HG.out.1 (by omega) (by rw [List.length_take]; omega) HG.out.2.1 HG.out.2.2.1⟩
    · skip
      go_simp
      go_at_call 63; rw [← hK0]; refine (HSy.out wq.drew HBQ.out).mono ?_; rintro e w1 ⟨⟨hs, m, hm, rfl⟩ | ⟨s, hs, rfl⟩, hb⟩; exact ⟨rfl, Or.inl ⟨m, rfl, hm, hs, hb⟩⟩; have HO := Lib.hid hs; have HB1 := Lib.hid hb; have r3 := HTC.out w1 hb; have r6 := fun b => HTC.out _ (hb.alloc hb.size b); clear hs hb; dsimp only
      refine hK.out _ _ ?_ (fun hHeld' => ?_)
      · (try dsimp only)
        (first | exact HS4.out _ | exact HS3.out | exact HK.out _ (HB1.out.alloc HB1.out.size _) | exact HK.out _ HB1.out | exact HK.out _ HBQ.out | go_keep)
      clear hK K hHeld
      have hHeld := hHeld'
      clear hHeld'
      refine wpAnyH_ready (rs := [4, 16]) (by kernel_rfl) (by simp) ?_
      refine AllReadyH.cons rfl (fun K hK => ?_) (AllReadyH.cons rfl (fun K hK => ?_) AllReadyH.nil)
      · skip
        go_simp
        refine hK.out _ _ ?_ (fun hHeld' => ?_)
        · (try dsimp only)
          (first | exact HS4.out _ | exact HS3.out | exact HK.out _ (HB1.out.alloc HB1.out.size _) | exact HK.out _ HB1.out | exact HK.out _ HBQ.out | go_keep)
        clear hK K hHeld
        have hHeld := hHeld'
        clear hHeld'
        refine' wpAnyH_take (i := 6) (v := _) rfl (by kernel_rfl) (by kernel_rfl) (by kernel_rfl) (fun _ _ _ h => h) (Or.inl ⟨by rfl, fun w hSw => ?hy20⟩) (by assumption) ?rest20
        case hy20 =>
          (try dsimp only at hSw)
          go_simp
          all_goals with_reducible rfl
        try simp only [Act.put, List.getElem_toArray, List.getElem_cons_zero, List.getElem_cons_succ, List.setIfInBounds_toArray, List.set_cons_zero, List.set_cons_succ]
        refine wpAnyH_ready (rs := [16]) (by kernel_rfl) (by simp) ?_
        refine AllReadyH.cons rfl (fun K hK => ?_) AllReadyH.nil
        go_simp
        refine hK.out _ _ ?_ (fun hHeld' => ?_)
        · (try dsimp only)
          (first | exact HS4.out _ | exact HS3.out | exact HK.out _ (HB1.out.alloc HB1.out.size _) | exact HK.out _ HB1.out | exact HK.out _ HBQ.out | go_keep)
        clear hK K hHeld
        have hHeld := hHeld'
        clear hHeld'
        refine wpAnyH_ready (rs := [17]) (by kernel_rfl) (by simp) ?_
        refine AllReadyH.cons rfl (fun K hK => ?_) AllReadyH.nil
        refine step_append_lies _ rfl (.tmp 22) (.tmp 32) 63 rfl B 9 i0 (.string ⟨#[]⟩) 1 16 Tryz.underlying63 hi hz0 hz1 hz2 rfl (by decide) (.slice (some ⟨g0, 0, none⟩) (n - k) c) (n - k) ((told.map Value.string).take (n - k)) rfl (HRow.out _ (HB1.out.alloc HB1.out.size _)) ⟨w1.heap.size, 0, none⟩ 1 1 [.string s] rfl rfl (World.news_of_block (heap_alloc_new w1 (.cells #[.string s] 9))) (by simp [Value.oneCell']) (by decide) hm1 hm2 (by have := HB1.out.size; rw [World.size_alloc]; omega) (w1.heap.size + 1) (World.size_alloc ..) ?_; intro g cap w2 hown hgrow hat hlt; have HS3 := Lib.hid (tell_cells (v := .slice (some ⟨g0, 0, none⟩) (n - k) c) HH.out.1 HB1.out hgrow (fun k hk => (World.ownsRow.lt HH.out.2.1 k hk).1)); have HS4 := Lib.hid (fun v => tell_cells2 (v := v) hne HS3.out); have HG := Lib.hid (show _ ∧ _ ∧ _ ∧ _ from ⟨hown, hgrow, hat, hlt⟩); have r4 := tell_told (v := .slice (some ⟨g0, 0, none⟩) (n - k) c) HTC.out HB1.out hgrow hlo.1 hBs (fun k hk => (World.ownsRow.lt HH.out.2.1 k hk).1) HC2.out; have r5 := tell_frozen (v := .slice (some ⟨g0, 0, none⟩) (n - k) c) HH.out.1.g HB1.out hgrow hlo.1 hBs (fun k hk => (World.ownsRow.lt HH.out.2.1 k hk).1); clear hown hgrow hat hlt
        refine hK.out _ _ ?_ (fun hHeld' => ?_)
        · (try dsimp only)
          (first | exact HS4.out _ | exact HS3.out | exact HK.out _ (HB1.out.alloc HB1.out.size _) | exact HK.out _ HB1.out | exact HK.out _ HBQ.out | go_keep)
        clear hK K hHeld
        have hHeld := hHeld'
        clear hHeld'
        refine' wpAnyH_take (i := 18) (v := _) rfl (by kernel_rfl) (by kernel_rfl) (by kernel_rfl) (fun _ _ _ h => h) (Or.inl ⟨by rfl, fun w hSw => ?hy21⟩) (by assumption) ?rest21
        case hy21 =>
          (try dsimp only at hSw)
          go_simp
          all_goals with_reducible rfl
        try simp only [Act.put, List.getElem_toArray, List.getElem_cons_zero, List.getElem_cons_succ, List.setIfInBounds_toArray, List.set_cons_zero, List.set_cons_succ]
        refine' wpAnyH_take (i := 19) (v := _) rfl (by kernel_rfl) (by kernel_rfl) (by kernel_rfl) (fun _ _ _ h => h) (Or.inl ⟨by rfl, fun w hSw => ?hy22⟩) (by assumption) ?rest22
        case hy22 =>
          (try dsimp only at hSw)
          go_simp
          all_goals with_reducible rfl
        try simp only [Act.put, List.getElem_toArray, List.getElem_cons_zero, List.getElem_cons_succ, List.setIfInBounds_toArray, List.set_cons_zero, List.set_cons_succ]
        refine wpAnyH_ready (rs := [20]) (by kernel_rfl) (by simp) ?_
        refine AllReadyH.cons rfl (fun K hK => ?_) AllReadyH.nil
        go_simp
        refine hK.out _ _ ?_ (fun hHeld' => ?_)
        · (try dsimp only)
          (first | exact HS4.out _ | exact HS3.out | exact HK.out _ (HB1.out.alloc HB1.out.size _) | exact HK.out _ HB1.out | exact HK.out _ HBQ.out | go_keep)
        clear hK K hHeld
        have hHeld := hHeld'
        clear hHeld'
        refine wpAnyH_done (by kernel_rfl) ?_ _
        rw [← hK0]
        go_wp2
        go_returns
        have hln := HH.out.2.2.1
        refine .inr ⟨⟨_, rfl⟩, s, _, HO.out, tell_out HH.out.1.g hlo.1 hBs (fun k hk => (World.ownsRow.lt HH.out.2.1 k hk).1) HB1.out HG.out.1 (by omega) (by rw [List.length_take]; omega) HG.out.2.1 HG.out.2.2.1⟩
      · skip
        go_simp
        refine hK.out _ _ ?_ (fun hHeld' => ?_)
        · (try dsimp only)
          (first | exact HS4.out _ | exact HS3.out | exact HK.out _ (HB1.out.alloc HB1.out.size _) | exact HK.out _ HB1.out | exact HK.out _ HBQ.out | go_keep)
        clear hK K hHeld
        have hHeld := hHeld'
        clear hHeld'
        refine wpAnyH_ready (rs := [4]) (by kernel_rfl) (by simp) ?_
        refine AllReadyH.cons rfl (fun K hK => ?_) AllReadyH.nil
        go_simp
        refine hK.out _ _ ?_ (fun hHeld' => ?_)
        · (try dsimp only)
          (first | exact HS4.out _ | exact HS3.out | exact HK.out _ (HB1.out.alloc HB1.out.size _) | exact HK.out _ HB1.out | exact HK.out _ HBQ.out | go_keep)
        clear hK K hHeld
        have hHeld := hHeld'
        clear hHeld'
        refine' wpAnyH_take (i := 6) (v := _) rfl (by kernel_rfl) (by kernel_rfl) (by kernel_rfl) (fun _ _ _ h => h) (Or.inl ⟨by rfl, fun w hSw => ?hy23⟩) (by assumption) ?rest23
        case hy23 =>
          (try dsimp only at hSw)
          go_simp
          all_goals with_reducible rfl
        try simp only [Act.put, List.getElem_toArray, List.getElem_cons_zero, List.getElem_cons_succ, List.setIfInBounds_toArray, List.set_cons_zero, List.set_cons_succ]
        refine wpAnyH_ready (rs := [17]) (by kernel_rfl) (by simp) ?_
        refine AllReadyH.cons rfl (fun K hK => ?_) AllReadyH.nil
        refine step_append_lies _ rfl (.tmp 22) (.tmp 32) 63 rfl B 9 i0 (.string ⟨#[]⟩) 1 16 Tryz.underlying63 hi hz0 hz1 hz2 rfl (by decide) (.slice (some ⟨g0, 0, none⟩) (n - k) c) (n - k) ((told.map Value.string).take (n - k)) rfl (HRow.out _ (HB1.out.alloc HB1.out.size _)) ⟨w1.heap.size, 0, none⟩ 1 1 [.string s] rfl rfl (World.news_of_block (heap_alloc_new w1 (.cells #[.string s] 9))) (by simp [Value.oneCell']) (by decide) hm1 hm2 (by have := HB1.out.size; rw [World.size_alloc]; omega) (w1.heap.size + 1) (World.size_alloc ..) ?_; intro g cap w2 hown hgrow hat hlt; have HS3 := Lib.hid (tell_cells (v := .slice (some ⟨g0, 0, none⟩) (n - k) c) HH.out.1 HB1.out hgrow (fun k hk => (World.ownsRow.lt HH.out.2.1 k hk).1)); have HS4 := Lib.hid (fun v => tell_cells2 (v := v) hne HS3.out); have HG := Lib.hid (show _ ∧ _ ∧ _ ∧ _ from ⟨hown, hgrow, hat, hlt⟩); have r4 := tell_told (v := .slice (some ⟨g0, 0, none⟩) (n - k) c) HTC.out HB1.out hgrow hlo.1 hBs (fun k hk => (World.ownsRow.lt HH.out.2.1 k hk).1) HC2.out; have r5 := tell_frozen (v := .slice (some ⟨g0, 0, none⟩) (n - k) c) HH.out.1.g HB1.out hgrow hlo.1 hBs (fun k hk => (World.ownsRow.lt HH.out.2.1 k hk).1); clear hown hgrow hat hlt
        refine hK.out _ _ ?_ (fun hHeld' => ?_)
        · (try dsimp only)
          (first | exact HS4.out _ | exact HS3.out | exact HK.out _ (HB1.out.alloc HB1.out.size _) | exact HK.out _ HB1.out | exact HK.out _ HBQ.out | go_keep)
        clear hK K hHeld
        have hHeld := hHeld'
        clear hHeld'
        refine' wpAnyH_take (i := 18) (v := _) rfl (by kernel_rfl) (by kernel_rfl) (by kernel_rfl) (fun _ _ _ h => h) (Or.inl ⟨by rfl, fun w hSw => ?hy24⟩) (by assumption) ?rest24
        case hy24 =>
          (try dsimp only at hSw)
          go_simp
          all_goals with_reducible rfl
        try simp only [Act.put, List.getElem_toArray, List.getElem_cons_zero, List.getElem_cons_succ, List.setIfInBounds_toArray, List.set_cons_zero, List.set_cons_succ]
        refine' wpAnyH_take (i := 19) (v := _) rfl (by kernel_rfl) (by kernel_rfl) (by kernel_rfl) (fun _ _ _ h => h) (Or.inl ⟨by rfl, fun w hSw => ?hy25⟩) (by assumption) ?rest25
        case hy25 =>
          (try dsimp only at hSw)
          go_simp
          all_goals with_reducible rfl
        try simp only [Act.put, List.getElem_toArray, List.getElem_cons_zero, List.getElem_cons_succ, List.setIfInBounds_toArray, List.set_cons_zero, List.set_cons_succ]
        refine wpAnyH_ready (rs := [20]) (by kernel_rfl) (by simp) ?_
        refine AllReadyH.cons rfl (fun K hK => ?_) AllReadyH.nil
        go_simp
        refine hK.out _ _ ?_ (fun hHeld' => ?_)
        · (try dsimp only)
          (first | exact HS4.out _ | exact HS3.out | exact HK.out _ (HB1.out.alloc HB1.out.size _) | exact HK.out _ HB1.out | exact HK.out _ HBQ.out | go_keep)
        clear hK K hHeld
        have hHeld := hHeld'
        clear hHeld'
        refine wpAnyH_done (by kernel_rfl) ?_ _
        rw [← hK0]
        go_wp2
        go_returns
        have hln := HH.out.2.2.1
        refine .inr ⟨⟨_, rfl⟩, s, _, HO.out, tell_out HH.out.1.g hlo.1 hBs (fun k hk => (World.ownsRow.lt HH.out.2.1 k hk).1) HB1.out HG.out.1 (by omega) (by rw [List.length_take]; omega) HG.out.2.1 HG.out.2.2.1⟩
end Go.Proofs.YtlikpnaffpngiaaGreatDoor

/- A teller: WriteString; begin, word and end; what a teller has told so far; String. Premise: the text has at most 1000000 bytes. -/
import Derived.Test.YtbccknhinmgibaaDoorLBld
import Derived.Test.YtbccknhinmgibaaDoorLTxt
import Derived.Test.YtbccknhinmgibaaDoorLThrW
import Derived.Lib.AppendStr
import Derived.Lib.UnsafeStr
import Derived.Lib.FrozenHead
set_option linter.unusedVariables false
set_option linter.unusedSimpArgs false
namespace Go.Proofs.YtbccknhinmgibaaDoor
open Go.RowKit

/-- A string's bytes behind a row of the call's own, and where the new row lies. -/
theorem run_append_string_at {P : Program} (w : World) (base : Nat) (t u ty e : TypeId) (i : TypeInfo) (ht : P.underlying t = some (.slice e)) (hu : P.underlying u = some .string) (hi : P.info? e = some i) (hz : i.zero = some (.int .u8 0))
    (hsize : i.size = 1) (hby : i.bytes = 1) (v : Value) (n : Nat) (xs : List Value) (hown : w.ownsRow base e 1 v n xs) (s : ByteArray) (h63 : n + s.size ≤ maxLen) (hbytes : n + s.size ≤ 140737488355328) (hbase : base ≤ w.heap.size) :
    ∃ v' w', (Builtin.append_ #[t, u] ty #[v, .string s]).run P w = .ok v' w' ∧ w'.ownsRow base e 1 v' (n + s.size) (xs ++ Lib.strCells s) ∧ w.grownBy w' v.ownBlock ∧ (v'.ownBlock = v.ownBlock ∨ v'.ownBlock = some w.heap.size) := by
  obtain ⟨v', w', hr, h2, h3, h4⟩ := Lib.run_append_own_string (P := P) w base t u ty e i ht hu hi hz hsize hby v n xs hown s h63 hbytes hbase
  refine ⟨v', w', hr, h2, h3, ?_⟩
  have hsmall : n + s.size ≤ 9223372036854775807 := by simp only [maxLen] at h63; omega
  rcases hown.2 with ⟨rfl, rfl⟩ | ⟨g, cap, cur, rfl, hbg, hg, hnc, hcm, hcs, htake⟩
  · by_cases hm : s.size = 0
    · left; rw [h4.2 ⟨rfl, hm⟩]
    · right
      have hr2 := run_append_nil_string (P := P) w t u ty e i (.int .u8 0) ht hu hi hz s (by omega) (by omega) (by rw [hby]; omega)
      rw [hr] at hr2
      injection hr2 with e1 e2
      rw [e1]; rfl
  · have hxl : xs.length = n := by simpa using hown.1
    by_cases hroom : n + s.size ≤ cap
    · left
      have hcs' : cur.size = cap := by simpa using hcs
      have hr2 := Lib.run_append_room_string (P := P) w t u ty e i ht hu hi hsize g n cap cur hg s hroom (by omega)
      rw [hr] at hr2
      injection hr2 with e1 e2
      rw [e1]; rfl
    · right
      have holds : ∀ j u, xs[j]? = some u → w.cell? ((⟨g, 0, none⟩ : Addr).add j) = some u := hown.cells (g := g) rfl
      have hr2 := Lib.run_append_grow_string (P := P) w t u ty e i (.int .u8 0) ht hu hi hz ⟨g, 0, none⟩ n cap xs (by rw [hsize]; simpa using hxl) holds s (by omega) (by omega) (by rw [hby]; exact growslice_fits (by omega) (by omega))
      rw [hr] at hr2
      injection hr2 with e1 e2
      rw [e1]; rfl
theorem wpList_append_string_at {P : Program} (w : World) {ops : Array Oper} {rest : List Oper} {o : Oper} {a : Act} {Q : Exit → Act → World → Prop} (hgd : o.guard = none) (sl x : Operand) (t u : TypeId)
    (ho : o.op = .call { callee := .builtin .append, args := #[sl, x], argTypes := #[t, u] })
    (base : Nat) (e : TypeId) (i : TypeInfo) (ht : P.underlying t = some (.slice e)) (hu : P.underlying u = some .string) (hi : P.info? e = some i) (hz : i.zero = some (.int .u8 0))
    (hsize : i.size = 1) (hby : i.bytes = 1) (v : Value) (n : Nat) (xs : List Value) (hs : a.eval sl = v) (hown : w.ownsRow base e 1 v n xs) (s : ByteArray) (hx : a.eval x = .string s)
    (h63 : n + s.size ≤ maxLen) (hbytes : n + s.size ≤ 140737488355328) (hbase : base ≤ w.heap.size)
    (h : ∀ v' w', w'.ownsRow base e 1 v' (n + s.size) (xs ++ Lib.strCells s) → w.grownBy w' v.ownBlock → (v'.ownBlock = v.ownBlock ∨ v'.ownBlock = some w.heap.size) → wpList P ops Q rest (a.put o.dst v') w') : wpList P ops Q (o :: rest) a w := by
  refine wpList_plain hgd fun K hK => ?_
  obtain ⟨v', w', hr, h2, h3, h4⟩ := run_append_string_at (P := P) w base t u o.type e i ht hu hi hz hsize hby v n xs hown s h63 hbytes hbase
  unfold Oper.wp execOp
  simp only [ho, resolve, invoke, builtin, Sem.run_bind, Sem.run_pure, Result.andThen_ok, List.map_toArray, List.map_cons, List.map_nil, hs, hx, hr]
  exact hK _ _ (h v' w' h2 h3 h4)
/-- As tel_end, of any row. -/
theorem tel_ends {B g n n' : Nat} {w w1 w4 : World} {v v' : Value} {C C' : List Value} {b : Bool} (h : Tel B w g v n C b) (hw : ∀ m, m < w.heap.size → w1.heap[m]? = (w.setCell ⟨g, 0, none⟩ (.pointer (some ⟨g, 0, none⟩))).heap[m]?) (hs : w.heap.size ≤ w1.heap.size) (ho : w1.os = w.os ∧ w1.tape = w.tape ∧ w1.output = w.output)
    (hr : w4.ownsRow B 5 1 v' n' C') (hg : w1.grownBy w4 v.ownBlock) (ha : v'.ownBlock = v.ownBlock ∨ v'.ownBlock = some w1.heap.size) :
    Tel B (w4.setCell ⟨g, 1, none⟩ v') g v' n' C' b ∧ TelW w (w4.setCell ⟨g, 1, none⟩ v') g v v' := by
  obtain ⟨A, ht, hA⟩ := h.tel
  have hgl := blk_lt ht
  have hne : v'.ownBlock ≠ some g := by
    rcases ha with e | e
    · rw [e]; exact h.off
    · rw [e]; intro e2; injection e2 with e2; omega
  have h4 : w4.heap[g]? = some (.cells #[.pointer (some ⟨g, 0, none⟩), v, .bool b] 66 (0, 0)) := (hg.block g (by omega) fun e => h.off e.symm).trans ((hw g hgl).trans (tel_set0 ht))
  have hsz := hg.size
  refine ⟨⟨⟨_, tel_set1 h4, .inr rfl⟩, ownsRow_same hr fun m hm => ?_, hne, h.low⟩, fun m hm h1 h2 => ?_, by simp; omega, ⟨hg.os.trans ho.1, hg.tape.trans ho.2.1, hg.output.trans ho.2.2⟩, fun m hm => ?_⟩
  · exact Below.heap_setCell _ _ _ _ fun e => hne (by rw [hm]; exact congrArg some e)
  · exact (Below.heap_setCell _ _ _ _ h1).trans ((hg.block m (by omega) fun e => h2 e.symm).trans ((hw m hm).trans (Below.heap_setCell _ _ _ _ h1)))
  · rcases ha with e | e
    · exact .inl (e.symm.trans hm)
    · rw [e] at hm; injection hm with hm; exact .inr (by omega)
set_option maxRecDepth 100000 in
set_option maxHeartbeats 3200000 in
theorem wstring_ok {B g n : Nat} {w : World} {v : Value} {C : List Value} {b : Bool} {s : ByteArray} (h : Tel B w g v n C b) (hB : B ≤ w.heap.size) (hn : n + s.size ≤ 1000000000) : Calls Tryd.prog 17 #[.pointer (some ⟨g, 0, none⟩), .string s] w fun e w' => (∃ u, e = .returned u) ∧ ∃ v', Tel B w' g v' (n + s.size) (C ++ Lib.strCells s) b ∧ TelW w w' g v v' := by
  obtain ⟨A, ht, hA⟩ := h.tel
  have HC := Lib.hid (copy_ok ⟨ht, hA⟩)
  have hgl := blk_lt ht
  have hs0 := tel_set0 (u := .pointer (some ⟨g, 0, none⟩)) ht
  have hsz : (w.setCell ⟨g, 0, none⟩ (.pointer (some ⟨g, 0, none⟩))).heap.size = w.heap.size := by simp
  obtain ⟨w1, hw1⟩ : ∃ w1, w1 = w.setCell ⟨g, 0, none⟩ (.pointer (some ⟨g, 0, none⟩)) := ⟨_, rfl⟩
  rw [← hw1] at HC hs0 hsz
  have m1 : w1.cell? ⟨g, 1, none⟩ = some v := (cell_of_row _ _ 1 _ _ _ hs0).trans rfl
  have own1 : w1.ownsRow B 5 1 v n C := ownsRow_same h.own fun m hm => by rw [hw1]; exact Below.heap_setCell _ _ _ _ fun e => h.off (by rw [hm, show m = g from e])
  have HO := Lib.hid own1
  have HE := Lib.hid (fun v' w4 hr hg ha => tel_ends (n' := n + s.size) (C' := C ++ Lib.strCells s) (v' := v') (w4 := w4) (w1 := w1) h (fun m hm => by rw [hw1]) (by omega) (by rw [hw1]; exact ⟨rfl, rfl, rfl⟩) hr hg ha)
  have HF := Lib.hid (show ∀ w4, w1.grownBy w4 v.ownBlock → w4.cell? ⟨g, 1, none⟩ = some v ∧ w4.frozen? ⟨g, 1, none⟩ = false from fun w4 hg => by
    have e : w4.heap[g]? = some _ := (hg.block g (by omega) fun e => h.off e.symm).trans hs0
    exact ⟨(cell_of_row _ _ 1 _ _ _ e).trans rfl, by simp [World.frozen?, e]⟩)
  obtain ⟨i0, hi, hz0, hz1, hz2⟩ := info_parts info_u8
  have HZ := Lib.hid (show _ ∧ _ from ⟨hB, hsz⟩)
  have HN := Lib.hid hn
  clear h ht hA hgl hs0 hsz own1 hw1 hB hn
  go_enter Tryd.func17, Tryd.ntmps17
  go_wp2_with fail
  refine HC.out.mono ?_
  rintro e w2 ⟨rfl, hw2⟩
  subst hw2
  go_wp2_with (at_builtin; refine wpList_append_string_at _ rfl _ _ 25 9 rfl B 5 i0 Tryd.underlying25 Tryd.underlying9 hi hz0 hz1 hz2 v n C rfl HO.out s rfl ?c3 ?c4 ?c5 ?_)
  case c3 => have := HN.out; unfold maxLen; omega
  case c4 => have := HN.out; omega
  case c5 => have := HZ.out; omega
  intro v4 w4 r4 q4 o4
  obtain ⟨N, hN⟩ : ∃ N, N = n + s.size := ⟨_, rfl⟩
  obtain ⟨K4, c4, rfl⟩ : ∃ K c, v4 = .slice K N c := by
    rcases r4.2 with ⟨e, h0⟩ | ⟨g', cap, cur, e, _⟩
    · exact ⟨none, 0, by rw [e, hN, h0]⟩
    · exact ⟨_, cap, by rw [e, hN]⟩
  have HN4 := Lib.hid hN
  clear hN
  obtain ⟨m4, f4⟩ := HF.out w4 q4
  have HE4 := Lib.hid (HE.out _ w4 r4 q4 o4)
  clear r4 q4 o4 HE HF HO HZ
  go_wp2
  go_returns
  exact ⟨⟨_, rfl⟩, _, HE4.out⟩
theorem TelW.trans {w w1 w2 : World} {g : Nat} {v v1 v2 : Value} (h : TelW w w1 g v v1) (k : TelW w1 w2 g v1 v2) : TelW w w2 g v v2 := by
  obtain ⟨a1, a2, ⟨a3, a4, a5⟩, a6⟩ := h
  obtain ⟨b1, b2, ⟨b3, b4, b5⟩, b6⟩ := k
  refine ⟨fun m hm hg hv => (b1 m (by omega) hg fun e => ?_).trans (a1 m hm hg hv), Nat.le_trans a2 b2, ⟨b3.trans a3, b4.trans a4, b5.trans a5⟩, fun m hm => ?_⟩
  · rcases a6 m e with h | h
    · exact hv h
    · omega
  · rcases b6 m hm with h | h
    · exact a6 m h
    · exact .inr (by omega)
theorem TelW.refl (w : World) (g : Nat) (v : Value) : TelW w w g v v := ⟨fun _ _ _ _ => rfl, Nat.le_refl _, ⟨rfl, rfl, rfl⟩, fun _ h => .inl h⟩
theorem tel_set2 {W : World} {g : Nat} {a v b u : Value} {T : TypeId} (h : W.heap[g]? = some (.cells #[a, v, b] T (0, 0))) : (W.setCell ⟨g, 2, none⟩ u).heap[g]? = some (.cells #[a, v, u] T (0, 0)) := by simp [World.setCell, Array.getElem?_modify, h]
theorem tel_mark {B g n : Nat} {w : World} {v : Value} {C : List Value} {b : Bool} (h : Tel B w g v n C b) (b' : Bool) : Tel B (w.setCell ⟨g, 2, none⟩ (.bool b')) g v n C b' ∧ TelW w (w.setCell ⟨g, 2, none⟩ (.bool b')) g v v := by
  obtain ⟨A, ht, hA⟩ := h.tel
  exact ⟨⟨⟨A, tel_set2 ht, hA⟩, ownsRow_same h.own fun m hm => Below.heap_setCell _ _ _ _ fun e => h.off (by rw [hm]; exact congrArg some e), h.off, h.low⟩, fun m hm hg _ => Below.heap_setCell _ _ _ _ hg, by simp, ⟨rfl, rfl, rfl⟩, fun m hm => .inl hm⟩
theorem tel_cell {B g n : Nat} {w : World} {v : Value} {C : List Value} {b : Bool} (h : Tel B w g v n C b) : w.cell? ⟨g, 2, none⟩ = some (.bool b) ∧ w.frozen? ⟨g, 2, none⟩ = false ∧ B ≤ w.heap.size := by
  obtain ⟨A, ht, hA⟩ := h.tel
  exact ⟨(cell_of_row _ _ 2 _ _ _ ht).trans rfl, by simp [World.frozen?, ht], by have := blk_lt ht; have := h.low; omega⟩
/-- A word is told. -/
def WordT (B g n : Nat) (C : List Value) (w : World) (v : Value) (b' : Bool) (w' : World) : Prop := ∃ v', Tel B w' g v' n C b' ∧ TelW w w' g v v'
set_option maxRecDepth 100000 in
set_option maxHeartbeats 1600000 in
theorem tword_ok {B g n : Nat} {w : World} {v : Value} {C : List Value} {b : Bool} {s : ByteArray} {n' : Nat} {C' : List Value} (h : Tel B w g v n C b) (hn : n + s.size ≤ 999999) (hn' : n' = (if b then n + 1 else n) + s.size) (hC' : C' = (if b then C ++ [.int .u8 32] else C) ++ Lib.strCells s) : Calls Tryd.prog 31 #[.pointer (some ⟨g, 0, none⟩), .string s] w fun e w' => (∃ u, e = .returned u) ∧ WordT B g n' C' w v true w' := by
  have HC := Lib.hid (show _ ∧ _ from ⟨hn', hC'⟩)
  clear hn' hC'
  obtain ⟨m2, f2, hB⟩ := tel_cell h
  cases b with
  | false =>
    have HW := Lib.hid (wstring_ok (s := s) h hB (by omega))
    clear h f2 hB hn
    go_enter Tryd.func31, Tryd.ntmps31
    go_wp2_with fail
    refine HW.out.mono ?_
    rintro e w1 ⟨⟨u, rfl⟩, v1, h1, k1⟩
    obtain ⟨m3, f3, _⟩ := tel_cell h1
    have HE := Lib.hid (tel_mark h1 true)
    have HK := Lib.hid k1
    clear h1 k1 HW m2
    go_wp2
    go_returns
    exact ⟨⟨_, rfl⟩, _, by rw [HC.out.1, HC.out.2]; exact HE.out.1, HK.out.trans HE.out.2⟩
  | true =>
    have HW := Lib.hid (wbyte_ok (x := 32) h hB (by omega))
    have HN := Lib.hid hn
    clear h f2 hB hn
    go_enter Tryd.func31, Tryd.ntmps31
    go_wp2_with fail
    refine HW.out.mono ?_
    rintro e w1 ⟨rfl, v1, h1, k1⟩
    have HW1 := Lib.hid (wstring_ok (s := s) h1 (tel_cell h1).2.2 (by have := HN.out; omega))
    have HK := Lib.hid k1
    clear h1 k1 HW m2
    go_wp2_with fail
    refine HW1.out.mono ?_
    rintro e w2 ⟨⟨u, rfl⟩, v2, h2, k2⟩
    obtain ⟨m3, f3, _⟩ := tel_cell h2
    have HE := Lib.hid (tel_mark h2 true)
    have HK2 := Lib.hid (HK.out.trans k2)
    clear h2 k2 HW1 HK HN
    go_wp2
    go_returns
    exact ⟨⟨_, rfl⟩, _, by rw [HC.out.1, HC.out.2]; exact HE.out.1, HK2.out.trans HE.out.2⟩
set_option maxRecDepth 100000 in
set_option maxHeartbeats 1600000 in
theorem tbegin_ok {B g n : Nat} {w : World} {v : Value} {C : List Value} {b : Bool} {n' : Nat} {C' : List Value} (h : Tel B w g v n C b) (hn : n ≤ 999990) (hn' : n' = (if b then n + 1 else n) + 1) (hC' : C' = (if b then C ++ [.int .u8 32] else C) ++ Lib.strCells ⟨#[40]⟩) : Calls Tryd.prog 30 #[.pointer (some ⟨g, 0, none⟩)] w fun e w' => (∃ u, e = .returned u) ∧ WordT B g n' C' w v false w' := by
  have HW := Lib.hid (tword_ok (s := ⟨#[40]⟩) h (show n + 1 ≤ 999999 by omega) hn' hC')
  clear h hn hn' hC'
  go_enter Tryd.func30, Tryd.ntmps30
  go_wp2_with fail
  refine HW.out.mono ?_
  rintro e w1 ⟨⟨u, rfl⟩, v1, h1, k1⟩
  obtain ⟨m3, f3, _⟩ := tel_cell h1
  have HE := Lib.hid (tel_mark h1 false)
  have HK := Lib.hid k1
  clear h1 k1 HW
  go_wp2
  go_returns
  exact ⟨⟨_, rfl⟩, _, HE.out.1, HK.out.trans HE.out.2⟩
set_option maxRecDepth 100000 in
set_option maxHeartbeats 1600000 in
theorem tend_ok {B g n : Nat} {w : World} {v : Value} {C : List Value} {b : Bool} (h : Tel B w g v n C b) (hn : n ≤ 999990) : Calls Tryd.prog 32 #[.pointer (some ⟨g, 0, none⟩)] w fun e w' => (∃ u, e = .returned u) ∧ WordT B g (n + 1) (C ++ [.int .u8 41]) w v true w' := by
  have HW := Lib.hid (wbyte_ok (x := 41) h (tel_cell h).2.2 (by omega))
  clear h hn
  go_enter Tryd.func32, Tryd.ntmps32
  go_wp2_with fail
  refine HW.out.mono ?_
  rintro e w1 ⟨rfl, v1, h1, k1⟩
  obtain ⟨m3, f3, _⟩ := tel_cell h1
  have HE := Lib.hid (tel_mark h1 true)
  have HK := Lib.hid k1
  clear h1 k1 HW
  go_wp2
  go_returns
  exact ⟨⟨_, rfl⟩, _, HE.out.1, HK.out.trans HE.out.2⟩
end Go.Proofs.YtbccknhinmgibaaDoor

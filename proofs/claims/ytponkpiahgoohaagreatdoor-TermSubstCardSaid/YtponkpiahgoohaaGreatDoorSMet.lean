/- Maps from texts to truths in memory of the call's own, as far as they are known to hold true. No condition. Layer 4's met: it finds nothing amiss. Conditions: of sizes; of the names in what was made. -/
import Derived.Test.YtponkpiahgoohaaGreatDoorSPlain
import Derived.Test.YtponkpiahgoohaaGreatDoorTPlaces
set_option linter.unusedVariables false
set_option linter.unusedSimpArgs false
namespace Go.Proofs.YtponkpiahgoohaaGreatDoor
open Go.RowKit Go.WideMaps Go.Maps

def boolElem : Value → Option (DataW Unit × List MemPlace)
  | .bool b => some (.lit (.bool b), [])
  | _ => none
theorem zero_bool (w : World) : (zeroValue 4).run Tryz.prog w = .ok (.bool false) w := by kernel_rfl
theorem boolElem_inv {v : Value} {d : DataW Unit} {ps : List MemPlace} (h : boolElem v = some (d, ps)) : ∃ b, v = .bool b ∧ d = .lit (.bool b) := by
  unfold boolElem at h
  split at h
  · next b => injection h with h; injection h with h1 h2; exact ⟨b, rfl, h1.symm⟩
  · cases h
theorem look_bool {w : World} {b n : Nat} {D : DataW Unit} (h : w.ownsMap Tryz.prog 9 boolElem b n D) {key : Value} {kl : Lit} (hkey : keyOf Tryz.prog 9 key = some kl) : ∃ c : Bool, (Instr.lookup 39 (.map (some b)) key false).run Tryz.prog w = .ok (.bool c) w ∧ D.atKey kl (.lit (.bool false)) = .lit (.bool c) := by
  obtain ⟨v, ps, hrun, hv⟩ := h.lookup str_law Tryz.underlying39 (zero_bool w) (show boolElem (.bool false) = some (.lit (.bool false), []) from rfl) hkey
  obtain ⟨c, rfl, hc⟩ := boolElem_inv hv
  exact ⟨c, hrun, hc⟩
/-- It holds true for these. -/
def GoodD (D : DataW Unit) (X : ByteArray → Prop) : Prop := ∀ s, X s → ∀ z, D.atKey (.string s.data.toList) z = .lit (.bool true)
theorem GoodD.mono {D : DataW Unit} {X Y : ByteArray → Prop} (h : GoodD D X) (hXY : ∀ s, Y s → X s) : GoodD D Y := fun s hs => h s (hXY s hs)
theorem GoodD.yes {D : DataW Unit} {X : ByteArray → Prop} {x : ByteArray} (h : GoodD D X) (hm : IsMap D) : GoodD (D.put (.string x.data.toList) (.lit (.bool true))) (fun s => X s ∨ s = x) := fun s hs z => by
  by_cases e : s = x
  · subst e
    exact atKey_put_same hm (by simp [WideAt.IsKeyLit]) _ _
  · have hne : (Lit.string s.data.toList) ≠ .string x.data.toList := fun h => e (str_inj h)
    exact (atKey_put_other hne _ _).trans (h s (hs.resolve_right e) z)
theorem GoodD.no {D : DataW Unit} {X : ByteArray → Prop} {x : ByteArray} (h : GoodD D X) (hm : IsMap D) : GoodD (D.put (.string x.data.toList) (.lit (.bool false))) (fun s => X s ∧ s ≠ x) := fun s hs z => by
  have hne : (Lit.string s.data.toList) ≠ .string x.data.toList := fun h => hs.2 (str_inj h)
  exact (atKey_put_other hne _ _).trans (h s hs.1 z)
/-- The map at block mb, of at most n entries, in worlds behind w0. -/
def MapAt (w0 : World) (mb n : Nat) (X : ByteArray → Prop) (W : World) : Prop := ∃ D : DataW Unit, W.ownsMap Tryz.prog 9 boolElem mb n D ∧ GoodD D X ∧ Below w0.heap.size w0 W ∧ w0.heap.size ≤ mb
theorem MapAt.mono {w0 W : World} {mb n m : Nat} {X Y : ByteArray → Prop} (h : MapAt w0 mb n X W) (hn : n ≤ m) (hXY : ∀ s, Y s → X s) : MapAt w0 mb m Y W := by
  obtain ⟨D, h1, h2, h3, h4⟩ := h
  exact ⟨D, h1.mono hn, h2.mono hXY, h3, h4⟩
theorem MapAt.below {w0 W W' : World} {mb n : Nat} {X : ByteArray → Prop} (h : MapAt w0 mb n X W) (hb : Below W.heap.size W W') : MapAt w0 mb n X W' := by
  obtain ⟨D, ⟨es, clock, h1, h5⟩, h2, h3, h4⟩ := h
  have hlt : mb < W.heap.size := (Array.getElem?_eq_some_iff.1 h1).1
  exact ⟨D, ⟨es, clock, (hb.block mb hlt).trans h1, h5⟩, h2, h3.trans (hb.mono h3.size), h4⟩
theorem key_str {x : ByteArray} (h : x.size ≤ maxLen) : keyOf Tryz.prog 9 (.string x) = some (.string x.data.toList) := keyOf_string_mk Tryz.underlying9 h
/-- Behind a store. -/
theorem MapAt.put {w0 W W1 : World} {mb n : Nat} {X : ByteArray → Prop} {x : ByteArray} {b : Bool} {D : DataW Unit} (hown : W.ownsMap Tryz.prog 9 boolElem mb n D) (hg : GoodD D X) (hb : Below w0.heap.size w0 W) (hm : w0.heap.size ≤ mb) (h1 : W1.ownsMap Tryz.prog 9 boolElem mb (n + 1) (D.put (.string x.data.toList) (.lit (.bool b)))) (hgr : W.grownBy W1 (some mb)) : MapAt w0 mb (n + 1) (fun s => if b then X s ∨ s = x else X s ∧ s ≠ x) W1 := by
  refine ⟨_, h1, ?_, hb.grown hgr hb.size (fun j hj => by injection hj with hj; omega), hm⟩
  cases b with
  | true => exact hg.yes hown.isMap
  | false => exact hg.no hown.isMap
end Go.Proofs.YtponkpiahgoohaaGreatDoor

namespace Go.Proofs.YtponkpiahgoohaaGreatDoor
open Go.RowKit Go.WideMaps Go.Maps

/-- What met is given. -/
structure MetIn (w : World) (vt va : Value) (t a : Tm) (kn Kt : Option Addr) (names : List ByteArray) (ts : List Tm) : Prop where
  tv : TmV w vt t
  av : TmV w va a
  ok : (preT t).length ≤ 100000
  oka : (preT a).length ≤ 100000
  nr : Row w kn (names.map Value.string)
  tr : TmsAt w Kt ts
  okts : ∀ u ∈ ts, (preT u).length ≤ 100000
  len : names.length ≤ ts.length ∧ ts.length ≤ 1000000
  sn : ∀ x ∈ names, x.size ≤ maxLen
  st : ∀ x, Stands x [t] → x.size ≤ maxLen
  sts : ∀ u ∈ ts, ∀ x, Stands x [u] → x.size ≤ maxLen
  met : ∀ x, Stands x [a] → (Stands x [t] ∧ x ∉ names) ∨ ∃ (i : Nat) (u : Tm), i < names.length ∧ ts[i]? = some u ∧ Stands x [u]
theorem freeK_len (t : Tm) : (freeK t).length ≤ (preT t).length := by
  unfold freeK
  refine Nat.le_trans (compact_len _) ?_
  rw [List.length_mergeSort]
  exact namesOf_len _
/-- What the map is known to hold at the third loop. -/
def metX (t : Tm) (names : List ByteArray) (ts : List Tm) (i : Nat) (x : ByteArray) : Prop := (Stands x [t] ∧ x ∉ names) ∨ ∃ (j : Nat) (u : Tm), j < i ∧ ts[j]? = some u ∧ Stands x [u]
/-- Nothing that was there has changed but the map. -/
structure Bar (mb : Nat) (a b : World) : Prop where
  size : a.heap.size ≤ b.heap.size
  block : ∀ k, k < a.heap.size → k ≠ mb → b.heap[k]? = a.heap[k]?
theorem Bar.refl (mb : Nat) (a : World) : Bar mb a a := ⟨Nat.le_refl _, fun _ _ _ => rfl⟩
theorem Bar.trans {mb : Nat} {a b c : World} (h : Bar mb a b) (k : Bar mb b c) : Bar mb a c := ⟨Nat.le_trans h.size k.size, fun i h1 h2 => (k.block i (Nat.lt_of_lt_of_le h1 h.size) h2).trans (h.block i h1 h2)⟩
theorem Bar.low {mb : Nat} {a b : World} (h : Below a.heap.size a b) : Bar mb a b := ⟨h.size, fun i h1 _ => h.block i h1⟩
theorem Bar.grown {mb : Nat} {a b : World} (h : a.grownBy b (some mb)) : Bar mb a b := ⟨h.size, fun i h1 h2 => h.block i h1 fun e => h2 (Option.some.inj e)⟩
theorem Bar.cell {mb : Nat} {a b : World} {p : Addr} {v : Value} (h : Bar mb a b) (hc : a.cell? p = some v) (hp : p.block ≠ mb) : b.cell? p = some v := (cell_congr (h.block _ (cell_lt hc) hp)).trans hc
theorem MapAt.none {w0 W : World} {mb n : Nat} {X : ByteArray → Prop} (h : MapAt w0 mb n X W) {p : Addr} {v : Value} (hc : W.cell? p = some v) : p.block ≠ mb := by
  obtain ⟨D, ⟨es, clock, h1, _⟩, _⟩ := h
  intro e
  rw [← e] at h1
  unfold World.cell? at hc
  rw [h1] at hc
  cases hc
theorem StrsAt.bar {mb : Nat} {a b w0 : World} {n : Nat} {X : ByteArray → Prop} {A : Option Addr} {l : List (List UInt8)} (h : StrsAt a A l) (hm : MapAt w0 mb n X a) (hb : Bar mb a b) : StrsAt b A l := fun i s hi => by
  obtain ⟨g, e, hc⟩ := h i s hi
  exact ⟨g, e, hb.cell hc (hm.none hc)⟩
set_option maxRecDepth 100000 in
set_option maxHeartbeats 6400000 in
theorem met_ok {w : World} {t0 t1 t2 t3 t4 a0 a1 a2 a3 a4 : Value} {t a : Tm} {kn Kt : Option Addr} {nn cn nt ct : Nat} {names : List ByteArray} {ts : List Tm} (hnn : nn = names.length) (hnt : nt = ts.length) (h : MetIn w (.agg #[t0, t1, t2, t3, t4]) (.agg #[a0, a1, a2, a3, a4]) t a kn Kt names ts) :
    Calls Tryz.prog 12 #[.agg #[a0, a1, a2, a3, a4], .agg #[t0, t1, t2, t3, t4], .slice kn nn cn, .slice Kt nt ct] w (SaysB w true) := by
  have hmm : ∀ w, (Instr.makeMap 39 none).run Tryz.prog w = .ok (.map (some w.heap.size)) (w.alloc (.map #[] 0)) := fun w => by
    simp [Instr.makeMap, go_sem]
  have HH := Lib.hid (show _ ∧ _ ∧ _ from ⟨h, hnn, hnt⟩)
  have hnn1 : nn ≤ 1000000 := by have := h.len; omega
  have hnn2 : nn ≤ nt := by have := h.len; omega
  clear h hnn hnt
  go_enter Tryz.func12, Tryz.ntmps12
  go_wp2_with fail
  obtain ⟨W1, hW1⟩ : ∃ W1, W1 = (w.alloc (.cells #[a0, a1, a2, a3, a4] 30)).alloc (.cells #[t0, t1, t2, t3, t4] 30) := ⟨_, rfl⟩
  rw [← hW1]
  have s1 : W1.heap.size = w.heap.size + 2 := by rw [hW1]; simp
  have hb1 : Below w.heap.size w W1 := by rw [hW1]; exact bal (bal (Below.refl _ _) _) _
  have H1 := Lib.hid (show _ ∧ _ from ⟨s1, hb1⟩)
  have hm0 : MapAt w (w.heap.size + 1 + 1) 0 (fun _ => False) (W1.alloc (.map #[] 0)) := by
    refine ⟨.map [], ?_, fun s hs => hs.elim, bal hb1 _, by omega⟩
    rw [← s1]
    exact World.ownsMap_made _ _ _ _
  have hz1 : W1.heap[w.heap.size]? = some (.cells #[a0, a1, a2, a3, a4] 30 (0, 0)) := by
    rw [hW1]
    exact (Below.heap_alloc _ _ _ (by simp)).trans (heap_alloc_new w _)
  have HM0 := Lib.hid (show _ ∧ _ from ⟨hm0, (Below.heap_alloc W1 (.map #[] 0) _ (by omega)).trans hz1⟩)
  have HC := Lib.hid (free_any ((HH.out.1.tv).bel (bal hb1 (.map #[] 0))) HH.out.1.ok)
  clear s1 hb1 hm0 hz1 hW1
  refine HC.out.mono ?_
  rintro e w3 ⟨A, c, rfl, hsA, hb3⟩
  obtain ⟨L, hL⟩ : ∃ L, L = (freeK t).length := ⟨_, rfl⟩
  rw [← hL]
  have hL1 : L ≤ 100000 := by have := freeK_len t; have := HH.out.1.ok; omega
  have HM1 := Lib.hid (show MapAt w (w.heap.size + 1 + 1) 0 (fun _ => False) w3 ∧ StrsAt w3 A (freeK t) ∧ L = (freeK t).length ∧ w3.heap[w.heap.size]? = some (.cells #[a0, a1, a2, a3, a4] 30 (0, 0)) from ⟨HM0.out.1.below hb3, hsA, hL, (hb3.block _ (Own.lt.cell_lt' HM0.out.2)).trans HM0.out.2⟩)
  clear hsA hb3 HM0 HC hL
  go_wp2
  go_loopw [11] (fun iv wr => ∃ (i : Nat), i ≤ L ∧ iv = .int .i64 (i : Int) ∧ Hid (MapAt w (w.heap.size + 1 + 1) i (fun x => x.data.toList ∈ (freeK t).take i) wr ∧ Bar (w.heap.size + 1 + 1) w3 wr)) (fun iv _ => L - (intOf iv).toNat)
  case atStart => exact ⟨0, Nat.zero_le _, rfl, Lib.hid ⟨HM1.out.1.mono (Nat.le_refl _) (fun s hs => by simp at hs), Bar.refl _ _⟩⟩
  case round =>
    obtain ⟨i, hiL, rfl, HI⟩ := hrel
    rcases Nat.lt_or_ge i L with hlt | hge
    · have hi1 : (i : Int) < L := by omega
      have hi0 : 0 ≤ (i : Int) := by omega
      obtain ⟨hm, hbar⟩ := HI.out
      obtain ⟨hm3, hsA, hL, hz⟩ := HM1.out
      obtain ⟨y, hy⟩ : ∃ y, (freeK t)[i]? = some y := ⟨_, List.getElem?_eq_getElem (by omega)⟩
      obtain ⟨g, rfl, hc⟩ := hsA i y hy
      have hcx : wr.cell? ⟨g, i, none⟩ = some (.string ⟨y.toArray⟩) := hbar.cell hc (hm3.none hc)
      obtain ⟨x, hx⟩ : ∃ x : ByteArray, x = ⟨y.toArray⟩ := ⟨_, rfl⟩
      rw [← hx] at hcx
      have hxs : x.data.toList = y := by rw [hx]
      have hkey : keyOf Tryz.prog 9 (.string x) = some (.string x.data.toList) := key_str (HH.out.1.st x (by rw [hx]; exact freeK_stands (List.mem_of_getElem? hy)))
      obtain ⟨D, hown, hg, hb, hmb⟩ := hm
      have HP := Lib.hid (show _ ∧ _ ∧ _ ∧ _ ∧ _ ∧ _ from ⟨hg, hb, hmb, hbar, hy, hxs⟩)
      clear hbar hm3 hsA hL hz hc hy hx hxs hg hb hmb HI
      go_wp2_with (first
        | (at_mapUpdate; refine wpList_mapUpdate_own _ rfl _ _ _ 39 rfl 9 4 str_law Tryz.underlying39 boolElem (w.heap.size + 1 + 1) i _ rfl hown (by unfold maxLen; omega) _ _ _ rfl rfl hkey (.lit (.bool true)) [] rfl ?_)
        | go_in)
      intro w4 hown1 hgrow1
      have HE := Lib.hid (show MapAt w (w.heap.size + 1 + 1) (i + 1) (fun x => x.data.toList ∈ (freeK t).take (i + 1)) w4 ∧ Bar (w.heap.size + 1 + 1) w3 w4 from by
        obtain ⟨hg, hb, hmb, hbar, hy, hxs⟩ := HP.out
        refine ⟨(MapAt.put hown hg hb hmb hown1 hgrow1).mono (Nat.le_refl _) fun s hs => ?_, hbar.trans (Bar.grown hgrow1)⟩
        show s.data.toList ∈ _ ∨ s = x
        have hil := (List.getElem?_eq_some_iff.1 hy).1
        rw [List.take_add_one, hy] at hs
        rcases List.mem_append.1 hs with h | h
        · exact .inl h
        · simp at h
          exact .inr (bytes_eq.1 (h.trans hxs.symm)))
      clear hown hown1 hgrow1 HP hcx hkey
      go_wp2
      go_roundw
      case rel => exact ⟨i + 1, by omega, by go_num, HE⟩
      case measure => first | (simp [intOf]; done) | (simp [intOf]; omega)
    · have e0 : i = L := by omega
      subst e0
      have HI2 := Lib.hid (show MapAt w (w.heap.size + 1 + 1) i (fun x => Stands x [t]) wr ∧ Bar (w.heap.size + 1 + 1) w3 wr from ⟨HI.out.1.mono (Nat.le_refl _) fun s hs => by
        show s.data.toList ∈ (freeK t).take i
        rw [HM1.out.2.2.1, List.take_length]
        exact freeK_iff.2 hs, HI.out.2⟩)
      obtain ⟨w5, hw5⟩ : ∃ w5, w5 = wr := ⟨_, rfl⟩
      rw [← hw5] at HI2 ⊢
      clear HI hw5 hge hiL
      go_wp2
      go_loopw [12] (fun iv wr => ∃ (j : Nat), j ≤ nn ∧ iv = .int .i64 (j : Int) ∧ Hid (MapAt w (w.heap.size + 1 + 1) (i + j) (fun x => Stands x [t] ∧ x ∉ names.take j) wr ∧ Bar (w.heap.size + 1 + 1) w3 wr)) (fun iv _ => nn - (intOf iv).toNat)
      case atStart => exact ⟨0, Nat.zero_le _, rfl, Lib.hid ⟨HI2.out.1.mono (Nat.le_refl _) (fun s hs => hs.1), HI2.out.2⟩⟩
      case round =>
        obtain ⟨j, hjn, rfl, HJ⟩ := hrel
        rcases Nat.lt_or_ge j nn with hlt | hge
        · have hi1 : (j : Int) < nn := by omega
          have hi0 : 0 ≤ (j : Int) := by omega
          obtain ⟨hm, hbar⟩ := HJ.out
          obtain ⟨h, hnn, hnt⟩ := HH.out
          obtain ⟨x, hx⟩ : ∃ x, names[j]? = some x := ⟨_, List.getElem?_eq_getElem (by omega)⟩
          obtain ⟨an, rfl, hc⟩ := h.nr j (.string x) (by rw [List.getElem?_map, hx]; rfl)
          have hkey : keyOf Tryz.prog 9 (.string x) = some (.string x.data.toList) := key_str (h.sn x (List.mem_of_getElem? hx))
          obtain ⟨D, hown, hg, hb, hmb⟩ := hm
          have hcx : wr.cell? (an.add j) = some (.string x) := (hb.cell (cell_lt hc)).trans hc
          have HP := Lib.hid (show _ ∧ _ ∧ _ ∧ _ ∧ _ from ⟨hg, hb, hmb, hbar, hx⟩)
          clear hbar hc hx hg hb hmb HJ h hnn hnt
          go_wp2_with (first
            | (at_mapUpdate; refine wpList_mapUpdate_own _ rfl _ _ _ 39 rfl 9 4 str_law Tryz.underlying39 boolElem (w.heap.size + 1 + 1) (i + j) _ rfl hown (by unfold maxLen; omega) _ _ _ rfl rfl hkey (.lit (.bool false)) [] rfl ?_)
            | go_in)
          intro w4 hown1 hgrow1
          have HE := Lib.hid (show MapAt w (w.heap.size + 1 + 1) (i + (j + 1)) (fun x => Stands x [t] ∧ x ∉ names.take (j + 1)) w4 ∧ Bar (w.heap.size + 1 + 1) w3 w4 from by
            obtain ⟨hg, hb, hmb, hbar, hx⟩ := HP.out
            refine ⟨(MapAt.put hown hg hb hmb hown1 hgrow1).mono (Nat.le_refl _) fun s hs => ?_, hbar.trans (Bar.grown hgrow1)⟩
            show (Stands s [t] ∧ s ∉ names.take j) ∧ s ≠ x
            rw [List.take_add_one, hx] at hs
            refine ⟨⟨hs.1, fun h => hs.2 (List.mem_append_left _ h)⟩, fun h => hs.2 (List.mem_append_right _ ?_)⟩
            rw [h]
            exact List.mem_singleton.2 rfl)
          clear hown hown1 hgrow1 HP hcx hkey
          go_wp2
          go_roundw
          case rel => exact ⟨j + 1, by omega, by go_num, HE⟩
          case measure => first | (simp [intOf]; done) | (simp [intOf]; omega)
        · have e0 : j = nn := by omega
          subst e0
          have HJ2 := Lib.hid (show MapAt w (w.heap.size + 1 + 1) (i + j) (metX t names ts 0) wr ∧ Bar (w.heap.size + 1 + 1) w3 wr from ⟨HJ.out.1.mono (Nat.le_refl _) fun s hs => by
            show Stands s [t] ∧ s ∉ names.take j
            rw [HH.out.2.1, List.take_length]
            rcases hs with h | ⟨j, u, hj, _⟩
            · exact h
            · omega, HJ.out.2⟩)
          obtain ⟨w6, hw6⟩ : ∃ w6, w6 = wr := ⟨_, rfl⟩
          rw [← hw6] at HJ2 ⊢
          clear HJ hw6 hge hjn HI2
          go_wp2
          go_loopw [13] (fun iv wr => ∃ (k : Nat), k ≤ j ∧ iv = .int .i64 (k : Int) ∧ Hid (MapAt w (w.heap.size + 1 + 1) (i + j + k * 100000) (metX t names ts k) wr ∧ Bar (w.heap.size + 1 + 1) w3 wr)) (fun iv _ => j - (intOf iv).toNat)
          case atStart => exact ⟨0, Nat.zero_le _, rfl, Lib.hid ⟨HJ2.out.1.mono (by omega) (fun s hs => hs), HJ2.out.2⟩⟩
          case round =>
            obtain ⟨k, hkn, rfl, HK⟩ := hrel
            rcases Nat.lt_or_ge k j with hlt | hge
            · have hi1 : (k : Int) < j := by omega
              have hi2 : (k : Int) < nt := by omega
              have hi0 : 0 ≤ (k : Int) := by omega
              obtain ⟨hm, hbar⟩ := HK.out
              obtain ⟨h, hnn, hnt⟩ := HH.out
              obtain ⟨u, hu⟩ : ∃ u, ts[k]? = some u := ⟨_, List.getElem?_eq_getElem (by omega)⟩
              have hbw : Below w.heap.size w wr := by obtain ⟨_, _, _, hb, _⟩ := hm; exact hb
              obtain ⟨at', x0, x1, x2, x3, x4, rfl, ⟨q0, q1, q2, q3, q4⟩, htm⟩ := (h.tr.below hbw) k u hu
              have z0 : wr.cell? (at'.add (k * 5)) = some x0 := q0
              rw [add_posK _ (by decide)] at q1 q2 q3 q4
              have HC := Lib.hid (free_any htm (h.okts u (List.mem_of_getElem? hu)))
              have HP := Lib.hid (show _ ∧ _ ∧ _ from ⟨hm, hbar, hu⟩)
              clear hm hbar h hnn hnt hu hbw q0 htm HK
              go_wp2_with fail
              refine HC.out.mono ?_
              rintro e w7 ⟨A7, c7, rfl, hsA, hb7⟩
              obtain ⟨M, hM⟩ : ∃ M, M = (freeK u).length := ⟨_, rfl⟩
              rw [← hM]
              have hM1 : M ≤ 100000 := by have := freeK_len u; have := HH.out.1.okts u (List.mem_of_getElem? HP.out.2.2); omega
              have HQ := Lib.hid (show MapAt w (w.heap.size + 1 + 1) (i + j + k * 100000) (metX t names ts k) w7 ∧ Bar (w.heap.size + 1 + 1) w3 w7 ∧ StrsAt w7 A7 (freeK u) ∧ M = (freeK u).length ∧ ts[k]? = some u from ⟨HP.out.1.below hb7, HP.out.2.1.trans (Bar.low hb7), hsA, hM, HP.out.2.2⟩)
              clear hsA hb7 HC HP hM z0 q1 q2 q3 q4
              go_wp2
              go_loopw [15] (fun iv wr => ∃ (r : Nat), r ≤ M ∧ iv = .int .i64 (r : Int) ∧ Hid (MapAt w (w.heap.size + 1 + 1) (i + j + k * 100000 + r) (fun x => metX t names ts k x ∨ x.data.toList ∈ (freeK u).take r) wr ∧ Bar (w.heap.size + 1 + 1) w7 wr)) (fun iv _ => M - (intOf iv).toNat)
              case atStart => exact ⟨0, Nat.zero_le _, rfl, Lib.hid ⟨HQ.out.1.mono (Nat.le_refl _) (fun s hs => hs.elim id fun h => by simp at h), Bar.refl _ _⟩⟩
              case round =>
                obtain ⟨r, hrM, rfl, HR⟩ := hrel
                rcases Nat.lt_or_ge r M with hlt3 | hge3
                · have hr1 : (r : Int) < M := by omega
                  have hr0 : 0 ≤ (r : Int) := by omega
                  obtain ⟨hm, hbar⟩ := HR.out
                  obtain ⟨hm7, hbar7, hsA, hM, hu⟩ := HQ.out
                  obtain ⟨y, hy⟩ : ∃ y, (freeK u)[r]? = some y := ⟨_, List.getElem?_eq_getElem (by omega)⟩
                  obtain ⟨g, rfl, hc⟩ := hsA r y hy
                  have hcx : wr.cell? ⟨g, r, none⟩ = some (.string ⟨y.toArray⟩) := hbar.cell hc (hm7.none hc)
                  obtain ⟨x, hx⟩ : ∃ x : ByteArray, x = ⟨y.toArray⟩ := ⟨_, rfl⟩
                  rw [← hx] at hcx
                  have hxs : x.data.toList = y := by rw [hx]
                  have hkey : keyOf Tryz.prog 9 (.string x) = some (.string x.data.toList) := key_str (HH.out.1.sts u (List.mem_of_getElem? hu) x (by rw [hx]; exact freeK_stands (List.mem_of_getElem? hy)))
                  obtain ⟨D, hown, hg, hb, hmb⟩ := hm
                  have HP := Lib.hid (show _ ∧ _ ∧ _ ∧ _ ∧ _ ∧ _ from ⟨hg, hb, hmb, hbar, hy, hxs⟩)
                  clear hbar hm7 hbar7 hsA hM hu hc hy hx hxs hg hb hmb HR
                  go_wp2_with (first
                    | (at_mapUpdate; refine wpList_mapUpdate_own _ rfl _ _ _ 39 rfl 9 4 str_law Tryz.underlying39 boolElem (w.heap.size + 1 + 1) (i + j + k * 100000 + r) _ rfl hown (by unfold maxLen; omega) _ _ _ rfl rfl hkey (.lit (.bool true)) [] rfl ?_)
                    | go_in)
                  intro w4 hown1 hgrow1
                  have HE := Lib.hid (show MapAt w (w.heap.size + 1 + 1) (i + j + k * 100000 + (r + 1)) (fun x => metX t names ts k x ∨ x.data.toList ∈ (freeK u).take (r + 1)) w4 ∧ Bar (w.heap.size + 1 + 1) w7 w4 from by
                    obtain ⟨hg, hb, hmb, hbar, hy, hxs⟩ := HP.out
                    refine ⟨(MapAt.put hown hg hb hmb hown1 hgrow1).mono (Nat.le_refl _) fun s hs => ?_, hbar.trans (Bar.grown hgrow1)⟩
                    show (metX t names ts k s ∨ s.data.toList ∈ (freeK u).take r) ∨ s = x
                    rw [List.take_add_one, hy] at hs
                    rcases hs with h | hs
                    · exact .inl (.inl h)
                    rcases List.mem_append.1 hs with h | h
                    · exact .inl (.inr h)
                    · simp at h
                      exact .inr (bytes_eq.1 (h.trans hxs.symm)))
                  clear hown hown1 hgrow1 HP hcx hkey
                  go_wp2
                  go_roundw
                  case rel => exact ⟨r + 1, by omega, by go_num, HE⟩
                  case measure => first | (simp [intOf]; done) | (simp [intOf]; omega)
                · have e0 : r = M := by omega
                  subst e0
                  have HE := Lib.hid (show MapAt w (w.heap.size + 1 + 1) (i + j + (k + 1) * 100000) (metX t names ts (k + 1)) wr ∧ Bar (w.heap.size + 1 + 1) w3 wr from ⟨HR.out.1.mono (by omega) fun s hs => by
                    show metX t names ts k s ∨ s.data.toList ∈ (freeK u).take r
                    rw [HQ.out.2.2.2.1, List.take_length, freeK_iff]
                    rcases hs with h | ⟨j', u', hj', hu', hs'⟩
                    · exact .inl (.inl h)
                    · rcases Nat.lt_or_ge j' k with h | h
                      · exact .inl (.inr ⟨j', u', h, hu', hs'⟩)
                      · obtain rfl : j' = k := by omega
                        rw [HQ.out.2.2.2.2] at hu'
                        obtain rfl := Option.some.inj hu'
                        exact .inr hs', HQ.out.2.1.trans HR.out.2⟩)
                  clear HR HQ
                  go_wp2
                  go_roundw
                  case rel => exact ⟨k + 1, by omega, by go_num, HE⟩
                  case measure => first | (simp [intOf]; done) | (simp [intOf]; omega)
            · have e0 : k = j := by omega
              subst e0
              obtain ⟨h, hnn, hnt⟩ := HH.out
              have hm := HK.out.1
              have hbw : Below w.heap.size w wr := by obtain ⟨_, _, _, hb, _⟩ := hm; exact hb
              have hz : wr.heap[w.heap.size]? = some (.cells #[a0, a1, a2, a3, a4] 30 (0, 0)) := (HK.out.2.block _ (Own.lt.cell_lt' HM1.out.2.2.2) (by omega)).trans HM1.out.2.2.2
              have y0 : wr.cell? ⟨w.heap.size, 0, none⟩ = some a0 := cell_blk hz
              have y1 : wr.cell? ⟨w.heap.size, 1, none⟩ = some a1 := cell_blk hz
              have y2 : wr.cell? ⟨w.heap.size, 2, none⟩ = some a2 := cell_blk hz
              have y3 : wr.cell? ⟨w.heap.size, 3, none⟩ = some a3 := cell_blk hz
              have y4 : wr.cell? ⟨w.heap.size, 4, none⟩ = some a4 := cell_blk hz
              have HC := Lib.hid (free_any (h.av.bel hbw) h.oka)
              have HP := Lib.hid hm
              clear h hnn hnt hm hbw hz HK HJ2
              go_wp2_with fail
              refine HC.out.mono ?_
              rintro e w8 ⟨A8, c8, rfl, hsA, hb8⟩
              obtain ⟨M, hM⟩ : ∃ M, M = (freeK a).length := ⟨_, rfl⟩
              rw [← hM]
              have hM1 : M ≤ 100000 := by have := freeK_len a; have := HH.out.1.oka; omega
              have HQ := Lib.hid (show MapAt w (w.heap.size + 1 + 1) (i + k + k * 100000) (metX t names ts k) w8 ∧ StrsAt w8 A8 (freeK a) ∧ M = (freeK a).length from ⟨HP.out.below hb8, hsA, hM⟩)
              clear hsA hb8 HC HP hM y0 y1 y2 y3 y4
              go_wp2
              go_loopw [17] (fun iv wr => ∃ (r : Nat), r ≤ M ∧ iv = .int .i64 (r : Int) ∧ wr = w8) (fun iv _ => M - (intOf iv).toNat)
              case atStart => exact ⟨0, Nat.zero_le _, rfl, rfl⟩
              case round =>
                obtain ⟨r, hrM, rfl, rfl⟩ := hrel
                rcases Nat.lt_or_ge r M with hlt3 | hge3
                · have hr1 : (r : Int) < M := by omega
                  have hr0 : 0 ≤ (r : Int) := by omega
                  obtain ⟨hm8, hsA, hM⟩ := HQ.out
                  obtain ⟨y, hy⟩ : ∃ y, (freeK a)[r]? = some y := ⟨_, List.getElem?_eq_getElem (by omega)⟩
                  obtain ⟨g, rfl, hc⟩ := hsA r y hy
                  obtain ⟨x, hx⟩ : ∃ x : ByteArray, x = ⟨y.toArray⟩ := ⟨_, rfl⟩
                  rw [← hx] at hc
                  have hst : Stands x [a] := by rw [hx]; exact freeK_stands (List.mem_of_getElem? hy)
                  have hmx : metX t names ts k x := by
                    rcases HH.out.1.met x hst with h | ⟨j', u', h1, h2, h3⟩
                    · exact .inl h
                    · exact .inr ⟨j', u', by rw [HH.out.2.1]; exact h1, h2, h3⟩
                  have hxsz : x.size ≤ maxLen := by
                    rcases HH.out.1.met x hst with h | ⟨j', u', h1, h2, h3⟩
                    · exact HH.out.1.st x h.1
                    · exact HH.out.1.sts u' (List.mem_of_getElem? h2) x h3
                  obtain ⟨D, hown, hg, hb, hmb⟩ := hm8
                  obtain ⟨c, hrun, hat⟩ := look_bool hown (key_str hxsz)
                  rw [hg x hmx] at hat
                  have hct : c = true := by injection hat with hat; injection hat with hat; exact hat.symm
                  subst hct
                  clear hsA hM hy hx hst hmx hxsz hown hg hb hmb hat
                  go_wp2
                  go_roundw
                  case rel => first | exact ⟨r + 1, by omega, by go_num, rfl⟩ | exact ⟨r + 1, by omega, by go_num, trivial⟩
                  case measure => first | (simp [intOf]; done) | (simp [intOf]; omega)
                · have HE := Lib.hid (show Below w.heap.size w wr from by obtain ⟨_, _, _, hb, _⟩ := HQ.out.1; exact hb)
                  clear HQ
                  go_wp2
                  go_returns
                  exact ⟨rfl, HE.out⟩
end Go.Proofs.YtponkpiahgoohaaGreatDoor

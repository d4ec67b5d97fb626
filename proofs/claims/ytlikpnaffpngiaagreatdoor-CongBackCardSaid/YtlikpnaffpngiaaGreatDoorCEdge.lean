/- Package cong's walker: the number of a term: the place of its Key among those that were met. Premises: a term of weight at most 100000; the library's table as it is laid. Package cong's walker: the map of edges that were met; the edge at a place that was met. No other condition than cong's number has. Package cong's walker: edge. Package cong's walker: edge, whether it was met or not. Premises: facts of weight at most 100000 each; maps of at most 900000 entries; the library's table as it is laid. -/
import Derived.Test.YtlikpnaffpngiaaGreatDoorCSides
import Derived.Maps.OwnSet
import Derived.Maps.Views
import Derived.WalkKit
import Derived.Deep.RegionHeld3
set_option linter.unusedVariables false
set_option linter.unusedSimpArgs false
namespace Go.Proofs.YtlikpnaffpngiaaGreatDoor
open Go.RowKit Go.WideMaps Go.Maps

theorem str_lawC : Keyed Tryz.prog 9 := string_keyed Tryz.underlying9
theorem zero_intC (w : World) : (zeroValue 3).run Tryz.prog w = .ok (.int .i64 0) w := by kernel_rfl
theorem str_injC {a b : ByteArray} (h : (Lit.string a.data.toList) = .string b.data.toList) : a = b := by
  injection h with h
  have : a.data = b.data := Array.ext' h
  cases a; cases b; simp_all
/-- D holds these texts, each with its place. -/
structure NumD (D : DataW Unit) (ks : List ByteArray) : Prop where
  tidy : Tidy D
  size : Maps.size D = ks.length
  has : ∀ s : ByteArray, Maps.has D (.string s.data.toList) = true ↔ s ∈ ks
  at_ : ∀ (i : Nat) (s : ByteArray), ks[i]? = some s → ∀ z, D.atKey (.string s.data.toList) z = .lit (.int .i64 (i : Int))
theorem NumD.nil : NumD (.map []) [] := ⟨tidy_empty, rfl, fun s => ⟨fun h => (by cases h), fun h => (by cases h)⟩, fun i s h => (by simp at h)⟩
theorem NumD.no {D : DataW Unit} {ks : List ByteArray} {x : ByteArray} (h : NumD D ks) (hx : x ∉ ks) : Maps.has D (.string x.data.toList) = false := by
  cases hh : Maps.has D (.string x.data.toList) with
  | false => rfl
  | true => exact absurd ((h.has x).1 hh) hx
theorem NumD.put {D : DataW Unit} {ks : List ByteArray} {x : ByteArray} (h : NumD D ks) (hx : x ∉ ks) : NumD (D.put (.string x.data.toList) (.lit (.int .i64 (ks.length : Int)))) (ks ++ [x]) := by
  have hk : WideAt.IsKeyLit (.string x.data.toList) := by simp [WideAt.IsKeyLit]
  refine ⟨h.tidy.put hk _, ?_, fun s => ?_, fun i s hi z => ?_⟩
  · rw [size_put h.tidy, h.no hx, List.length_append, h.size]
    rfl
  · by_cases e : s = x
    · subst e
      exact ⟨fun _ => List.mem_append_right _ (List.mem_singleton.2 rfl), fun _ => has_put_same h.tidy.isMap hk _⟩
    · have hne : (Lit.string s.data.toList) ≠ .string x.data.toList := fun h => e (str_injC h)
      rw [has_put_other hne, h.has s]
      refine ⟨fun h => List.mem_append_left _ h, fun h => ?_⟩
      rcases List.mem_append.1 h with h | h
      · exact h
      · exact absurd (List.mem_singleton.1 h) e
  · rcases Nat.lt_or_ge i ks.length with hlt | hge
    · rw [List.getElem?_append_left hlt] at hi
      have hne : (Lit.string s.data.toList) ≠ .string x.data.toList := fun h => hx (by rw [← str_injC h]; exact List.mem_of_getElem? hi)
      exact (atKey_put_other hne _ _).trans (h.at_ i s hi z)
    · rw [List.getElem?_append_right hge] at hi
      have hi0 : i - ks.length = 0 := by
        rcases Nat.eq_zero_or_pos (i - ks.length) with e | e
        · exact e
        · rw [List.getElem?_eq_none (by simp; omega)] at hi; cases hi
      rw [hi0] at hi
      injection hi with hi
      subst hi
      have hii : i = ks.length := by omega
      subst hii
      exact atKey_put_same h.tidy.isMap hk _ _
/-- The numbers' map at nb: the texts that were met, in their order. -/
def NumsAt (nb : Nat) (ks : List ByteArray) (W : World) : Prop := ∃ D : DataW Unit, W.ownsMap Tryz.prog 9 (plainElem Tryz.prog 3) nb ks.length D ∧ NumD D ks
theorem NumsAt.to {nb : Nat} {ks : List ByteArray} {W W' : World} (h : NumsAt nb ks W) (e : W'.heap[nb]? = W.heap[nb]?) : NumsAt nb ks W' := by
  obtain ⟨D, ⟨es, clock, h1, h5⟩, h2⟩ := h
  exact ⟨D, ⟨es, clock, e.trans h1, h5⟩, h2⟩
theorem NumsAt.lt {nb : Nat} {ks : List ByteArray} {W : World} (h : NumsAt nb ks W) : nb < W.heap.size := by
  obtain ⟨D, ⟨es, clock, h1, h5⟩, h2⟩ := h
  exact (Array.getElem?_eq_some_iff.1 h1).1
/-- A walker: its facts, its maps, where it stands. -/
def WkAt (W : World) (gw : Nat) (K : Option Addr) (n c nb eb : Nat) (here : Int) : Prop := W.heap[gw]? = some (.cells #[.slice K n c, .map (some nb), .map (some eb), .int .i64 here] 76 (0, 0))
def keyA (t : Tm) : ByteArray := ⟨(keyK (preT t)).toArray⟩
theorem keyA_len {W : World} {v : Value} {t : Tm} (ht : TmV W v t) (hw : wtT t ≤ 100000) : (keyA t).size ≤ 7300000 := by
  have h := keyK_len _ (l := [t]) (Nat.le_refl _) (by rw [preL_cons, preL_nil, List.append_nil, ← preT_eq]; exact ht.good)
  rw [preL_cons, preL_nil, List.append_nil, ← preT_eq, wtL_cons, wtL_nil] at h
  show (keyK (preT t)).toArray.size ≤ _
  rw [List.size_toArray]
  omega
/-- What number tells. -/
def NumE (nb : Nat) (ks : List ByteArray) (t : Tm) (W : World) (e : Ending) (w' : World) : Prop := ∃ (i : Nat) (ks' : List ByteArray), e = .returned (.int .i64 (i : Int)) ∧ ks'[i]? = some (keyA t) ∧ ks <+: ks' ∧ ks'.length ≤ ks.length + 1 ∧ ks'.Nodup ∧ NumsAt nb ks' w' ∧ Only nb W w'
set_option maxRecDepth 100000 in
set_option maxHeartbeats 6400000 in
theorem cnum_ok {W : World} {gw nb eb n c : Nat} {K : Option Addr} {here : Int} {ks : List ByteArray} {t : Tm} {u0 u1 u2 u3 u4 : Value} (hw : WkAt W gw K n c nb eb here) (hN : NumsAt nb ks W) (hnd : ks.Nodup) (hks : ks.length ≤ 1000000) (ht : TmV W (.agg #[u0, u1, u2, u3, u4]) t) (hwt : wtT t ≤ 100000) (htab : TabM nb W) (hgn : gw ≠ nb) :
    Calls Tryz.prog 32 #[.pointer (some ⟨gw, 0, none⟩), .agg #[u0, u1, u2, u3, u4]] W (NumE nb ks t W) := by
  have z0 := heap_alloc_new W (.cells #[u0, u1, u2, u3, u4] 28)
  obtain ⟨w1, hw1⟩ : ∃ w1, w1 = W.alloc (.cells #[u0, u1, u2, u3, u4] 28) := ⟨_, rfl⟩
  have hb1 : Below W.heap.size W w1 := by rw [hw1]; exact (Below.refl _ _).alloc (Nat.le_refl _) _
  have c0 := cell_of_row _ _ 0 _ _ _ z0
  have c1 := cell_of_row _ _ 1 _ _ _ z0
  have c2 := cell_of_row _ _ 2 _ _ _ z0
  have c3 := cell_of_row _ _ 3 _ _ _ z0
  have c4 := cell_of_row _ _ 4 _ _ _ z0
  simp at c0 c1 c2 c3 c4
  have HK := Lib.hid (key_any (w := w1) (ht.bel hb1) hwt (htab.on (hb1.mono (Nat.le_of_lt hN.lt)) (Nat.le_trans (Nat.le_of_lt hN.lt) hb1.size)))
  have hkl := keyA_len ht hwt
  have HH := Lib.hid (show _ ∧ _ ∧ _ ∧ _ ∧ _ ∧ _ from ⟨hw, hN, hnd, hks, hb1, hgn⟩)
  have HW := Lib.hid hw1
  clear z0 hw hN hnd hks ht hwt htab hb1 hgn hw1
  obtain ⟨k, hk⟩ : ∃ k : ByteArray, k = keyA t := ⟨_, rfl⟩
  have HKK := Lib.hid hk
  rw [show (⟨(keyK (preT t)).toArray⟩ : ByteArray) = k from hk.symm] at HK
  rw [← hk] at hkl
  clear hk
  go_enter Tryz.func32, Tryz.ntmps32
  go_wp2_with fail
  rw [← HW.out]
  refine HK.out.mono ?_
  rintro e w2 ⟨rfl, hb2⟩
  obtain ⟨hw, hN, hnd, hks, hb1, hgn⟩ := HH.out
  have hb : Below W.heap.size W w2 := hb1.trans (hb2.mono hb1.size)
  have hwk : WkAt w2 gw K n c nb eb here := (hb.block _ (Own.lt.cell_lt' hw)).trans hw
  obtain ⟨D, hown, hD⟩ := hN.to (hb.block _ hN.lt)
  have m1 : w2.cell? ⟨gw, 1, none⟩ = some (.map (some nb)) := (cell_of_row _ _ 1 _ _ _ hwk).trans rfl
  have hkey : keyOf Tryz.prog 9 (.string k) = some (.string k.data.toList) := keyOf_string_mk Tryz.underlying9 (by unfold maxLen; omega)
  have HB := Lib.hid (show _ ∧ _ ∧ _ ∧ _ from ⟨hb, hD, hnd, hks⟩)
  by_cases hin : k ∈ ks
  · obtain ⟨i, hi⟩ := List.getElem?_of_mem hin
    obtain ⟨v, ps, hrun, hv⟩ := hown.look_ok str_lawC Tryz.underlying73 (zero_intC w2) (plainElem_int (H := Unit) Tryz.underlying3 (show (Lit.int .i64 0).wf = true by decide)) hkey
    obtain ⟨cc, rfl, hc, hwc⟩ := plainElem_int_inv Tryz.underlying3 hv
    have hcc : cc = (i : Int) := by
      have h1 := hD.at_ i k hi (.lit (.int .i64 0))
      have h2 := (congrArg Prod.fst hc).symm.trans h1
      simpa using h2
    subst hcc
    rw [(hD.has k).2 hin] at hrun
    have HI := Lib.hid (show _ ∧ _ from ⟨hi, hown⟩)
    clear hw hN hnd hks hb1 hgn hb hwk hD hown hin hi hv hc hwc HH HK c0 c1 c2 c3 c4 hb2
    go_wp2
    go_returns
    exact ⟨i, ks, rfl, by rw [HI.out.1, HKK.out], List.prefix_rfl, by omega, HB.out.2.2.1, ⟨D, HI.out.2, HB.out.2.1⟩, Only.of HB.out.1⟩
  · obtain ⟨v, ps, hrun, hv⟩ := hown.look_ok str_lawC Tryz.underlying73 (zero_intC w2) (plainElem_int (H := Unit) Tryz.underlying3 (show (Lit.int .i64 0).wf = true by decide)) hkey
    obtain ⟨cc, rfl, hc, hwc⟩ := plainElem_int_inv Tryz.underlying3 hv
    rw [hD.no hin] at hrun
    have hlen := fun ty => hown.len Tryz.underlying73 ty
    rw [hD.size] at hlen
    have hwf : (Lit.int .i64 (ks.length : Int)).wf = true := by
      rw [Lit.wf, Bool.and_eq_true, decide_eq_true_eq, decide_eq_true_eq]
      have h3 : IntKind.min .i64 = -9223372036854775808 := rfl
      have h4 : IntKind.max .i64 = 9223372036854775807 := rfl
      omega
    obtain ⟨w3, hrun2, hown3, hgr⟩ := hown.update (val := .int .i64 (ks.length : Int)) str_lawC Tryz.underlying73 (by unfold maxLen; omega) hkey (plainElem_int (H := Unit) Tryz.underlying3 hwf)
    have HI := Lib.hid (show _ ∧ _ ∧ _ from ⟨hin, hown3, hgr⟩)
    clear hw hN hnd hks hb1 hgn hb hwk hD hown hin hv hc hwc HH HK c0 c1 c2 c3 c4 hb2 hwf hown3 hgr
    go_wp2
    go_returns
    obtain ⟨ho, htp, hou, hsz, hbl⟩ := HI.out.2.2
    refine ⟨ks.length, ks ++ [k], rfl, ?_, List.prefix_append _ _, by simp, ?_, ⟨_, ?_, HB.out.2.1.put HI.out.1⟩, (Only.of HB.out.1).trans ⟨ho, htp, hou, hsz, fun i hi hn => hbl i hi (fun e => hn (by injection e))⟩⟩
    · rw [List.getElem?_append_right (Nat.le_refl _), Nat.sub_self, HKK.out]; rfl
    · refine List.nodup_append.2 ⟨HB.out.2.2.1, List.nodup_cons.2 ⟨fun h => (by cases h), List.nodup_nil⟩, fun a ha b hb e => HI.out.1 (by rw [← List.mem_singleton.1 hb, ← e]; exact ha)⟩
    · rw [List.length_append]; exact HI.out.2.1
end Go.Proofs.YtlikpnaffpngiaaGreatDoor

namespace Go.Proofs.YtlikpnaffpngiaaGreatDoor
open Go.RowKit Go.WideMaps Go.Maps

/-- How an edge's numbers read. -/
def edgeList : List Value → Option (DataW Unit × List MemPlace)
  | [.int .i64 a, .int .i64 b] => some (.agg [.lit (.int .i64 a), .lit (.int .i64 b)], [])
  | _ => none
/-- How an edge reads. -/
def edgeElem : Value → Option (DataW Unit × List MemPlace)
  | .agg cs => edgeList cs.toList
  | _ => none
theorem edgeList_inv {l : List Value} {d : DataW Unit} {ps : List MemPlace} (h : edgeList l = some (d, ps)) : ∃ a b, l = [.int .i64 a, .int .i64 b] ∧ d = .agg [.lit (.int .i64 a), .lit (.int .i64 b)] := by
  unfold edgeList at h
  split at h
  · next a b => injection h with h; injection h with h1 h2; exact ⟨a, b, rfl, h1.symm⟩
  · cases h
theorem edgeElem_inv {v : Value} {d : DataW Unit} {ps : List MemPlace} (h : edgeElem v = some (d, ps)) : ∃ a b, v = .agg #[.int .i64 a, .int .i64 b] ∧ d = .agg [.lit (.int .i64 a), .lit (.int .i64 b)] := by
  unfold edgeElem at h
  split at h
  · next cs =>
    obtain ⟨a, b, e, hd⟩ := edgeList_inv h
    exact ⟨a, b, by rw [← Array.toArray_toList (xs := cs), e], hd⟩
  · cases h
theorem int_lawC : Keyed Tryz.prog 3 := int_keyed Tryz.underlying3
theorem zero_edge (w : World) : (zeroValue 79).run Tryz.prog w = .ok (.agg #[.int .i64 0, .int .i64 0]) w := by kernel_rfl
/-- a and b are the numbers of the sides of the edge at a place. -/
def EdgeIs (fs : List Tm) (ks : List ByteArray) (p : Int) (a b : Nat) : Prop := ∃ ta tb, sidesAt fs p = some (ta, tb) ∧ ks[a]? = some (keyA ta) ∧ ks[b]? = some (keyA tb)
theorem get_prefix {ks ks' : List ByteArray} (h : ks <+: ks') {a : Nat} {s : ByteArray} (ha : ks[a]? = some s) : ks'[a]? = some s := by
  obtain ⟨l, rfl⟩ := h
  rw [List.getElem?_append_left (List.getElem?_eq_some_iff.1 ha).1]
  exact ha
theorem EdgeIs.more {fs : List Tm} {ks ks' : List ByteArray} {p : Int} {a b : Nat} (h : EdgeIs fs ks p a b) (hp : ks <+: ks') : EdgeIs fs ks' p a b := by
  obtain ⟨ta, tb, h1, h2, h3⟩ := h
  exact ⟨ta, tb, h1, get_prefix hp h2, get_prefix hp h3⟩
/-- D holds edges of these facts, by the numbers of their sides. -/
structure EdgeD (D : DataW Unit) (fs : List Tm) (ks : List ByteArray) : Prop where
  map : IsMap D
  at_ : ∀ p : Int, has D (.int .i64 p) = true → ∃ a b : Nat, EdgeIs fs ks p a b ∧ ∀ z, D.atKey (.int .i64 p) z = .agg [.lit (.int .i64 (a : Int)), .lit (.int .i64 (b : Int))]
theorem EdgeD.nil (fs : List Tm) (ks : List ByteArray) : EdgeD (.map []) fs ks := ⟨isMap_empty, fun p h => (by cases h)⟩
theorem EdgeD.more {D : DataW Unit} {fs : List Tm} {ks ks' : List ByteArray} (h : EdgeD D fs ks) (hp : ks <+: ks') : EdgeD D fs ks' := ⟨h.map, fun p hh => by
  obtain ⟨a, b, h1, h2⟩ := h.at_ p hh
  exact ⟨a, b, h1.more hp, h2⟩⟩
theorem EdgeD.put {D : DataW Unit} {fs : List Tm} {ks : List ByteArray} {p : Int} {a b : Nat} (h : EdgeD D fs ks) (he : EdgeIs fs ks p a b) : EdgeD (D.put (.int .i64 p) (.agg [.lit (.int .i64 (a : Int)), .lit (.int .i64 (b : Int))])) fs ks := by
  have hk : WideAt.IsKeyLit (.int .i64 p) := by simp [WideAt.IsKeyLit]
  refine ⟨h.map.put _ _, fun q hq => ?_⟩
  by_cases e : q = p
  · subst e
    exact ⟨a, b, he, fun z => atKey_put_same h.map hk _ _⟩
  · have hne : (Lit.int .i64 q) ≠ .int .i64 p := fun h => e (by injection h)
    rw [has_put_other hne] at hq
    obtain ⟨a', b', h1, h2⟩ := h.at_ q hq
    exact ⟨a', b', h1, fun z => (atKey_put_other hne _ _).trans (h2 z)⟩
/-- The edges' map at eb. -/
def EdgesAt (eb m : Nat) (fs : List Tm) (ks : List ByteArray) (W : World) : Prop := ∃ D : DataW Unit, W.ownsMap Tryz.prog 3 edgeElem eb m D ∧ EdgeD D fs ks
theorem EdgesAt.to {eb m : Nat} {fs : List Tm} {ks : List ByteArray} {W W' : World} (h : EdgesAt eb m fs ks W) (e : W'.heap[eb]? = W.heap[eb]?) : EdgesAt eb m fs ks W' := by
  obtain ⟨D, ⟨es, clock, h1, h5⟩, h2⟩ := h
  exact ⟨D, ⟨es, clock, e.trans h1, h5⟩, h2⟩
theorem EdgesAt.lt {eb m : Nat} {fs : List Tm} {ks : List ByteArray} {W : World} (h : EdgesAt eb m fs ks W) : eb < W.heap.size := by
  obtain ⟨D, ⟨es, clock, h1, h5⟩, h2⟩ := h
  exact (Array.getElem?_eq_some_iff.1 h1).1
theorem EdgesAt.more {eb m : Nat} {fs : List Tm} {ks ks' : List ByteArray} {W : World} (h : EdgesAt eb m fs ks W) (hp : ks <+: ks') : EdgesAt eb m fs ks' W := by
  obtain ⟨D, h1, h2⟩ := h
  exact ⟨D, h1, h2.more hp⟩
/-- A lookup of the edge at a place. -/
theorem EdgesAt.look {eb m : Nat} {fs : List Tm} {ks : List ByteArray} {W : World} (h : EdgesAt eb m fs ks W) {p : Int} (hp : -9223372036854775808 ≤ p ∧ p < 9223372036854775808) :
    (∃ a b : Nat, EdgeIs fs ks p a b ∧ (Instr.lookup 74 (.map (some eb)) (.int .i64 p) true).run Tryz.prog W = .ok (.tuple #[.agg #[.int .i64 (a : Int), .int .i64 (b : Int)], .bool true]) W) ∨ ∃ a b : Int, (Instr.lookup 74 (.map (some eb)) (.int .i64 p) true).run Tryz.prog W = .ok (.tuple #[.agg #[.int .i64 a, .int .i64 b], .bool false]) W := by
  obtain ⟨D, hown, hD⟩ := h
  have hwf : (Lit.int .i64 p).wf = true := by
    rw [Lit.wf, Bool.and_eq_true, decide_eq_true_eq, decide_eq_true_eq]
    have h3 : IntKind.min .i64 = -9223372036854775808 := rfl
    have h4 : IntKind.max .i64 = 9223372036854775807 := rfl
    omega
  obtain ⟨v, ps, hrun, hv⟩ := hown.look_ok int_lawC Tryz.underlying74 (zero_edge W) (show edgeElem (.agg #[.int .i64 0, .int .i64 0]) = some (.agg [.lit (.int .i64 0), .lit (.int .i64 0)], []) from rfl) (keyOf_int_mk Tryz.underlying3 hwf)
  obtain ⟨x, y, rfl, hd⟩ := edgeElem_inv hv
  cases hh : has D (.int .i64 p) with
  | true =>
    rw [hh] at hrun
    obtain ⟨a, b, he, hat⟩ := hD.at_ p hh
    have e := (hat (.agg [.lit (.int .i64 0), .lit (.int .i64 0)])).symm.trans hd
    simp at e
    obtain ⟨e1, e2⟩ := e
    subst e1 e2
    exact .inl ⟨a, b, he, hrun⟩
  | false =>
    rw [hh] at hrun
    exact .inr ⟨x, y, hrun⟩
end Go.Proofs.YtlikpnaffpngiaaGreatDoor

namespace Go.Proofs.YtlikpnaffpngiaaGreatDoor
open Go.RowKit Go.WideMaps Go.Maps

/-- What edge tells. -/
def CEdgeE (nb eb m : Nat) (fs : List Tm) (ks : List ByteArray) (p : Int) (W : World) (e : Ending) (w' : World) : Prop := Only2 nb eb W w' ∧ ((sidesAt fs p = none ∧ ThrowP e) ∨ ∃ (a b : Nat) (ks' : List ByteArray), e = .returned (.agg #[.int .i64 (a : Int), .int .i64 (b : Int)]) ∧ EdgeIs fs ks' p a b ∧ ks <+: ks' ∧ ks'.length ≤ ks.length + 2 ∧ ks'.Nodup ∧ NumsAt nb ks' w' ∧ EdgesAt eb (m + 1) fs ks' w')
theorem EdgesAt.up {eb m : Nat} {fs : List Tm} {ks : List ByteArray} {W : World} (h : EdgesAt eb m fs ks W) : EdgesAt eb (m + 1) fs ks W := by
  obtain ⟨D, h1, h2⟩ := h
  exact ⟨D, h1.mono (Nat.le_succ _), h2⟩
theorem Only2.of {nb eb : Nat} {a b : World} (h : Below a.heap.size a b) : Only2 nb eb a b := ⟨h.os, h.tape, h.output, h.size, fun k hk _ _ => h.block k hk⟩
theorem two_setC {w : World} {b : Nat} {x0 x1 y0 y1 : Value} {T : TypeId} {fz : Nat × Nat} (h : w.heap[b]? = some (.cells #[x0, x1] T fz)) : ((w.setCell ⟨b, 0, none⟩ y0).setCell ⟨b, 1, none⟩ y1).heap[b]? = some (.cells #[y0, y1] T fz) := by
  simp [World.setCell, Array.getElem?_modify, h]
set_option maxRecDepth 100000 in
set_option maxHeartbeats 6400000 in
theorem cedge_met {W : World} {gw nb eb c m : Nat} {K : Option Addr} {here : Int} {ks : List ByteArray} {fs : List Tm} {p : Int} {a b : Nat} (hw : WkAt W gw K fs.length c nb eb here) (hN : NumsAt nb ks W) (hnd : ks.Nodup) (hE : EdgesAt eb m fs ks W) (he : EdgeIs fs ks p a b)
    (hrun : ∀ W', W'.heap[eb]? = W.heap[eb]? → (Instr.lookup 74 (.map (some eb)) (.int .i64 p) true).run Tryz.prog W' = .ok (.tuple #[.agg #[.int .i64 (a : Int), .int .i64 (b : Int)], .bool true]) W') :
    Calls Tryz.prog 33 #[.pointer (some ⟨gw, 0, none⟩), .int .i64 p] W (CEdgeE nb eb m fs ks p W) := by
  have z0 := heap_alloc_new W (.cells #[.int .i64 0, .int .i64 0] 79)
  obtain ⟨w1, hw1⟩ : ∃ w1, w1 = W.alloc (.cells #[.int .i64 0, .int .i64 0] 79) := ⟨_, rfl⟩
  have hb1 : Below W.heap.size W w1 := by rw [hw1]; exact (Below.refl _ _).alloc (Nat.le_refl _) _
  rw [← hw1] at z0
  have hs1 : w1.heap.size = W.heap.size + 1 := by rw [hw1]; exact World.size_alloc ..
  have m2 : w1.cell? ⟨gw, 2, none⟩ = some (.map (some eb)) := (cell_of_row _ _ 2 _ _ _ ((hb1.block _ (Own.lt.cell_lt' hw)).trans hw)).trans rfl
  have hr1 := hrun w1 (hb1.block _ hE.lt)
  obtain ⟨w2, hw2⟩ : ∃ w2, w2 = w1.alloc (.cells #[.int .i64 (a : Int), .int .i64 (b : Int)] 79) := ⟨_, rfl⟩
  have hb2 : Below w1.heap.size w1 w2 := by rw [hw2]; exact (Below.refl _ _).alloc (Nat.le_refl _) _
  have z1 : w2.heap[w1.heap.size]? = some (.cells #[.int .i64 (a : Int), .int .i64 (b : Int)] 79 (0, 0)) := by rw [hw2]; exact heap_alloc_new _ _
  have z2 : w2.heap[W.heap.size]? = some (.cells #[.int .i64 0, .int .i64 0] 79 (0, 0)) := (hb2.block _ (Own.lt.cell_lt' z0)).trans z0
  rw [hs1] at z1
  have c0 : w2.cell? ⟨W.heap.size + 1, 0, none⟩ = some (.int .i64 (a : Int)) := (cell_of_row _ _ 0 _ _ _ z1).trans rfl
  have c1 : w2.cell? ⟨W.heap.size + 1, 1, none⟩ = some (.int .i64 (b : Int)) := (cell_of_row _ _ 1 _ _ _ z1).trans rfl
  have d0 : w2.cell? ⟨W.heap.size, 0, none⟩ = some (.int .i64 0) := (cell_of_row _ _ 0 _ _ _ z2).trans rfl
  have d1 : w2.cell? ⟨W.heap.size, 1, none⟩ = some (.int .i64 0) := (cell_of_row _ _ 1 _ _ _ z2).trans rfl
  have ff : ∀ o, w2.frozen? ⟨W.heap.size, o, none⟩ = false := fun o => by simp [World.frozen?, z2]
  have f0 := ff 0
  have f1 := ff 1
  obtain ⟨wf, hwf⟩ : ∃ wf, wf = (W.alloc (.cells #[.int .i64 (a : Int), .int .i64 (b : Int)] 79)).alloc (.cells #[.int .i64 (a : Int), .int .i64 (b : Int)] 79) := ⟨_, rfl⟩
  have q : wf.heap[W.heap.size]? = some (.cells #[.int .i64 (a : Int), .int .i64 (b : Int)] 79 (0, 0)) := by
    rw [hwf]
    exact (Below.heap_alloc _ _ _ (by rw [World.size_alloc]; omega)).trans (heap_alloc_new _ _)
  have hbf : Below W.heap.size W wf := by
    rw [hwf]
    exact ((Below.refl _ _).alloc (Nat.le_refl _) _).alloc (by rw [World.size_alloc]; omega) _
  have p0 := (cell_of_row _ _ 0 _ _ _ q).trans rfl
  have p1 := (cell_of_row _ _ 1 _ _ _ q).trans rfl
  have HR := Lib.hid (show CEdgeE nb eb m fs ks p W (.returned (.agg #[.int .i64 (a : Int), .int .i64 (b : Int)])) wf from ⟨Only2.of hbf, .inr ⟨a, b, ks, rfl, he, List.prefix_rfl, by omega, hnd, hN.to (hbf.block _ hN.lt), (hE.up).to (hbf.block _ hE.lt)⟩⟩)
  have HW := Lib.hid (show _ ∧ _ ∧ _ from ⟨hw1, hw2, hwf⟩)
  rw [hw1] at m2 hr1
  rw [hw2, hw1] at c0 c1 d0 d1 f0 f1
  clear z0 z1 z2 ff hb1 hb2 hbf hw hN hE he hrun hnd hw1 hw2 hwf q hs1
  go_enter Tryz.func33, Tryz.ntmps33
  go_wp2
  rw [← HW.out.2.2]
  exact bodyPost_ret (v := .agg #[.int .i64 (a : Int), .int .i64 (b : Int)]) (by simp [results, Tryz.results33, go_sem, p0, p1]) rfl HR.out
/-- Where a map lies no cell lies. -/
theorem NumsAt.none {nb : Nat} {ks : List ByteArray} {W : World} (h : NumsAt nb ks W) {a : Addr} {u : Value} (hc : W.cell? a = some u) : a.block ≠ nb := fun e => by
  obtain ⟨D, ⟨es, clock, h1, _⟩, _⟩ := h
  subst e
  simp [World.cell?, h1] at hc
theorem NumsAt.sub {nb : Nat} {ks : List ByteArray} {W W' : World} (h : NumsAt nb ks W) (ho : Only nb W W') : Sub W W' := fun a u hc => (cell_congr (ho.block _ (cell_lt hc) (h.none hc))).trans hc
theorem sides_wt {fs : List Tm} {p : Int} {a b : Tm} (h : sidesAt fs p = some (a, b)) (hw : ∀ t ∈ fs, wtT t ≤ 100000) : wtT a ≤ 100000 ∧ wtT b ≤ 100000 := by
  unfold sidesAt at h
  by_cases h0 : 0 ≤ p
  · rw [if_pos h0] at h
    obtain ⟨f, hf, hs⟩ := Option.bind_eq_some_iff.1 h
    have h1 := hw f (List.mem_of_getElem? hf)
    unfold sidesT at hs
    split at hs
    · split at hs
      · next a' b' e =>
        injection hs with hs
        injection hs with e1 e2
        subst e1 e2
        have h2 := wtT_eq f
        rw [e, wtL_cons, wtL_cons, wtL_nil] at h2
        omega
      · cases hs
    · cases hs
  · rw [if_neg h0] at h
    cases h
set_option maxRecDepth 100000 in
set_option maxHeartbeats 6400000 in
theorem cedge_new {W : World} {gw nb eb c m : Nat} {K : Option Addr} {here : Int} {ks : List ByteArray} {fs : List Tm} {p x y : Int} (hw : WkAt W gw K fs.length c nb eb here) (hN : NumsAt nb ks W) (hnd : ks.Nodup) (hE : EdgesAt eb m fs ks W) (hf : TmsAt W K fs) (hp : -9223372036854775808 ≤ p ∧ p < 9223372036854775808) (hwt : ∀ t ∈ fs, wtT t ≤ 100000) (hks : ks.length ≤ 900000) (hm : m ≤ 900000) (htab : TabM nb W) (hne : gw ≠ nb ∧ gw ≠ eb ∧ nb ≠ eb)
    (hrun : ∀ W', W'.heap[eb]? = W.heap[eb]? → (Instr.lookup 74 (.map (some eb)) (.int .i64 p) true).run Tryz.prog W' = .ok (.tuple #[.agg #[.int .i64 x, .int .i64 y], .bool false]) W') :
    Calls Tryz.prog 33 #[.pointer (some ⟨gw, 0, none⟩), .int .i64 p] W (CEdgeE nb eb m fs ks p W) := by
  have z0 := heap_alloc_new W (.cells #[.int .i64 0, .int .i64 0] 79)
  obtain ⟨w1, hw1⟩ : ∃ w1, w1 = W.alloc (.cells #[.int .i64 0, .int .i64 0] 79) := ⟨_, rfl⟩
  have hb1 : Below W.heap.size W w1 := by rw [hw1]; exact (Below.refl _ _).alloc (Nat.le_refl _) _
  rw [← hw1] at z0
  have hs1 : w1.heap.size = W.heap.size + 1 := by rw [hw1]; exact World.size_alloc ..
  have m2 : w1.cell? ⟨gw, 2, none⟩ = some (.map (some eb)) := (cell_of_row _ _ 2 _ _ _ ((hb1.block _ (Own.lt.cell_lt' hw)).trans hw)).trans rfl
  have hr1 := hrun w1 (hb1.block _ hE.lt)
  obtain ⟨w2, hw2⟩ : ∃ w2, w2 = w1.alloc (.cells #[.int .i64 x, .int .i64 y] 79) := ⟨_, rfl⟩
  have hb2 : Below W.heap.size W w2 := by rw [hw2]; exact hb1.alloc hb1.size _
  have z1 : w2.heap[w1.heap.size]? = some (.cells #[.int .i64 x, .int .i64 y] 79 (0, 0)) := by rw [hw2]; exact heap_alloc_new _ _
  rw [hs1] at z1
  have m0 : w2.cell? ⟨gw, 0, none⟩ = some (.slice K fs.length c) := (cell_of_row _ _ 0 _ _ _ ((hb2.block _ (Own.lt.cell_lt' hw)).trans hw)).trans rfl
  have HS := Lib.hid (sides_ok (w := w2) (c := c) hp (hf.below hb2))
  have HH := Lib.hid (show _ ∧ _ ∧ _ ∧ _ ∧ _ ∧ _ ∧ _ from ⟨hw, hN, hnd, hE, hf, hb2, z1⟩)
  have HW := Lib.hid (show _ ∧ _ from ⟨hw1, hw2⟩)
  have HZ := Lib.hid (show w2.heap[W.heap.size]? = some (.cells #[.int .i64 0, .int .i64 0] 79 (0, 0)) from (by rw [hw2]; exact (Below.heap_alloc _ _ _ (Own.lt.cell_lt' z0)).trans z0))
  rw [hw1] at m2 hr1
  rw [hw2, hw1] at m0
  clear z0 z1 hb1 hb2 hw hN hE hrun hnd hf hw1 hw2 hs1
  go_enter Tryz.func33, Tryz.ntmps33
  go_wp2_with fail
  rw [← HW.out.1, ← HW.out.2]
  refine HS.out.mono ?_
  rintro e w3 ⟨hb3, ⟨hno, he⟩ | ⟨ta, tb, x0, x1, x2, x3, x4, y0, y1, y2, y3, y4, hs, rfl, hta, htb⟩⟩
  · subst he
    exact ⟨rfl, Only2.of (HH.out.2.2.2.2.2.1.trans (hb3.mono HH.out.2.2.2.2.2.1.size)), .inl ⟨hno, rfl⟩⟩
  · obtain ⟨A1, K1, e1, e1', e⟩ := TmV.five' hta
    simp only [Value.agg.injEq, Array.mk.injEq, List.cons.injEq, and_true] at e
    obtain ⟨rfl, rfl, rfl, rfl, rfl⟩ := e
    obtain ⟨A2, K2, e2, e2', e⟩ := TmV.five' htb
    simp only [Value.agg.injEq, Array.mk.injEq, List.cons.injEq, and_true] at e
    obtain ⟨rfl, rfl, rfl, rfl, rfl⟩ := e
    obtain ⟨w4, hw4⟩ : ∃ w4, w4 = (w3.alloc (.cells #[.int .u8 ta.kind, .string ta.name, .bool ta.neg, .slice A1 ta.ds.length e1, .slice K1 ta.kids.length e1'] 28)).alloc (.cells #[.int .u8 tb.kind, .string tb.name, .bool tb.neg, .slice A2 tb.ds.length e2, .slice K2 tb.kids.length e2'] 28) := ⟨_, rfl⟩
    have hb4 : Below w3.heap.size w3 w4 := by
      rw [hw4]
      exact ((Below.refl _ _).alloc (Nat.le_refl _) _).alloc (by rw [World.size_alloc]; omega) _
    have q7 : w4.heap[w3.heap.size]? = some (.cells #[.int .u8 ta.kind, .string ta.name, .bool ta.neg, .slice A1 ta.ds.length e1, .slice K1 ta.kids.length e1'] 28 (0, 0)) := by
      rw [hw4]
      exact (Below.heap_alloc _ _ _ (by rw [World.size_alloc]; omega)).trans (heap_alloc_new _ _)
    have q8 : w4.heap[w3.heap.size + 1]? = some (.cells #[.int .u8 tb.kind, .string tb.name, .bool tb.neg, .slice A2 tb.ds.length e2, .slice K2 tb.kids.length e2'] 28 (0, 0)) := by
      rw [hw4, show w3.heap.size + 1 = (w3.alloc (.cells #[.int .u8 ta.kind, .string ta.name, .bool ta.neg, .slice A1 ta.ds.length e1, .slice K1 ta.kids.length e1'] 28)).heap.size from (World.size_alloc ..).symm]
      exact heap_alloc_new _ _
    have hb34 : Below w2.heap.size w2 w4 := hb3.trans (hb4.mono hb3.size)
    have q5 : w4.heap[W.heap.size + 1]? = some (.cells #[.int .i64 x, .int .i64 y] 79 (0, 0)) := (hb34.block _ (Own.lt.cell_lt' HH.out.2.2.2.2.2.2)).trans HH.out.2.2.2.2.2.2
    have hbW : Below W.heap.size W w4 := HH.out.2.2.2.2.2.1.trans (hb34.mono HH.out.2.2.2.2.2.1.size)
    have hnW : nb < W.heap.size := HH.out.2.1.lt
    have hs3 : W.heap.size + 1 < w3.heap.size := Nat.lt_of_lt_of_le (Own.lt.cell_lt' HH.out.2.2.2.2.2.2) hb3.size
    have HK := Lib.hid (show ∀ w' : World, Only nb w4 w' → w'.cell? ⟨w3.heap.size, 0, none⟩ = some (.int .u8 ta.kind) ∧ w'.cell? ⟨w3.heap.size, 1, none⟩ = some (.string ta.name) ∧ w'.cell? ⟨w3.heap.size, 2, none⟩ = some (.bool ta.neg) ∧ w'.cell? ⟨w3.heap.size, 3, none⟩ = some (.slice A1 ta.ds.length e1) ∧ w'.cell? ⟨w3.heap.size, 4, none⟩ = some (.slice K1 ta.kids.length e1') ∧ w'.cell? ⟨w3.heap.size + 1, 0, none⟩ = some (.int .u8 tb.kind) ∧ w'.cell? ⟨w3.heap.size + 1, 1, none⟩ = some (.string tb.name) ∧ w'.cell? ⟨w3.heap.size + 1, 2, none⟩ = some (.bool tb.neg) ∧ w'.cell? ⟨w3.heap.size + 1, 3, none⟩ = some (.slice A2 tb.ds.length e2) ∧ w'.cell? ⟨w3.heap.size + 1, 4, none⟩ = some (.slice K2 tb.kids.length e2') ∧ w'.cell? ⟨W.heap.size + 1, 0, none⟩ = some (.int .i64 x) ∧ w'.cell? ⟨W.heap.size + 1, 1, none⟩ = some (.int .i64 y) ∧ w'.frozen? ⟨W.heap.size + 1, 0, none⟩ = false ∧ w'.frozen? ⟨W.heap.size + 1, 1, none⟩ = false from fun w' ho => by
      have r7 := (ho.block _ (Own.lt.cell_lt' q7) (by omega)).trans q7
      have r8 := (ho.block _ (Own.lt.cell_lt' q8) (by omega)).trans q8
      have r5 := (ho.block _ (Own.lt.cell_lt' q5) (by omega)).trans q5
      exact ⟨(cell_of_row _ _ 0 _ _ _ r7).trans rfl, (cell_of_row _ _ 1 _ _ _ r7).trans rfl, (cell_of_row _ _ 2 _ _ _ r7).trans rfl, (cell_of_row _ _ 3 _ _ _ r7).trans rfl, (cell_of_row _ _ 4 _ _ _ r7).trans rfl, (cell_of_row _ _ 0 _ _ _ r8).trans rfl, (cell_of_row _ _ 1 _ _ _ r8).trans rfl, (cell_of_row _ _ 2 _ _ _ r8).trans rfl, (cell_of_row _ _ 3 _ _ _ r8).trans rfl, (cell_of_row _ _ 4 _ _ _ r8).trans rfl, (cell_of_row _ _ 0 _ _ _ r5).trans rfl, (cell_of_row _ _ 1 _ _ _ r5).trans rfl, by simp [World.frozen?, r5], by simp [World.frozen?, r5]⟩)
    have HN := Lib.hid (show _ ∧ _ ∧ _ ∧ _ ∧ _ ∧ _ ∧ _ from ⟨hs, hta, htb, hb4, hbW, hb34, hw4⟩)
    have HQ := Lib.hid (show ∀ w' : World, Only nb w4 w' → w'.heap[W.heap.size + 1]? = some (.cells #[.int .i64 x, .int .i64 y] 79 (0, 0)) ∧ w'.heap[W.heap.size]? = some (.cells #[.int .i64 0, .int .i64 0] 79 (0, 0)) ∧ WkAt w' gw K fs.length c nb eb here ∧ EdgesAt eb m fs ks w' from fun w' ho => by
      have q4 : w4.heap[W.heap.size]? = some (.cells #[.int .i64 0, .int .i64 0] 79 (0, 0)) := (hb34.block _ (Own.lt.cell_lt' HZ.out)).trans HZ.out
      have hgW := Own.lt.cell_lt' HH.out.1
      have heW := HH.out.2.2.2.1.lt
      exact ⟨(ho.block _ (Own.lt.cell_lt' q5) (by omega)).trans q5, (ho.block _ (Own.lt.cell_lt' q4) (by omega)).trans q4, ((ho.block _ (Nat.lt_of_lt_of_le hgW hbW.size) hne.1).trans (hbW.block _ hgW)).trans HH.out.1, HH.out.2.2.2.1.to ((ho.block _ (Nat.lt_of_lt_of_le heW hbW.size) (fun e => hne.2.2 e.symm)).trans (hbW.block _ heW))⟩)
    have k4 := HK.out w4 (Only.refl _ _)
    have hd7 : ¬ W.heap.size + 1 = w3.heap.size := by omega
    have hd8 : ¬ W.heap.size + 1 = w3.heap.size + 1 := by omega
    have hd8' : ¬ W.heap.size = w3.heap.size := by omega
    have HS3 := Lib.hid hs3
    clear hs3
    have hwts := sides_wt hs hwt
    have HNum := Lib.hid (show ∀ (W' : World) (kk : List ByteArray), Only nb w4 W' → NumsAt nb kk W' → kk.Nodup → kk.length ≤ 1000000 → Calls Tryz.prog 32 #[.pointer (some ⟨gw, 0, none⟩), .agg #[.int .u8 ta.kind, .string ta.name, .bool ta.neg, .slice A1 ta.ds.length e1, .slice K1 ta.kids.length e1']] W' (NumE nb kk ta W') ∧ Calls Tryz.prog 32 #[.pointer (some ⟨gw, 0, none⟩), .agg #[.int .u8 tb.kind, .string tb.name, .bool tb.neg, .slice A2 tb.ds.length e2, .slice K2 tb.kids.length e2']] W' (NumE nb kk tb W') from fun W' kk ho hN' hnd' hl' => by
      have hgW := Own.lt.cell_lt' HH.out.1
      have hN4 : NumsAt nb ks w4 := HH.out.2.1.to (hbW.block _ hnW)
      have hw' : WkAt W' gw K fs.length c nb eb here := ((ho.block _ (Nat.lt_of_lt_of_le hgW hbW.size) hne.1).trans (hbW.block _ hgW)).trans HH.out.1
      have htab' : TabM nb W' := htab.on ((hbW.mono (Nat.le_of_lt hnW)).trans (ho.below (Nat.le_refl _) (Nat.le_of_lt hN4.lt))) (Nat.le_refl _)
      exact ⟨cnum_ok hw' hN' hnd' hl' ((hta.bel hb4).sub (hN4.sub ho)) hwts.1 htab' hne.1, cnum_ok hw' hN' hnd' hl' ((htb.bel hb4).sub (hN4.sub ho)) hwts.2 htab' hne.1⟩)
    have HP := Lib.hid (show NumsAt nb ks w4 ∧ _ ∧ _ ∧ _ from ⟨HH.out.2.1.to (hbW.block _ hnW), hks, hm, hne⟩)
    clear hs hta htb hb4 hbW hb34 q7 q8 q5 hb3 hnW m0 m2 hr1 HS
    go_wp2_with fail
    rw [← hw4]
    clear hw4 hwts hks hm hne htab hwt
    obtain ⟨l0, l1, l2, l3, l4, l5, l6, l7, l8, l9, l10, l11, l12, l13⟩ := k4
    go_region_with (first
        | (go_at_call 32; refine (HNum.out w5 _ KA.out.2.2.2.2.2.2 KA.out.2.2.2.2.2.1 KA.out.2.2.2.2.1 KA.out.1).2.mono ?_; rintro e w6 ⟨i2, ks2, rfl, hi2, hpre2, hl2, hnd2, hN2, ho2⟩; have KB := Lib.hid (show ks2.length ≤ ks.length + 2 ∧ ks2[i2]? = some (keyA tb) ∧ ks1 <+: ks2 ∧ True ∧ ks2.Nodup ∧ NumsAt nb ks2 w6 ∧ Only nb w4 w6 from ⟨by have := KA.out.2.2.2.1; omega, hi2, hpre2, trivial, hnd2, hN2, KA.out.2.2.2.2.2.2.trans ho2⟩); have k6 := HK.out w6 KB.out.2.2.2.2.2.2; clear hi2 hpre2 hl2 hnd2 hN2 ho2; obtain ⟨h0, h1, h2, h3, h4, h5, h6, h7, h8, h9, h10, h11, h12, h13⟩ := k6)
        | (go_at_call 32; refine (HNum.out w4.drew _ (Only.of (Below.refl _ _).drew) (HP.out.1.to rfl) HH.out.2.2.1 (Nat.le_trans HP.out.2.1 (by omega))).1.mono ?_; rintro e w5 ⟨i1, ks1, rfl, hi1, hpre1, hl1, hnd1, hN1, ho1⟩; have KA := Lib.hid (show ks1.length ≤ 1000000 ∧ ks1[i1]? = some (keyA ta) ∧ ks <+: ks1 ∧ ks1.length ≤ ks.length + 1 ∧ ks1.Nodup ∧ NumsAt nb ks1 w5 ∧ Only nb w4 w5 from ⟨by have := HP.out.2.1; omega, hi1, hpre1, hl1, hnd1, hN1, (Only.of (Below.refl _ _).drew).trans ho1⟩); have k5 := HK.out w5 KA.out.2.2.2.2.2.2; clear hi1 hpre1 hl1 hnd1 hN1 ho1; obtain ⟨j0, j1, j2, j3, j4, j5, j6, j7, j8, j9, j10, j11, j12, j13⟩ := k5))
    all_goals (rename_i Kx hKx; refine then_n ?_; refine hKx _ _ ?_; clear hKx Kx)
    all_goals obtain ⟨w7, hw7⟩ : ∃ w7, w7 = (w6.setCell ⟨W.heap.size + 1, 0, none⟩ (.int .i64 (i1 : Int))).setCell ⟨W.heap.size + 1, 1, none⟩ (.int .i64 (i2 : Int)) := ⟨_, rfl⟩
    all_goals rw [← hw7]
    all_goals
      obtain ⟨b5, b4, bg, bE⟩ := HQ.out w6 KB.out.2.2.2.2.2.2
      have hgW := Own.lt.cell_lt' HH.out.1
      have heW := HH.out.2.2.2.1.lt
      have hnW := HH.out.2.1.lt
      have r5 : w7.heap[W.heap.size + 1]? = some (.cells #[.int .i64 (i1 : Int), .int .i64 (i2 : Int)] 79 (0, 0)) := by rw [hw7]; exact two_setC b5
      have off7 : ∀ k, k ≠ W.heap.size + 1 → w7.heap[k]? = w6.heap[k]? := fun k hk => by rw [hw7]; exact (Below.heap_setCell _ _ _ _ hk).trans (Below.heap_setCell _ _ _ _ hk)
      have r4 : w7.heap[W.heap.size]? = some (.cells #[.int .i64 0, .int .i64 0] 79 (0, 0)) := (off7 _ (by omega)).trans b4
      have rg : WkAt w7 gw K fs.length c nb eb here := (off7 gw (by omega)).trans bg
      have hedge : EdgeIs fs ks2 p i1 i2 := ⟨ta, tb, HN.out.1, get_prefix KB.out.2.2.1 KA.out.2.1, KB.out.2.1⟩
      have hpre : ks <+: ks2 := KA.out.2.2.1.trans KB.out.2.2.1
      obtain ⟨D, hown, hD⟩ := ((bE.to (off7 eb (by omega))).more hpre).to (W' := w7.drew) rfl
      have hwf : (Lit.int .i64 p).wf = true := by
        rw [Lit.wf, Bool.and_eq_true, decide_eq_true_eq, decide_eq_true_eq]
        have h3 : IntKind.min .i64 = -9223372036854775808 := rfl
        have h4 : IntKind.max .i64 = 9223372036854775807 := rfl
        omega
      obtain ⟨w8, hrun8, hown8, hgr8⟩ := hown.update (val := .agg #[.int .i64 (i1 : Int), .int .i64 (i2 : Int)]) int_lawC Tryz.underlying74 (by have := HP.out.2.2.1; unfold maxLen; omega) (keyOf_int_mk Tryz.underlying3 hwf) (show edgeElem (.agg #[.int .i64 (i1 : Int), .int .i64 (i2 : Int)]) = some (.agg [.lit (.int .i64 (i1 : Int)), .lit (.int .i64 (i2 : Int))], []) from rfl)
      obtain ⟨go, gt, gu, gz, gb⟩ := hgr8
      have off8 : ∀ k, k < w7.heap.size → k ≠ eb → w8.heap[k]? = w7.heap[k]? := fun k hk hn => gb k hk (fun e => hn (by injection e))
      have s7 : W.heap.size + 1 < w7.heap.size := Own.lt.cell_lt' r5
      have v5 := (off8 _ s7 (by omega)).trans r5
      have v4 := (off8 _ (Nat.lt_trans (Nat.lt_succ_self _) s7) (by omega)).trans r4
      have m2 : w7.cell? ⟨gw, 2, none⟩ = some (.map (some eb)) := (cell_of_row _ _ 2 _ _ _ rg).trans rfl
      have c50 : w7.cell? ⟨W.heap.size + 1, 0, none⟩ = some (.int .i64 (i1 : Int)) := (cell_of_row _ _ 0 _ _ _ r5).trans rfl
      have c51 : w7.cell? ⟨W.heap.size + 1, 1, none⟩ = some (.int .i64 (i2 : Int)) := (cell_of_row _ _ 1 _ _ _ r5).trans rfl
      have d50 : w8.cell? ⟨W.heap.size + 1, 0, none⟩ = some (.int .i64 (i1 : Int)) := (cell_of_row _ _ 0 _ _ _ v5).trans rfl
      have d51 : w8.cell? ⟨W.heap.size + 1, 1, none⟩ = some (.int .i64 (i2 : Int)) := (cell_of_row _ _ 1 _ _ _ v5).trans rfl
      have d40 : w8.cell? ⟨W.heap.size, 0, none⟩ = some (.int .i64 0) := (cell_of_row _ _ 0 _ _ _ v4).trans rfl
      have d41 : w8.cell? ⟨W.heap.size, 1, none⟩ = some (.int .i64 0) := (cell_of_row _ _ 1 _ _ _ v4).trans rfl
      have f40 : w8.frozen? ⟨W.heap.size, 0, none⟩ = false := by simp [World.frozen?, v4]
      have f41 : w8.frozen? ⟨W.heap.size, 1, none⟩ = false := by simp [World.frozen?, v4]
      obtain ⟨wf, hwf⟩ : ∃ wf, wf = (w8.setCell ⟨W.heap.size, 0, none⟩ (.int .i64 (i1 : Int))).setCell ⟨W.heap.size, 1, none⟩ (.int .i64 (i2 : Int)) := ⟨_, rfl⟩
      have q : wf.heap[W.heap.size]? = some (.cells #[.int .i64 (i1 : Int), .int .i64 (i2 : Int)] 79 (0, 0)) := by rw [hwf]; exact two_setC v4
      have offf : ∀ k, k ≠ W.heap.size → wf.heap[k]? = w8.heap[k]? := fun k hk => by rw [hwf]; exact (Below.heap_setCell _ _ _ _ hk).trans (Below.heap_setCell _ _ _ _ hk)
      have p0 := (cell_of_row _ _ 0 _ _ _ q).trans rfl
      have p1 := (cell_of_row _ _ 1 _ _ _ q).trans rfl
      have z6 : w7.heap.size = w6.heap.size := by rw [hw7]; simp
      have hfin : Only2 nb eb W wf := by
        have o6 := KB.out.2.2.2.2.2.2
        have bW := HN.out.2.2.2.2.1
        refine ⟨?_, ?_, ?_, ?_, fun k hk hn he => ?_⟩
        · rw [hwf]; exact go.trans (by rw [show w7.drew.os = w6.os from by rw [hw7]; rfl]; exact o6.os.trans bW.os)
        · rw [hwf]; exact gt.trans (by rw [show w7.drew.tape = w6.tape from by rw [hw7]; rfl]; exact o6.tape.trans bW.tape)
        · rw [hwf]; exact gu.trans (by rw [show w7.drew.output = w6.output from by rw [hw7]; rfl]; exact o6.output.trans bW.output)
        · have e1 : wf.heap.size = w8.heap.size := by rw [hwf]; simp
          have e2 : w7.drew.heap.size = w7.heap.size := rfl
          have := bW.size
          have := o6.size
          omega
        · rw [offf k (by omega), off8 k (by omega) he, off7 k (by omega)]
          exact (o6.block k (Nat.lt_of_lt_of_le hk bW.size) hn).trans (bW.block k hk)
      have hnums : NumsAt nb ks2 wf := KB.out.2.2.2.2.2.1.to (by rw [offf nb (by omega), off8 nb (by omega) HP.out.2.2.2.2.2, off7 nb (by omega)])
      have hedges : EdgesAt eb (m + 1) fs ks2 wf := EdgesAt.to (W := w8) ⟨_, hown8, hD.put hedge⟩ (offf eb (by omega))
      have HR := Lib.hid (show CEdgeE nb eb m fs ks p W (.returned (.agg #[.int .i64 (i1 : Int), .int .i64 (i2 : Int)])) wf from ⟨hfin, .inr ⟨i1, i2, ks2, rfl, hedge, hpre, KB.out.1, KB.out.2.2.2.2.1, hnums, hedges⟩⟩)
      have HF := Lib.hid hwf
      clear b5 b4 bg bE hgW heW hnW r5 off7 r4 rg hedge hpre hown hD hown8 go gt gu gz gb off8 s7 v5 v4 q offf z6 hfin hnums hedges hwf h0 h1 h2 h3 h4 h5 h6 h7 h8 h9 h10 h11 h12 h13 hw7
      go_wp2_with fail
      go_region
      rename_i Kx hKx
      refine then_n ?_
      refine hKx _ _ ?_
      clear hKx Kx m2 c50 c51 hrun8
      go_wp2
      rw [← HF.out]
      exact bodyPost_ret (v := .agg #[.int .i64 (i1 : Int), .int .i64 (i2 : Int)]) (by simp [results, Tryz.results33, go_sem, p0, p1]) rfl HR.out
end Go.Proofs.YtlikpnaffpngiaaGreatDoor

namespace Go.Proofs.YtlikpnaffpngiaaGreatDoor
open Go.RowKit Go.WideMaps Go.Maps

theorem cedge_ok {W : World} {gw nb eb c m : Nat} {K : Option Addr} {here : Int} {ks : List ByteArray} {fs : List Tm} {p : Int} (hw : WkAt W gw K fs.length c nb eb here) (hN : NumsAt nb ks W) (hnd : ks.Nodup) (hE : EdgesAt eb m fs ks W) (hf : TmsAt W K fs) (hp : -9223372036854775808 ≤ p ∧ p < 9223372036854775808) (hwt : ∀ t ∈ fs, wtT t ≤ 100000) (hks : ks.length ≤ 900000) (hm : m ≤ 900000) (htab : TabM nb W) (hne : gw ≠ nb ∧ gw ≠ eb ∧ nb ≠ eb) :
    Calls Tryz.prog 33 #[.pointer (some ⟨gw, 0, none⟩), .int .i64 p] W (CEdgeE nb eb m fs ks p W) := by
  obtain ⟨D, hown, hD⟩ := hE
  have hE : EdgesAt eb m fs ks W := ⟨D, hown, hD⟩
  have hwf : (Lit.int .i64 p).wf = true := by
    rw [Lit.wf, Bool.and_eq_true, decide_eq_true_eq, decide_eq_true_eq]
    have h3 : IntKind.min .i64 = -9223372036854775808 := rfl
    have h4 : IntKind.max .i64 = 9223372036854775807 := rfl
    omega
  have hl : ∀ W', W'.heap[eb]? = W.heap[eb]? → ∃ x y, (Instr.lookup 74 (.map (some eb)) (.int .i64 p) true).run Tryz.prog W' = .ok (.tuple #[.agg #[.int .i64 x, .int .i64 y], .bool (Maps.has D (.int .i64 p))]) W' ∧ D.atKey (.int .i64 p) (.agg [.lit (.int .i64 0), .lit (.int .i64 0)]) = .agg [.lit (.int .i64 x), .lit (.int .i64 y)] := fun W' e => by
    have hown' : W'.ownsMap Tryz.prog 3 edgeElem eb m D := by
      obtain ⟨es, clock, h1, h5⟩ := hown
      exact ⟨es, clock, e.trans h1, h5⟩
    obtain ⟨v, ps, hrun, hv⟩ := hown'.look_ok int_lawC Tryz.underlying74 (zero_edge W') (show edgeElem (.agg #[.int .i64 0, .int .i64 0]) = some (.agg [.lit (.int .i64 0), .lit (.int .i64 0)], []) from rfl) (keyOf_int_mk Tryz.underlying3 hwf)
    obtain ⟨x, y, rfl, hd⟩ := edgeElem_inv hv
    exact ⟨x, y, hrun, hd⟩
  cases hh : Maps.has D (.int .i64 p) with
  | true =>
    obtain ⟨a, b, he, hat⟩ := hD.at_ p hh
    refine cedge_met hw hN hnd hE he fun W' e => ?_
    obtain ⟨x, y, hrun, hd⟩ := hl W' e
    rw [hh] at hrun
    have e2 := (hat (.agg [.lit (.int .i64 0), .lit (.int .i64 0)])).symm.trans hd
    simp at e2
    obtain ⟨e3, e4⟩ := e2
    subst e3 e4
    exact hrun
  | false =>
    refine cedge_new (x := 0) (y := 0) hw hN hnd hE hf hp hwt hks hm htab hne fun W' e => ?_
    obtain ⟨x, y, hrun, hd⟩ := hl W' e
    rw [hh] at hrun
    have e2 := (atKey_of_not_has hh (.agg [.lit (.int .i64 0), .lit (.int .i64 0)])).symm.trans hd
    simp at e2
    obtain ⟨e3, e4⟩ := e2
    subst e3 e4
    exact hrun
end Go.Proofs.YtlikpnaffpngiaaGreatDoor

/- Package term's Subst: its closure. Package term's Subst: its closure, walked. Package term's Subst, where what is made is not too great. -/
import Derived.Test.YtdkgpnkcdnfniaaDoorTPutE
import Derived.Test.YtdkgpnkcdnfniaaDoorTPlaces
import Derived.Deep.RegionHeld3
import Derived.Deep.RegionHeld2
import Derived.Lib.MinMax
import Derived.Laws.Pointers
import Derived.Test.YtdkgpnkcdnfniaaDoorTStop
set_option linter.unusedVariables false
set_option linter.unusedSimpArgs false
namespace Go.Proofs.YtdkgpnkcdnfniaaDoor
open Go.RowKit Go.Maps Go.WideMaps

/-- What the names stand for: of a name that comes twice the last one's term. -/
def subFn (nm : List ByteArray) (ts : List Tm) (s : ByteArray) : Option Tm := (posK nm nm.length s).bind fun i => ts[i]?
/-- What came in: a term, terms, in a world w0; the world w is a later one. -/
structure SubIn (w0 w : World) (gm bt : Nat) (u0 u1 u2 u3 u4 : Value) (t : Tm) (Kt : Option Addr) (nm : List ByteArray) (ts : List Tm) : Prop where
  below : Below w0.heap.size w0 w
  gmr : w0.heap.size ≤ gm
  walker : WK w gm (.slice none 0 0) 77 [.int .i64 0]
  box : Five w bt 0 u0 u1 u2 u3 u4
  term : TmC (fun a => w0.cell? a) (.agg #[u0, u1, u2, u3, u4]) t
  terms : TmsC (fun a => w0.cell? a) Kt ts
  few : nm.length ≤ ts.length ∧ ts.length ≤ 1000000
  names : ∀ s ∈ nm, s.size ≤ maxLen
  size : (preT (subT (subFn nm ts) t)).length ≤ 20000000
  good : (∀ u ∈ preT t, u.ds.length ≤ 1000000) ∧ ∀ t ∈ ts, ∀ u ∈ preT t, u.ds.length ≤ 1000000
theorem sub_look {w1 W : World} {nm : List ByteArray} {ts : List Tm} {mb k : Nat} {D : DataW Unit} {mo : Obj} (h1 : w1.ownsMap Tryd.prog 9 (plainElem Tryd.prog 3) mb k D) (hp : PosD D nm nm.length) (hf : nm.length ≤ ts.length) (hmo : w1.heap[mb]? = some mo) (hW : W.heap[mb]? = some mo) {name : ByteArray} (hs : name.size ≤ 140737488355328) :
    (∃ (i : Nat) (t : Tm), ts[i]? = some t ∧ subFn nm ts name = some t ∧ (Instr.lookup 80 (.map (some mb)) (.string name) true).run Tryd.prog W = .ok (.tuple #[.int .i64 (i : Int), .bool true]) W) ∨ (subFn nm ts name = none ∧ ∃ k : Int, (Instr.lookup 80 (.map (some mb)) (.string name) true).run Tryd.prog W = .ok (.tuple #[.int .i64 k, .bool false]) W) := by
  have hWo : W.ownsMap Tryd.prog 9 (plainElem Tryd.prog 3) mb k D := by
    obtain ⟨es, clock, hb, r⟩ := h1
    exact ⟨es, clock, (hW.trans hmo.symm).trans hb, r⟩
  have hkey : keyOf Tryd.prog 9 (.string name) = some (.string name.data.toList) := keyOf_string_mk Tryd.underlying9 (by unfold maxLen; omega)
  obtain ⟨v, ps, hrun, hv⟩ := hWo.look_ok str_law Tryd.underlying80 (zero_int W) (plainElem_int Tryd.underlying3 (by decide)) hkey
  obtain ⟨a, rfl, hat, _⟩ := plainElem_int_inv Tryd.underlying3 hv
  have hq := hp name
  unfold subFn
  cases hpos : posK nm nm.length name with
  | none =>
    rw [hpos] at hq
    have hq : has D (.string name.data.toList) = false := hq
    rw [hq] at hrun
    exact .inr ⟨rfl, a, hrun⟩
  | some i =>
    rw [hpos] at hq
    have hq : has D (.string name.data.toList) = true ∧ ∀ z, D.atKey (.string name.data.toList) z = .lit (.int .i64 (i : Int)) := hq
    rw [hq.1] at hrun
    have hat2 := congrArg Prod.fst hat
    rw [hq.2] at hat2
    simp only [DataW.lit.injEq, Lit.int.injEq, true_and] at hat2
    subst hat2
    have hil := (posK_lt nm name hpos).1
    have hil2 : i < ts.length := by omega
    exact .inl ⟨i, ts[i], List.getElem?_eq_getElem hil2, List.getElem?_eq_getElem hil2, hrun⟩
/-- What holds where too many were made. -/
def SubZ (w0 w : World) (gm : Nat) (T0 : Tm) (n : Int) (w' : World) : Prop := n = 34 ∧ 20000 < (preT T0).length ∧ Below w0.heap.size w0 w' ∧ ∀ k, k < w.heap.size → k ≠ gm → w'.heap[k]? = w.heap[k]?
theorem sub_make {w0 w w1 w2 : World} {gm bt : Nat} {u0 u1 u2 u3 u4 : Value} {t : Tm} {Kt : Option Addr} {nm : List ByteArray} {ts : List Tm} {b4 b5 b6 b7 b9 b10 fb ct ct2 : Nat} {fcs : Array Value} (h : SubIn w0 w gm bt u0 u1 u2 u3 u4 t Kt nm ts) (hp : PlacesAt w nm nm.length w1)
    (hb : PutBox w1 gm w.heap.size Kt ts.length ct2 (.func (.func 35) #[.pointer (some ⟨gm, 0, none⟩)] #[]) w2 b4 b5 b6 b7 b9 b10 fb ct fcs) :
    Calls Tryd.prog 32 #[.pointer (some ⟨gm, 0, none⟩), .agg #[u0, u1, u2, u3, u4], .func (.func 56) #[] #[.pointer (some ⟨b5, 0, none⟩), .pointer (some ⟨b4, 0, none⟩), .pointer (some ⟨b10, 0, none⟩), .pointer (some ⟨b9, 0, none⟩), .pointer (some ⟨b6, 0, none⟩), .pointer (some ⟨b7, 0, none⟩)] ] w2 fun e w' => Thrown (SubZ w0 w gm (subT (subFn nm ts) t)) e w' ∨ ∃ v0 v1 v2 v3 v4, e = .returned (.agg #[v0, v1, v2, v3, v4]) ∧ TmC (cutC (fun a => w.heap.size < a.block) w') (.agg #[v0, v1, v2, v3, v4]) (subT (subFn nm ts) t) ∧ Below w0.heap.size w0 w' ∧ (∀ k, k < w.heap.size → k ≠ gm → w'.heap[k]? = w.heap[k]?) ∧ w.heap.size ≤ w'.heap.size ∧ (preT (subT (subFn nm ts) t)).length ≤ 20000 := by
  obtain ⟨D, hown, hpos, hb1⟩ := hp
  have hmb := hown.lt
  obtain ⟨mo, hmo⟩ : ∃ mo, w1.heap[w.heap.size]? = some mo := ⟨_, Array.getElem?_eq_getElem hmb⟩
  have hs1 := hb1.size
  have hs2 := hb.below.size
  have hgl : gm < w.heap.size := h.walker.lt
  have hs0 := h.below.size
  obtain ⟨l4, l5, l6, l7, l9, l10, lf⟩ := hb.le
  obtain ⟨n4, n5, n6, n7, n9, n10⟩ := hb.ne
  have hbl : Below w.heap.size w w2 := hb1.trans (hb.below.mono hs1)
  have lt_of : ∀ {k : Nat} {o : Obj}, w2.heap[k]? = some o → k < w2.heap.size := fun h => (Array.getElem?_eq_some_iff.1 h).1
  have em : w2.heap[w.heap.size]? = some mo := (hb.below.block _ hmb).trans hmo
  let c : Cfg := { gm := gm, fb := fb, B := w2.heap.size + 3, b5 := b5, b4 := b4, b10 := b10, b9 := b9, b6 := b6, b7 := b7, mb := w.heap.size, nt := ts.length, ct := ct, ct2 := ct2, Kt := Kt, mo := mo, s := subFn nm ts, ts := ts, root := ⟨w2.heap.size, 0, none⟩, T0 := subT (subFn nm ts) t, w1 := ((w2.alloc (.cells #[u0, u1, u2, u3, u4] 28)).alloc (.cells #[.int .u8 0, .string ⟨#[]⟩, .bool false, .slice none 0 0, .slice none 0 0] 28)).alloc (.cells #[.int .i64 1] 3) }
  have hlt : ∀ k, c.isE k → w0.heap.size ≤ k ∧ k < w2.heap.size ∧ k ≠ gm ∧ k ≠ fb := fun k hk => by
    rcases hk with e | e | e | e | e | e | e
    · rw [show k = b5 from e]
      exact ⟨by omega, lt_of hb.e5, by omega, Ne.symm n5⟩
    · rw [show k = b4 from e]
      exact ⟨by omega, lt_of hb.e4, by omega, Ne.symm n4⟩
    · rw [show k = b10 from e]
      exact ⟨by omega, lt_of hb.e10, by omega, Ne.symm n10⟩
    · rw [show k = b9 from e]
      exact ⟨by omega, lt_of hb.e9, by omega, Ne.symm n9⟩
    · rw [show k = b6 from e]
      exact ⟨by omega, lt_of hb.e6, by omega, Ne.symm n6⟩
    · rw [show k = b7 from e]
      exact ⟨by omega, lt_of hb.e7, by omega, Ne.symm n7⟩
    · rw [show k = w.heap.size from e]
      exact ⟨by omega, lt_of em, by omega, by omega⟩
  have hflt := lt_of hb.ef
  have h3 : c.w1.heap.size = w2.heap.size + 3 := by
    show (((w2.alloc _).alloc _).alloc _).heap.size = _
    rw [World.size_alloc, World.size_alloc, World.size_alloc]
  have hok : c.OK w0 := by
    refine ⟨⟨h.gmr, by show _ ≤ fb; omega, fun k hk => (hlt k hk).1⟩, ⟨by show gm < w2.heap.size + 3; omega, by show fb < w2.heap.size + 3; omega, fun k hk => by have := (hlt k hk).2.1; show k < w2.heap.size + 3; omega⟩, ⟨by show gm ≠ fb; omega, fun k hk => (hlt k hk).2.2⟩, fun W name hW hs => sub_look hown hpos h.few.1 hmo hW hs, h.terms, rfl, h.size, h.good.2, ⟨by rw [h3]; exact Nat.le_refl _, by show w2.heap.size < w2.heap.size + 3; omega⟩⟩
  have henv : c.Env w2 := ⟨hb.e5, hb.e4, hb.e10, hb.e9, hb.e6, hb.e7, em⟩
  refine Calls.mono (make_ok (c := c) (w := w2) hok rfl rfl rfl h.term h.good.1 (h.below.trans (hbl.mono hs0)) henv hb.ef (fun i hi => hb.nil i hi) (h.walker.to (hbl.block _ hgl)) ⟨by show gm < _; omega, hflt, fun k hk => (hlt k hk).2.1⟩ rfl) ?_
  rintro e w' (⟨n, rfl, r1, r2, r3, r4⟩ | ⟨v0, v1, v2, v3, v4, rfl, r1, r2, r3, r4, r5⟩)
  · exact .inl ⟨n, rfl, r1, r2, r3, fun k hk h1 => (r4 k (by omega) h1 (by show k ≠ fb; omega)).trans (hbl.block k hk)⟩
  refine .inr ⟨v0, v1, v2, v3, v4, rfl, r1.mono fun a u hu => ?_, r2, fun k hk h1 => ?_, by omega, r5⟩
  · obtain ⟨hF, hu⟩ := cutC_some.1 hu
    exact cutC_some.2 ⟨by rcases hF with hF | hF <;> omega, hu⟩
  · exact (r3 k (by omega) h1 (by show k ≠ fb; omega)).trans (hbl.block k hk)
end Go.Proofs.YtdkgpnkcdnfniaaDoor

namespace Go.Proofs.YtdkgpnkcdnfniaaDoor
open Go.RowKit

theorem SubIn.drew {w0 w : World} {gm bt : Nat} {u0 u1 u2 u3 u4 : Value} {t : Tm} {Kt : Option Addr} {nm : List ByteArray} {ts : List Tm} (h : SubIn w0 w gm bt u0 u1 u2 u3 u4 t Kt nm ts) : SubIn w0 w.drew gm bt u0 u1 u2 u3 u4 t Kt nm ts :=
  ⟨h.below.drew, h.gmr, h.walker, h.box, h.term, h.terms, h.few, h.names, h.size, h.good⟩
theorem store5_0 {P : Program} {w : World} {b : Nat} {cs : Array Value} {T : TypeId} {u0 u1 u2 u3 u4 : Value} (h : w.heap[b]? = some (.cells cs T (0, 0))) (ho : 5 ≤ cs.size) (hu : u0.oneCell' = true ∧ u1.oneCell' = true ∧ u2.oneCell' = true ∧ u3.oneCell' = true ∧ u4.oneCell' = true) :
    ∃ w1 w2 w3 w4 w5, (store ⟨b, 0, none⟩ u0).run P w = .ok () w1 ∧ (store ⟨b, 1, none⟩ u1).run P w1 = .ok () w2 ∧ (store ⟨b, 2, none⟩ u2).run P w2 = .ok () w3 ∧ (store ⟨b, 3, none⟩ u3).run P w3 = .ok () w4 ∧ (store ⟨b, 4, none⟩ u4).run P w4 = .ok () w5 ∧ w5 = put5w w b 0 u0 u1 u2 u3 u4 := by
  obtain ⟨w1, w2, w3, w4, w5, e1, e2, e3, e4, e5, e⟩ := store5 (P := P) (o := 0) h (by omega) hu.1 hu.2.1 hu.2.2.1 hu.2.2.2.1 hu.2.2.2.2
  exact ⟨w1, w2, w3, w4, w5, e1, e2, e3, e4, e5, e⟩
/-- Behind the closure. -/
structure SubOut (w0 w : World) (gm bm : Nat) (T0 : Tm) (w' : World) : Prop where
  made : ∃ v0 v1 v2 v3 v4, w'.heap[bm]? = some (.cells #[v0, v1, v2, v3, v4] 28 (0, 0)) ∧ TmC (cutC (fun a => w.heap.size < a.block) w') (.agg #[v0, v1, v2, v3, v4]) T0
  below : Below w0.heap.size w0 w'
  old : ∀ k, k < w.heap.size → k ≠ gm → k ≠ bm → w'.heap[k]? = w.heap[k]?
  size : w.heap.size ≤ w'.heap.size
  fits : (preT T0).length ≤ 20000
theorem sub_out {w0 w w3 x5 : World} {gm bm : Nat} {T0 : Tm} {v0 v1 v2 v3 v4 : Value} (hm : w.heap[bm]? = some (.cells #[.int .u8 0, .string ⟨#[]⟩, .bool false, .slice none 0 0, .slice none 0 0] 28 (0, 0))) (hmM : w0.heap.size ≤ bm ∧ bm ≠ gm)
    (h3 : TmC (cutC (fun a => w.drew.heap.size < a.block) w3) (.agg #[v0, v1, v2, v3, v4]) T0 ∧ Below w0.heap.size w0 w3 ∧ (∀ k, k < w.drew.heap.size → k ≠ gm → w3.heap[k]? = w.drew.heap[k]?) ∧ w.drew.heap.size ≤ w3.heap.size ∧ (preT T0).length ≤ 20000) (h4 : ∀ k, k < w.heap.size → k ≠ gm → k ≠ bm → x5.heap[k]? = w.heap[k]?) (hx : x5 = put5w w3 bm 0 v0 v1 v2 v3 v4) : SubOut w0 w gm bm T0 x5 := by
  obtain ⟨h31, h32, h33, h34, h35⟩ := h3
  have hbl : bm < w.heap.size := Own.lt.cell_lt' hm
  have hs : w.heap.size ≤ w3.heap.size := h34
  have b3 : w3.heap[bm]? = some (.cells #[.int .u8 0, .string ⟨#[]⟩, .bool false, .slice none 0 0, .slice none 0 0] 28 (0, 0)) := (h33 bm hbl hmM.2).trans hm
  refine ⟨⟨v0, v1, v2, v3, v4, by rw [hx, put5w_blk b3, set5_all], h31.mono fun a u hu => ?_⟩, ?_, h4, by rw [hx, put5w_size]; exact hs, h35⟩
  · obtain ⟨hF, hu⟩ := cutC_some.1 hu
    have hF : w.heap.size < a.block := hF
    exact cutC_some.2 ⟨hF, (cell_congr (by rw [hx]; exact put5w_off (by omega))).trans hu⟩
  · rw [hx]
    obtain ⟨o1, o2, o3⟩ := put5w_os w3 bm 0 v0 v1 v2 v3 v4
    exact h32.trans ⟨o1, o2, o3, Nat.le_of_eq put5w_size.symm, fun k hk => put5w_off (by omega)⟩
set_option maxRecDepth 100000 in
set_option maxHeartbeats 6400000 in
theorem sub1_ok {w0 w : World} {gm bt bn bb bs bm nn cn ct2 : Nat} {u0 u1 u2 u3 u4 : Value} {t : Tm} {kn : Option Addr} {Kt : Option Addr} {nm : List ByteArray} {ts : List Tm} (h : SubIn w0 w gm bt u0 u1 u2 u3 u4 t Kt nm ts) (hn : w.cell? ⟨bn, 0, none⟩ = some (.slice kn nn cn)) (hb : w.cell? ⟨bb, 0, none⟩ = some (.int .i64 (nm.length : Int))) (hs : w.cell? ⟨bs, 0, none⟩ = some (.slice Kt ts.length ct2)) (hm : w.heap[bm]? = some (.cells #[.int .u8 0, .string ⟨#[]⟩, .bool false, .slice none 0 0, .slice none 0 0] 28 (0, 0))) (hmM : w0.heap.size ≤ bm) (hmg : bm ≠ gm) (hng : ∀ k, k = bt ∨ k = bn ∨ k = bb ∨ k = bs → k ≠ gm ∧ k ≠ bm)
    (hnn : nm.length ≤ nn ∧ nn ≤ cn) (hr : Row w kn (nm.map Value.string)) (hkn : kn = none → nn = 0 ∧ cn = 0) :
    Calls Tryd.prog 31 #[.pointer (some ⟨gm, 0, none⟩), .pointer (some ⟨bt, 0, none⟩), .pointer (some ⟨bn, 0, none⟩), .pointer (some ⟨bb, 0, none⟩), .pointer (some ⟨bs, 0, none⟩), .pointer (some ⟨bm, 0, none⟩)] w fun e w' => Thrown (SubZ w0 w gm (subT (subFn nm ts) t)) e w' ∨ ((∃ u, e = .returned u) ∧ SubOut w0 w gm bm (subT (subFn nm ts) t) w') := by
  have hmf : ∀ (fn : Fn) (first cap : Array Value) (w : World), (Instr.makeFunc fn first cap).run Tryd.prog w = .ok (.func fn first cap) w := fun _ _ _ _ => rfl
  cases kn with
  | none =>
    obtain ⟨rfl, rfl⟩ := hkn rfl
    obtain rfl : nm = [] := List.length_eq_zero_iff.1 (by omega)
    have hb : w.cell? ⟨bb, 0, none⟩ = some (.int .i64 0) := hb
    obtain ⟨c0, c1, c2, c3, c4⟩ := h.box
    have hfew := h.few
    have HP := Lib.hid (places_ok (w := w.drew) (K := none) (n := 0) (c := 0) (names := []) rfl (show Row w none _ from hr) h.names (by omega))
    have HH := Lib.hid (show _ ∧ _ ∧ _ ∧ _ from ⟨h.drew, hm, hmM, hmg⟩)
    have HK := Lib.hid (show ∀ w' : World, (∀ k, k < w.heap.size → k ≠ gm → k ≠ bm → w'.heap[k]? = w.heap[k]?) → w'.cell? ⟨bt, 0, none⟩ = some u0 ∧ w'.cell? ⟨bt, 1, none⟩ = some u1 ∧ w'.cell? ⟨bt, 2, none⟩ = some u2 ∧ w'.cell? ⟨bt, 3, none⟩ = some u3 ∧ w'.cell? ⟨bt, 4, none⟩ = some u4 ∧ w'.cell? ⟨bn, 0, none⟩ = some (.slice none 0 0) ∧ w'.cell? ⟨bb, 0, none⟩ = some (.int .i64 (0 : Int)) ∧ w'.cell? ⟨bs, 0, none⟩ = some (.slice Kt ts.length ct2) from fun w' hb' => by
      have key : ∀ (k j : Nat) (u : Value), (k = bt ∨ k = bn ∨ k = bb ∨ k = bs) → w.cell? ⟨k, j, none⟩ = some u → w'.cell? ⟨k, j, none⟩ = some u := fun k j u hk hc => (cell_congr (hb' k (cell_lt hc) (hng k hk).1 (hng k hk).2)).trans hc
      exact ⟨key _ _ _ (.inl rfl) c0, key _ _ _ (.inl rfl) c1, key _ _ _ (.inl rfl) c2, key _ _ _ (.inl rfl) c3, key _ _ _ (.inl rfl) c4, key _ _ _ (.inr (.inl rfl)) hn, key _ _ _ (.inr (.inr (.inl rfl))) hb, key _ _ _ (.inr (.inr (.inr rfl))) hs⟩)
    have c1 : w.cell? ⟨bt, 1, none⟩ = some u1 := c1
    have c2 : w.cell? ⟨bt, 2, none⟩ = some u2 := c2
    have c3 : w.cell? ⟨bt, 3, none⟩ = some u3 := c3
    have c4 : w.cell? ⟨bt, 4, none⟩ = some u4 := c4
    have hlen := hfew.2
    clear h hm hmM hmg hnn hr hfew hng hkn
    go_enter Tryd.func31, Tryd.ntmps31
    go_wp2_with fail
    go_region_held2 (fun w' => w'.cell? ⟨bt, 0, none⟩ = some u0 ∧ w'.cell? ⟨bt, 1, none⟩ = some u1 ∧ w'.cell? ⟨bt, 2, none⟩ = some u2 ∧ w'.cell? ⟨bt, 3, none⟩ = some u3 ∧ w'.cell? ⟨bt, 4, none⟩ = some u4 ∧ w'.cell? ⟨bn, 0, none⟩ = some (.slice none 0 0) ∧ w'.cell? ⟨bb, 0, none⟩ = some (.int .i64 (0 : Int)) ∧ w'.cell? ⟨bs, 0, none⟩ = some (.slice Kt ts.length ct2))
      (first | exact HK.out _ (fun k hk _ _ => HB1.out.block k hk) | exact HK.out _ (fun k hk _ _ => HB2.out.block k hk) | exact HK.out _ (fun _ _ _ _ => rfl) | exact HK.out _ HB3.out | exact HK.out _ HB4.out | go_keep)
      (first
        | (go_at_call 34; refine HP.out.mono ?_; rintro e w1 ⟨rfl, hp1⟩; have HP1 := Lib.hid hp1; have HB1 := Lib.hid (show Below w.heap.size w w1 from ((Below.refl _ _).drew).trans hp1.choose_spec.2.2); clear hp1)
        | (go_at_call 33; refine (put_ok hlen).mono ?_; rintro e w2 ⟨b4, b5, b6, b7, b9, b10, fb, ct, fcs, rfl, hp2⟩; have HP2 := Lib.hid hp2; have HB2 := Lib.hid (show Below w.heap.size w w2 from HB1.out.trans (hp2.below.mono HB1.out.size)); clear hp2)
        | (go_at_call 32; refine (sub_make HH.out.1 HP1.out HP2.out).mono ?_; rintro e w3 (⟨m, rfl, hz⟩ | ⟨v0, v1, v2, v3, v4, rfl, hp3⟩); exact ⟨rfl, Or.inl ⟨m, rfl, hz⟩⟩; have HP3 := Lib.hid hp3; have HB3 := Lib.hid (show ∀ k, k < w.heap.size → k ≠ gm → k ≠ bm → w3.heap[k]? = w.heap[k]? from fun k hk h1 _ => hp3.2.2.1 k hk h1); obtain ⟨x1, x2, x3, x4, x5, e1, e2, e3, e4, e5, hx5⟩ := store5_0 (P := Tryd.prog) ((hp3.2.2.1 bm (Own.lt.cell_lt' HH.out.2.1) HH.out.2.2.2).trans HH.out.2.1) (by simp) hp3.1.ones; have HB4 := Lib.hid (show ∀ k, k < w.heap.size → k ≠ gm → k ≠ bm → x5.heap[k]? = w.heap[k]? from fun k hk h1 h2 => by rw [hx5]; exact (put5w_off h2).trans (hp3.2.2.1 k hk h1)); have HX := Lib.hid hx5; clear hx5; clear hp3))
    all_goals (have HE := Lib.hid (sub_out HH.out.2.1 HH.out.2.2 HP3.out HB4.out HX.out); clear HP1 HP2 HP3 HB1 HB2 HB3 HB4 HX HK HP HH)
    all_goals go_wp2
    all_goals go_returns
    all_goals exact .inr ⟨⟨_, rfl⟩, HE.out⟩
  | some kn =>
    obtain ⟨c0, c1, c2, c3, c4⟩ := h.box
    have hfew := h.few
    have i1 : (nm.length : Int) ≤ (cn : Int) := by omega
    have i0 : 0 ≤ (nm.length : Int) := by omega
    have HP := Lib.hid (places_ok (w := w.drew) (K := some kn) (n := nm.length) (c := cn) (names := nm) rfl (show Row w (some kn) _ from hr) h.names (by omega))
    have HH := Lib.hid (show _ ∧ _ ∧ _ ∧ _ from ⟨h.drew, hm, hmM, hmg⟩)
    have HK := Lib.hid (show ∀ w' : World, (∀ k, k < w.heap.size → k ≠ gm → k ≠ bm → w'.heap[k]? = w.heap[k]?) → w'.cell? ⟨bt, 0, none⟩ = some u0 ∧ w'.cell? ⟨bt, 1, none⟩ = some u1 ∧ w'.cell? ⟨bt, 2, none⟩ = some u2 ∧ w'.cell? ⟨bt, 3, none⟩ = some u3 ∧ w'.cell? ⟨bt, 4, none⟩ = some u4 ∧ w'.cell? ⟨bn, 0, none⟩ = some (.slice (some kn) nn cn) ∧ w'.cell? ⟨bb, 0, none⟩ = some (.int .i64 (nm.length : Int)) ∧ w'.cell? ⟨bs, 0, none⟩ = some (.slice Kt ts.length ct2) from fun w' hb' => by
      have key : ∀ (k j : Nat) (u : Value), (k = bt ∨ k = bn ∨ k = bb ∨ k = bs) → w.cell? ⟨k, j, none⟩ = some u → w'.cell? ⟨k, j, none⟩ = some u := fun k j u hk hc => (cell_congr (hb' k (cell_lt hc) (hng k hk).1 (hng k hk).2)).trans hc
      exact ⟨key _ _ _ (.inl rfl) c0, key _ _ _ (.inl rfl) c1, key _ _ _ (.inl rfl) c2, key _ _ _ (.inl rfl) c3, key _ _ _ (.inl rfl) c4, key _ _ _ (.inr (.inl rfl)) hn, key _ _ _ (.inr (.inr (.inl rfl))) hb, key _ _ _ (.inr (.inr (.inr rfl))) hs⟩)
    have c1 : w.cell? ⟨bt, 1, none⟩ = some u1 := c1
    have c2 : w.cell? ⟨bt, 2, none⟩ = some u2 := c2
    have c3 : w.cell? ⟨bt, 3, none⟩ = some u3 := c3
    have c4 : w.cell? ⟨bt, 4, none⟩ = some u4 := c4
    have hlen := hfew.2
    clear h hm hmM hmg hnn hr hfew hng hkn
    go_enter Tryd.func31, Tryd.ntmps31
    go_wp2_with fail
    go_region_held2 (fun w' => w'.cell? ⟨bt, 0, none⟩ = some u0 ∧ w'.cell? ⟨bt, 1, none⟩ = some u1 ∧ w'.cell? ⟨bt, 2, none⟩ = some u2 ∧ w'.cell? ⟨bt, 3, none⟩ = some u3 ∧ w'.cell? ⟨bt, 4, none⟩ = some u4 ∧ w'.cell? ⟨bn, 0, none⟩ = some (.slice (some kn) nn cn) ∧ w'.cell? ⟨bb, 0, none⟩ = some (.int .i64 (nm.length : Int)) ∧ w'.cell? ⟨bs, 0, none⟩ = some (.slice Kt ts.length ct2))
      (first | exact HK.out _ (fun k hk _ _ => HB1.out.block k hk) | exact HK.out _ (fun k hk _ _ => HB2.out.block k hk) | exact HK.out _ (fun _ _ _ _ => rfl) | exact HK.out _ HB3.out | exact HK.out _ HB4.out | go_keep)
      (first
        | (go_at_call 34; refine HP.out.mono ?_; rintro e w1 ⟨rfl, hp1⟩; have HP1 := Lib.hid hp1; have HB1 := Lib.hid (show Below w.heap.size w w1 from ((Below.refl _ _).drew).trans hp1.choose_spec.2.2); clear hp1)
        | (go_at_call 33; refine (put_ok hlen).mono ?_; rintro e w2 ⟨b4, b5, b6, b7, b9, b10, fb, ct, fcs, rfl, hp2⟩; have HP2 := Lib.hid hp2; have HB2 := Lib.hid (show Below w.heap.size w w2 from HB1.out.trans (hp2.below.mono HB1.out.size)); clear hp2)
        | (go_at_call 32; refine (sub_make HH.out.1 HP1.out HP2.out).mono ?_; rintro e w3 (⟨m, rfl, hz⟩ | ⟨v0, v1, v2, v3, v4, rfl, hp3⟩); exact ⟨rfl, Or.inl ⟨m, rfl, hz⟩⟩; have HP3 := Lib.hid hp3; have HB3 := Lib.hid (show ∀ k, k < w.heap.size → k ≠ gm → k ≠ bm → w3.heap[k]? = w.heap[k]? from fun k hk h1 _ => hp3.2.2.1 k hk h1); obtain ⟨x1, x2, x3, x4, x5, e1, e2, e3, e4, e5, hx5⟩ := store5_0 (P := Tryd.prog) ((hp3.2.2.1 bm (Own.lt.cell_lt' HH.out.2.1) HH.out.2.2.2).trans HH.out.2.1) (by simp) hp3.1.ones; have HB4 := Lib.hid (show ∀ k, k < w.heap.size → k ≠ gm → k ≠ bm → x5.heap[k]? = w.heap[k]? from fun k hk h1 h2 => by rw [hx5]; exact (put5w_off h2).trans (hp3.2.2.1 k hk h1)); have HX := Lib.hid hx5; clear hx5; clear hp3))
    all_goals (have HE := Lib.hid (sub_out HH.out.2.1 HH.out.2.2 HP3.out HB4.out HX.out); clear HP1 HP2 HP3 HB1 HB2 HB3 HB4 HX HK HP HH)
    all_goals go_wp2
    all_goals go_returns
    all_goals exact .inr ⟨⟨_, rfl⟩, HE.out⟩
end Go.Proofs.YtdkgpnkcdnfniaaDoor

namespace Go.Proofs.YtdkgpnkcdnfniaaDoor
open Go.RowKit

set_option maxRecDepth 100000 in
set_option maxHeartbeats 6400000 in
theorem subst_any {w : World} {u0 u1 u2 u3 u4 : Value} {t : Tm} {kn : Option Addr} {Kt : Option Addr} {nn cn ct2 : Nat} {nm names : List ByteArray} {ts : List Tm} (ht : TmV w (.agg #[u0, u1, u2, u3, u4]) t) (hts : TmsAt w Kt ts) (hr : Row w kn (names.map Value.string)) (hkn : kn = none → nn = 0 ∧ cn = 0) (hnn : nn = names.length) (hcn : nn ≤ cn) (hnm : nm = names.take (min nn ts.length)) (hl : ts.length ≤ 1000000) (hsz : ∀ s ∈ names, s.size ≤ maxLen)
    (hsize : (preT (subT (subFn nm ts) t)).length ≤ 20000000) (hg : (∀ u ∈ preT t, u.ds.length ≤ 1000000) ∧ ∀ t ∈ ts, ∀ u ∈ preT t, u.ds.length ≤ 1000000) :
    Calls Tryd.prog 13 #[.agg #[u0, u1, u2, u3, u4], .slice kn nn cn, .slice Kt ts.length ct2] w fun e w' => Below w.heap.size w w' ∧ ((20000 < (preT (subT (subFn nm ts) t)).length ∧ e = .returned (.tuple #[.agg #[.int .u8 0, .string ⟨#[]⟩, .bool false, .slice none 0 0, .slice none 0 0], .int .i64 34])) ∨ ∃ v0 v1 v2 v3 v4, e = .returned (.tuple #[.agg #[v0, v1, v2, v3, v4], .int .i64 0]) ∧ TmV w' (.agg #[v0, v1, v2, v3, v4]) (subT (subFn nm ts) t) ∧ (preT (subT (subFn nm ts) t)).length ≤ 20000) := by
  have hmf : ∀ (fn : Fn) (first cap : Array Value) (w : World), (Instr.makeFunc fn first cap).run Tryd.prog w = .ok (.func fn first cap) w := fun _ _ _ _ => rfl
  have HH := Lib.hid (show _ ∧ _ ∧ _ ∧ _ ∧ _ ∧ _ ∧ _ ∧ _ ∧ _ ∧ _ from ⟨ht, hts, hr, hnn, hcn, hnm, hl, hsz, hsize, hg⟩)
  have HN := Lib.hid hkn
  clear ht hts hr hnn hcn hnm hl hsz hsize hg hkn
  go_enter Tryd.func13, Tryd.ntmps13
  go_wp2_with fail
  obtain ⟨g0, g1, g2, g3, gs, gb⟩ := four_alloc w (.cells #[u0, u1, u2, u3, u4] 28) (.cells #[.slice kn nn cn] 34) (.cells #[.slice Kt ts.length ct2] 26) (.cells #[.int .u8 0, .string ⟨#[]⟩, .bool false, .slice none 0 0, .slice none 0 0] 28)
  obtain ⟨wS, hwS⟩ : ∃ wS, wS = (((((((w.alloc (.cells #[u0, u1, u2, u3, u4] 28)).alloc (.cells #[.slice kn nn cn] 34)).alloc (.cells #[.slice Kt ts.length ct2] 26)).alloc (.cells #[.int .u8 0, .string ⟨#[]⟩, .bool false, .slice none 0 0, .slice none 0 0] 28)).alloc (.cells #[.slice none 0 0, .int .i64 0] 77)).alloc (.cells #[.int .u8 0, .string ⟨#[]⟩, .bool false, .slice none 0 0, .slice none 0 0] 28)).alloc (.cells #[.int .i64 (min (nn : Int) (ts.length : Int))] 3)) := ⟨_, rfl⟩
  obtain ⟨w4, hw4⟩ : ∃ w4, w4 = ((((w.alloc (.cells #[u0, u1, u2, u3, u4] 28)).alloc (.cells #[.slice kn nn cn] 34)).alloc (.cells #[.slice Kt ts.length ct2] 26)).alloc (.cells #[.int .u8 0, .string ⟨#[]⟩, .bool false, .slice none 0 0, .slice none 0 0] 28)) := ⟨_, rfl⟩
  rw [← hw4] at g0 g1 g2 g3 gs gb
  obtain ⟨q4, q5, q6, qs, qb⟩ := three_alloc w4 (.cells #[.slice none 0 0, .int .i64 0] 77) (.cells #[.int .u8 0, .string ⟨#[]⟩, .bool false, .slice none 0 0, .slice none 0 0] 28) (.cells #[.int .i64 (min (nn : Int) (ts.length : Int))] 3)
  rw [← hwS]
  rw [← hw4] at hwS
  rw [← hwS] at q4 q5 q6 qs qb
  rw [gs] at q4 q5 q6 qs qb
  obtain ⟨wA, hwA⟩ : ∃ wA, wA = wS.alloc (.cells #[.int .i64 0] 43) := ⟨_, rfl⟩
  have eA : wA.heap[wS.heap.size]? = some (.cells #[.int .i64 0] 43 (0, 0)) := by rw [hwA]; exact heap_alloc_new _ _
  have sA : wA.heap.size = w.heap.size + 8 := by rw [hwA, World.size_alloc, qs]
  have kA : ∀ k, k < wS.heap.size → wA.heap[k]? = wS.heap[k]? := fun k hk => by rw [hwA]; exact Below.heap_alloc _ _ _ hk
  have k4 : ∀ k, k < w.heap.size + 4 → wA.heap[k]? = w4.heap[k]? := fun k hk => (kA k (by omega)).trans (qb.block k hk)
  have bA : Below w.heap.size w wA := by rw [hwA]; exact (gb.trans (qb.mono (by omega))).alloc (by omega) _
  obtain ⟨ht, hts, hr, hnn, hcn, hnm, hl, hsz, hsize, hg⟩ := HH.out
  have hmin : nm.length = min nn ts.length := by rw [hnm, List.length_take]; omega
  have hin : SubIn w wA (w.heap.size + 4) w.heap.size u0 u1 u2 u3 u4 t Kt nm ts := by
    have hz : wA.heap[w.heap.size]? = some (.cells #[u0, u1, u2, u3, u4] 28 (0, 0)) := (k4 _ (by omega)).trans g0
    exact ⟨bA, by omega, ((kA _ (by omega)).trans q4 : wA.heap[w.heap.size + 4]? = _), ⟨cell_blk hz, cell_blk hz, cell_blk hz, cell_blk hz, cell_blk hz⟩, ht.toC fun a u hu => hu, fun j t' hj => by
      obtain ⟨ad, x0, x1, x2, x3, x4, e, hc, hT⟩ := hts j t' hj
      exact ⟨ad, e, x0, x1, x2, x3, x4, hc, hT.toC fun a u hu => hu⟩, ⟨by omega, hl⟩, fun s hs => hsz s (by rw [hnm] at hs; exact List.mem_of_mem_take hs), hsize, hg⟩
  have hrn : Row wA kn (nm.map Value.string) := fun j v hj => by
    have hj2 : (names.map Value.string)[j]? = some v := by
      rw [hnm, List.map_take, List.getElem?_take] at hj
      split at hj
      · exact hj
      · cases hj
    obtain ⟨ad, e, hc⟩ := hr j v hj2
    exact ⟨ad, e, (bA.cell (cell_lt hc)).trans hc⟩
  have hmi : ((min nn ts.length : Nat) : Int) = min (nn : Int) (ts.length : Int) := by omega
  have b5 : wA.heap[w.heap.size + 4 + 1]? = some (.cells #[.int .u8 0, .string ⟨#[]⟩, .bool false, .slice none 0 0, .slice none 0 0] 28 (0, 0)) := (kA _ (by omega)).trans q5
  have hS1 := sub1_ok (w0 := w) (w := wA) (gm := w.heap.size + 4) (bt := w.heap.size) (bn := w.heap.size + 1) (bb := w.heap.size + 4 + 2) (bs := w.heap.size + 1 + 1) (bm := w.heap.size + 4 + 1) (nn := nn) (cn := cn) (ct2 := ct2) (kn := kn) hin (cell_one0 ((k4 _ (by omega)).trans g1)) (by rw [hmin, hmi]; exact cell_one0 ((kA _ (by omega)).trans q6)) (cell_one0 ((k4 _ (by omega)).trans g2)) b5 (by omega) (by omega) (fun k hk => by omega) ⟨by omega, hcn⟩ hrn HN.out
  have HC := Lib.hid (stopped_any (w := wS) (F := 31) (fs := #[]) (cs := #[.pointer (some ⟨w.heap.size + 1 + 1 + 1 + 1, 0, none⟩), .pointer (some ⟨w.heap.size, 0, none⟩), .pointer (some ⟨w.heap.size + 1, 0, none⟩), .pointer (some ⟨w.heap.size + 1 + 1 + 1 + 1 + 1 + 1, 0, none⟩), .pointer (some ⟨w.heap.size + 1 + 1, 0, none⟩), .pointer (some ⟨w.heap.size + 1 + 1 + 1 + 1 + 1, 0, none⟩)]) (P := SubOut w wA (w.heap.size + 4) (w.heap.size + 4 + 1) (subT (subFn nm ts) t)) (Z := SubZ w wA (w.heap.size + 4) (subT (subFn nm ts) t)) (run_enters (by kernel_rfl)) (by rw [← hwA]; exact hS1) (fun w' hP => by
    rcases hP with hP | ⟨n, _, _, _, hP⟩
    · exact (hP.old _ (by omega) (by omega) (by omega)).trans eA
    · exact (hP _ (by omega) (by omega)).trans eA))
  have r3 : wA.heap[w.heap.size + 1 + 1 + 1]? = some (.cells #[.int .u8 0, .string ⟨#[]⟩, .bool false, .slice none 0 0, .slice none 0 0] 28 (0, 0)) := (k4 _ (by omega)).trans g3
  have HA := Lib.hid (show _ ∧ _ ∧ _ ∧ _ ∧ _ ∧ _ from ⟨r3, sA, qs, bA, eA, b5⟩)
  clear g0 g1 g2 g3 gs gb q4 q5 q6 qs qb eA sA kA k4 bA ht hts hr hnn hcn hnm hl hsz hsize hg hmin hin hrn hmi b5 hS1 r3 hwS hw4 hwA HN
  refine HC.out.mono ?_
  rintro e w5 hcase
  obtain ⟨r3, sA, qs, bA, eA, b5⟩ := HA.out
  have hgen : ∃ (n : Int) (v0 v1 v2 v3 v4 : Value), e = .returned (.int .i64 n) ∧ w5.heap[w.heap.size + 1 + 1 + 1 + 1 + 1]? = some (.cells #[v0, v1, v2, v3, v4] 28 (0, 0)) ∧ (v0.oneCell' = true ∧ v1.oneCell' = true ∧ v2.oneCell' = true ∧ v3.oneCell' = true ∧ v4.oneCell' = true) ∧ Below w.heap.size w w5 ∧ w5.heap[w.heap.size + 1 + 1 + 1]? = some (.cells #[.int .u8 0, .string ⟨#[]⟩, .bool false, .slice none 0 0, .slice none 0 0] 28 (0, 0)) ∧
      ((20000 < (preT (subT (subFn nm ts) t)).length ∧ n = 34 ∧ v0 = .int .u8 0 ∧ v1 = .string ⟨#[]⟩ ∧ v2 = .bool false ∧ v3 = .slice none 0 0 ∧ v4 = .slice none 0 0) ∨ (n = 0 ∧ TmC (cutC (fun a => wA.heap.size < a.block) w5) (.agg #[v0, v1, v2, v3, v4]) (subT (subFn nm ts) t) ∧ (preT (subT (subFn nm ts) t)).length ≤ 20000)) := by
    rcases hcase with ⟨n, w2, ⟨rfl, hZ1, hZ2, hZ3⟩, rfl, hw5⟩ | ⟨rfl, w2, hP, hw5⟩
    · have n5 : ∀ k, k ≠ wS.heap.size → w5.heap[k]? = w2.heap[k]? := fun k hk => by rw [hw5]; exact Below.heap_setCell _ _ _ _ hk
      have o5 : w5.os = w2.os ∧ w5.tape = w2.tape ∧ w5.output = w2.output ∧ w5.heap.size = w2.heap.size := by rw [hw5]; exact ⟨rfl, rfl, rfl, by simp⟩
      exact ⟨34, _, _, _, _, _, rfl, (n5 _ (by omega)).trans ((hZ3 _ (by omega) (by omega)).trans b5), ⟨rfl, rfl, rfl, rfl, rfl⟩, hZ2.trans ⟨o5.1, o5.2.1, o5.2.2.1, Nat.le_of_eq o5.2.2.2.symm, fun k hk => n5 k (by omega)⟩, (n5 _ (by omega)).trans ((hZ3 _ (by omega) (by omega)).trans r3), .inl ⟨hZ1, rfl, rfl, rfl, rfl, rfl, rfl⟩⟩
    · obtain ⟨v0, v1, v2, v3, v4, hbm, hT⟩ := hP.made
      have n5 : ∀ k, k ≠ wS.heap.size → w5.heap[k]? = w2.heap[k]? := fun k hk => by rw [hw5]; exact Below.heap_setCell _ _ _ _ hk
      have o5 : w5.os = w2.os ∧ w5.tape = w2.tape ∧ w5.output = w2.output ∧ w5.heap.size = w2.heap.size := by rw [hw5]; exact ⟨rfl, rfl, rfl, by simp⟩
      refine ⟨0, v0, v1, v2, v3, v4, rfl, (n5 _ (by omega)).trans hbm, hT.ones, hP.below.trans ⟨o5.1, o5.2.1, o5.2.2.1, Nat.le_of_eq o5.2.2.2.symm, fun k hk => n5 k (by omega)⟩, (n5 _ (by omega)).trans ((hP.old _ (by omega) (by omega) (by omega)).trans r3), .inr ⟨rfl, hT.mono fun a u hu => ?_, hP.fits⟩⟩
      obtain ⟨hF, hu⟩ := cutC_some.1 hu
      have hF : wA.heap.size < a.block := hF
      exact cutC_some.2 ⟨hF, (cell_congr (n5 _ (by omega))).trans hu⟩
  obtain ⟨n, v0, v1, v2, v3, v4, rfl, p5, hones, hb5, p3, hres⟩ := hgen
  have c0 : w5.cell? ⟨w.heap.size + 1 + 1 + 1 + 1 + 1, 0, none⟩ = some v0 := cell_blk p5
  have c1 : w5.cell? ⟨w.heap.size + 1 + 1 + 1 + 1 + 1, 1, none⟩ = some v1 := cell_blk p5
  have c2 : w5.cell? ⟨w.heap.size + 1 + 1 + 1 + 1 + 1, 2, none⟩ = some v2 := cell_blk p5
  have c3 : w5.cell? ⟨w.heap.size + 1 + 1 + 1 + 1 + 1, 3, none⟩ = some v3 := cell_blk p5
  have c4 : w5.cell? ⟨w.heap.size + 1 + 1 + 1 + 1 + 1, 4, none⟩ = some v4 := cell_blk p5
  obtain ⟨x1, x2, x3, x4, x5, e1, e2, e3, e4, e5, hx5⟩ := store5_0 (P := Tryd.prog) p3 (by simp) hones
  have q3 : x5.heap[w.heap.size + 1 + 1 + 1]? = some (.cells #[v0, v1, v2, v3, v4] 28 (0, 0)) := by rw [hx5, put5w_blk p3, set5_all]
  have n3 : ∀ k, k ≠ w.heap.size + 1 + 1 + 1 → x5.heap[k]? = w5.heap[k]? := fun k hk => by rw [hx5]; exact put5w_off hk
  have o3 := put5w_os w5 (w.heap.size + 1 + 1 + 1) 0 v0 v1 v2 v3 v4
  rw [← hx5] at o3
  have z3 : x5.heap.size = w5.heap.size := by rw [hx5]; exact put5w_size
  have HE := Lib.hid (show Below w.heap.size w x5 ∧ ((20000 < (preT (subT (subFn nm ts) t)).length ∧ n = 34 ∧ v0 = .int .u8 0 ∧ v1 = .string ⟨#[]⟩ ∧ v2 = .bool false ∧ v3 = .slice none 0 0 ∧ v4 = .slice none 0 0) ∨ (n = 0 ∧ TmV x5 (.agg #[v0, v1, v2, v3, v4]) (subT (subFn nm ts) t) ∧ (preT (subT (subFn nm ts) t)).length ≤ 20000)) from by
    refine ⟨hb5.trans ⟨o3.1, o3.2.1, o3.2.2, by omega, fun k hk => n3 k (by omega)⟩, ?_⟩
    rcases hres with h | ⟨rfl, hT, hfit⟩
    · exact .inl h
    · refine .inr ⟨rfl, TmC.toV (hT.mono fun a u hu => ?_), hfit⟩
      obtain ⟨hF, hu⟩ := cutC_some.1 hu
      have hF : wA.heap.size < a.block := hF
      exact (cell_congr (n3 _ (by omega))).trans hu)
  have t0 : x5.cell? ⟨w.heap.size + 1 + 1 + 1, 0, none⟩ = some v0 := cell_blk q3
  have t1 : x5.cell? ⟨w.heap.size + 1 + 1 + 1, 1, none⟩ = some v1 := cell_blk q3
  have t2 : x5.cell? ⟨w.heap.size + 1 + 1 + 1, 2, none⟩ = some v2 := cell_blk q3
  have t3 : x5.cell? ⟨w.heap.size + 1 + 1 + 1, 3, none⟩ = some v3 := cell_blk q3
  have t4 : x5.cell? ⟨w.heap.size + 1 + 1 + 1, 4, none⟩ = some v4 := cell_blk q3
  clear r3 sA qs bA eA b5 hcase hb5 hres hones p5 p3 hx5 q3 n3 o3 z3 HC HA HH
  go_wp2
  refine bodyPost_ret (v := .tuple #[.agg #[v0, v1, v2, v3, v4], .int .i64 n]) (by simp [results, Tryd.results13, go_sem, t0, t1, t2, t3, t4]) rfl ⟨HE.out.1, ?_⟩
  rcases HE.out.2 with ⟨h1, rfl, rfl, rfl, rfl, rfl, rfl⟩ | ⟨rfl, hT, hfit⟩
  · exact .inl ⟨h1, rfl⟩
  · exact .inr ⟨_, _, _, _, _, rfl, hT, hfit⟩
/-- Where what is made is not too great. -/
theorem subst_ok {w : World} {u0 u1 u2 u3 u4 : Value} {t : Tm} {kn : Option Addr} {Kt : Option Addr} {nn cn ct2 : Nat} {nm names : List ByteArray} {ts : List Tm} (ht : TmV w (.agg #[u0, u1, u2, u3, u4]) t) (hts : TmsAt w Kt ts) (hr : Row w kn (names.map Value.string)) (hkn : kn = none → nn = 0 ∧ cn = 0) (hnn : nn = names.length) (hcn : nn ≤ cn) (hnm : nm = names.take (min nn ts.length)) (hl : ts.length ≤ 1000000) (hsz : ∀ s ∈ names, s.size ≤ maxLen)
    (hsize : (preT (subT (subFn nm ts) t)).length ≤ 20000) (hg : (∀ u ∈ preT t, u.ds.length ≤ 1000000) ∧ ∀ t ∈ ts, ∀ u ∈ preT t, u.ds.length ≤ 1000000) :
    Calls Tryd.prog 13 #[.agg #[u0, u1, u2, u3, u4], .slice kn nn cn, .slice Kt ts.length ct2] w fun e w' => ∃ v0 v1 v2 v3 v4, e = .returned (.tuple #[.agg #[v0, v1, v2, v3, v4], .int .i64 0]) ∧ TmV w' (.agg #[v0, v1, v2, v3, v4]) (subT (subFn nm ts) t) ∧ Below w.heap.size w w' := by
  refine (subst_any ht hts hr hkn hnn hcn hnm hl hsz (by omega) hg).mono ?_
  rintro e w' ⟨hb, ⟨h, _⟩ | ⟨v0, v1, v2, v3, v4, rfl, hT, _⟩⟩
  · omega
  · exact ⟨v0, v1, v2, v3, v4, rfl, hT, hb⟩
end Go.Proofs.YtdkgpnkcdnfniaaDoor

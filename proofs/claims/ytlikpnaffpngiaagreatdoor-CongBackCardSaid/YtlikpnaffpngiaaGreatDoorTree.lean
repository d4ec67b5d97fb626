/- Terms in memory: what a term is, in whatever memory it lies; a term that came in, opened. No condition. -/
import Derived.Test.YtlikpnaffpngiaaGreatDoorLim
import Derived.SizedLaws
import Derived.Test.YtlikpnaffpngiaaGreatDoorChecked
set_option linter.unusedVariables false
set_option linter.unusedSimpArgs false
namespace Go.Proofs.YtlikpnaffpngiaaGreatDoor
open Go.ChangeShapes Go.WideShapes Go.ChangeAt Go.WideMaps Go.WideElems Go.RowKit

/-- A term, part by part. -/
inductive Tm where
  | mk (kind : Int) (name : ByteArray) (neg : Bool) (ds : List Nat) (kids : List Tm)
def Tm.kind : Tm → Int | .mk k _ _ _ _ => k
def Tm.name : Tm → ByteArray | .mk _ s _ _ _ => s
def Tm.neg : Tm → Bool | .mk _ _ b _ _ => b
def Tm.ds : Tm → List Nat | .mk _ _ _ d _ => d
def Tm.kids : Tm → List Tm | .mk _ _ _ _ l => l

/-- v is the term t, in the world W: five cells, its digits, its kids one behind the other. -/
inductive TmV (W : World) : Value → Tm → Prop where
  | mk (kind : Int) (name : ByteArray) (neg : Bool) (ds : List Nat) (kids : List Tm) (A K : Option Addr) (c c' : Nat) (u : Nat → Nat → Value)
      (hkd : (Lit.int .u8 kind).wf = true) (hnm : name.size ≤ 140737488355328) (hr : Row W A (u32s ds)) (hs : small 4294967296 ds) (hdl : ds.length ≤ 140737488355328) (hkl : kids.length ≤ 140737488355328)
      (hc : ∀ j, j < kids.length → ∃ ad, K = some ad ∧ W.cell? (ad.add (j * 5)) = some (u j 0) ∧ W.cell? ((ad.add (j * 5)).add 1) = some (u j 1) ∧ W.cell? ((ad.add (j * 5)).add 2) = some (u j 2) ∧ W.cell? ((ad.add (j * 5)).add 3) = some (u j 3) ∧ W.cell? ((ad.add (j * 5)).add 4) = some (u j 4))
      (hk : ∀ j kid, kids[j]? = some kid → TmV W (.agg #[u j 0, u j 1, u j 2, u j 3, u j 4]) kid) :
      TmV W (.agg #[.int .u8 kind, .string name, .bool neg, .slice A ds.length c, .slice K kids.length c']) (.mk kind name neg ds kids)
theorem TmV.bel {W W' : World} {v : Value} {t : Tm} (h : TmV W v t) (hb : Below W.heap.size W W') : TmV W' v t := by
  induction h with
  | mk kind name neg ds kids A K c c' u hkd hnm hr hs hdl hkl hc hk ih =>
    exact .mk kind name neg ds kids A K c c' u hkd hnm (hr.below hb) hs hdl hkl (fun j hj => by
      obtain ⟨ad, e, h0, h1, h2, h3, h4⟩ := hc j hj
      exact ⟨ad, e, (hb.cell (cell_lt h0)).trans h0, (hb.cell (cell_lt h1)).trans h1, (hb.cell (cell_lt h2)).trans h2, (hb.cell (cell_lt h3)).trans h3, (hb.cell (cell_lt h4)).trans h4⟩) ih
theorem TmV.alloc {W : World} {v : Value} {t : Tm} (h : TmV W v t) (o : Obj) : TmV (W.alloc o) v t := h.bel ((Below.refl _ _).alloc (Nat.le_refl _) o)
/-- Terms one behind the other, at an address. -/
def TmsAt (W : World) (K : Option Addr) (l : List Tm) : Prop := ∀ j t, l[j]? = some t → ∃ ad u0 u1 u2 u3 u4, K = some ad ∧ (W.cell? (ad.add (j * 5)) = some u0 ∧ W.cell? ((ad.add (j * 5)).add 1) = some u1 ∧ W.cell? ((ad.add (j * 5)).add 2) = some u2 ∧ W.cell? ((ad.add (j * 5)).add 3) = some u3 ∧ W.cell? ((ad.add (j * 5)).add 4) = some u4) ∧ TmV W (.agg #[u0, u1, u2, u3, u4]) t
theorem TmsAt.below {W W' : World} {K : Option Addr} {l : List Tm} (h : TmsAt W K l) (hb : Below W.heap.size W W') : TmsAt W' K l := fun j t hj => by
  obtain ⟨ad, u0, u1, u2, u3, u4, e, ⟨h0, h1, h2, h3, h4⟩, ht⟩ := h j t hj
  exact ⟨ad, u0, u1, u2, u3, u4, e, ⟨(hb.cell (cell_lt h0)).trans h0, (hb.cell (cell_lt h1)).trans h1, (hb.cell (cell_lt h2)).trans h2, (hb.cell (cell_lt h3)).trans h3, (hb.cell (cell_lt h4)).trans h4⟩, ht.bel hb⟩
theorem TmV.parts {W : World} {v : Value} {t : Tm} (h : TmV W v t) : ∃ A K c c', v = .agg #[.int .u8 t.kind, .string t.name, .bool t.neg, .slice A t.ds.length c, .slice K t.kids.length c'] ∧ (Lit.int .u8 t.kind).wf = true ∧ t.name.size ≤ 140737488355328 ∧ Row W A (u32s t.ds) ∧ small 4294967296 t.ds ∧ t.ds.length ≤ 140737488355328 ∧ t.kids.length ≤ 140737488355328 ∧ TmsAt W K t.kids := by
  cases h with
  | mk kind name neg ds kids A K c c' u hkd hnm hr hs hdl hkl hc hk =>
    refine ⟨A, K, c, c', rfl, hkd, hnm, hr, hs, hdl, hkl, fun j t hj => ?_⟩
    have hjl : j < kids.length := (List.getElem?_eq_some_iff.1 hj).1
    obtain ⟨ad, e, h0, h1, h2, h3, h4⟩ := hc j hjl
    exact ⟨ad, _, _, _, _, _, e, ⟨h0, h1, h2, h3, h4⟩, hk j t hj⟩
/-- The way back: out of its parts. -/
theorem TmV.of {W : World} {kind : Int} {name : ByteArray} {neg : Bool} {ds : List Nat} {kids : List Tm} {A K : Option Addr} {c c' : Nat} (hkd : (Lit.int .u8 kind).wf = true) (hnm : name.size ≤ 140737488355328) (hr : Row W A (u32s ds)) (hs : small 4294967296 ds) (hdl : ds.length ≤ 140737488355328) (hkl : kids.length ≤ 140737488355328) (h : TmsAt W K kids) :
    TmV W (.agg #[.int .u8 kind, .string name, .bool neg, .slice A ds.length c, .slice K kids.length c']) (.mk kind name neg ds kids) := by
  have hex : ∀ j, ∃ u : Nat → Value, ∀ t, kids[j]? = some t → (∃ ad, K = some ad ∧ W.cell? (ad.add (j * 5)) = some (u 0) ∧ W.cell? ((ad.add (j * 5)).add 1) = some (u 1) ∧ W.cell? ((ad.add (j * 5)).add 2) = some (u 2) ∧ W.cell? ((ad.add (j * 5)).add 3) = some (u 3) ∧ W.cell? ((ad.add (j * 5)).add 4) = some (u 4)) ∧ TmV W (.agg #[u 0, u 1, u 2, u 3, u 4]) t := fun j => by
    cases hj : kids[j]? with
    | none => exact ⟨fun _ => undef, fun t ht => by cases ht⟩
    | some t =>
      obtain ⟨ad, u0, u1, u2, u3, u4, e, hc, ht⟩ := h j t hj
      refine ⟨fun i => match i with | 0 => u0 | 1 => u1 | 2 => u2 | 3 => u3 | _ => u4, fun t' ht' => ?_⟩
      obtain rfl := Option.some.inj ht'
      exact ⟨⟨ad, e, hc⟩, ht⟩
  obtain ⟨u, hu⟩ := Classical.axiomOfChoice hex
  exact .mk kind name neg ds kids A K c c' u hkd hnm hr hs hdl hkl (fun j hj => (hu j _ (List.getElem?_eq_getElem hj)).1) fun j t hj => (hu j t hj).2

set_option maxRecDepth 100000 in
theorem int_tm {H : Type} {enc : TypeId × Value → H} {W : World} {n : Nat} {c0 c1 : Value} {y : DataW H × List MemPlace} (h : DataW.trod enc Tryz.prog W 0 (fun _ => true) true n 26 [c0, c1] = some y) :
    ∃ (b : Bool) (A : Option Addr) (c : Nat) (ds : List Nat), c0 = .bool b ∧ c1 = .slice A ds.length c ∧ Row W A (u32s ds) ∧ small 4294967296 ds ∧ ((∀ n ∈ y.1.weights Tryz.prog 26, n ≤ 140737488355328) → ds.length ≤ 140737488355328) := by
  obtain ⟨y0, y1, m, e, _, h0, h1⟩ := trod_struct2 Tryz.underlying26 h
  have k0 : Tryz.prog.cellsOf 4 = 1 := by kernel_rfl
  have k1 : Tryz.prog.cellsOf 24 = 1 := by kernel_rfl
  have h0' : DataW.trod enc Tryz.prog W 0 (fun _ => true) true m 4 [c0] = some y0 := by simpa [k0] using h0
  have h1' : DataW.trod enc Tryz.prog W 0 (fun _ => true) true m 24 [c1] = some y1 := by simpa [k1] using h1
  have hb : ∃ b, c0 = .bool b := by
    obtain ⟨b, hc, _⟩ := DataW.trod_bool Tryz.underlying4 h0'
    injection hc with hc
    exact ⟨b, hc⟩
  obtain ⟨b, rfl⟩ := hb
  have ey : y.1 = .agg [y0.1, y1.1] := by rw [e]
  have kb : Tryz.prog.bytesOf 91 = 4 := by kernel_rfl
  rcases open_ints Tryz.underlying24 Tryz.underlying91 (by kernel_rfl) h1' with ⟨hcs, _⟩ | ⟨a, len, cap, zs, hcs, _, hl, hm, hz, hx, hcell, hw⟩
  · injection hcs with hcs
    subst hcs
    exact ⟨b, none, 0, [], rfl, rfl, Row.nil _ _, small_nil _, fun _ => Nat.zero_le _⟩
  · injection hcs with hcs
    subst hcs
    simp only [if_true] at hz
    have hll := lim_length (zs := zs) (n := len) (by omega)
    refine ⟨b, some a, cap, lim zs len, rfl, by rw [hll], lim_row hl hz hw (fun h => by cases h) (fun a' ha i hi => ?_), lim_small hw, fun hq => ?_⟩
    · injection ha with ha
      subst ha
      exact hcell i (by omega)
    · rw [hll]
      have hm1 : ((lits (H := H) .u32 (zs.take len)).length + (lits (H := H) .u32 (zs.drop len)).length) * 4 ∈ y.1.weights Tryz.prog 26 := by
        rw [ey]
        unfold DataW.weights
        rw [ Tryz.underlying26 ]
        refine DataW.weights_mem_each (j := 1) rfl rfl _ ?_
        rw [hx]
        unfold DataW.weights
        rw [ Tryz.underlying24 ]
        show _ ∈ (_ * Tryz.prog.bytesOf 91 :: _)
        rw [kb]
        exact List.mem_cons_self ..
      have := hq _ hm1
      simp [lits] at this
      omega
set_option maxRecDepth 100000 in
theorem trod_tm {H : Type} {enc : TypeId × Value → H} {W : World} : ∀ (fuel : Nat) {cs : List Value} {x : DataW H × List MemPlace}, DataW.trod enc Tryz.prog W 0 (fun _ => true) true fuel 28 cs = some x → (∀ n ∈ x.1.weights Tryz.prog 28, n ≤ 140737488355328) →
    ∃ (c0 c1 c2 c3 c4 : Value) (t : Tm), cs = [c0, c1, c2, c3, c4] ∧ TmV W (.agg #[c0, c1, c2, c3, c4]) t := by
  intro fuel
  induction fuel using Nat.strongRecOn with
  | _ fuel ih =>
    intro cs x h hw
    obtain ⟨xs, n, hf, hxe, hlen, hxl, hfs⟩ := DataW.trod_struct Tryz.underlying28 h
    have k5 : Tryz.prog.cellsOf 28 = 5 := by kernel_rfl
    have kk : Tryz.prog.cellsOf 23 = 1 := by kernel_rfl
    have ks : Tryz.prog.cellsOf 9 = 1 := by kernel_rfl
    have ki : Tryz.prog.cellsOf 26 = 2 := by kernel_rfl
    have kt : Tryz.prog.cellsOf 22 = 1 := by kernel_rfl
    have kb : 1 ≤ Tryz.prog.bytesOf 28 := of_decide_eq_true (by kernel_rfl)
    rw [k5] at hlen
    match cs, hlen with
    | [c0, c1, c2, c3, c4], _ =>
      have hx4 : xs.length = 4 := hxl
      have l0 : 0 < xs.length := by omega
      have l1 : 1 < xs.length := by omega
      have l2 : 2 < xs.length := by omega
      have l3 : 3 < xs.length := by omega
      have hwe : x.1.weights Tryz.prog 28 = DataW.weightsEach Tryz.prog [ 23, 9, 26, 22 ] (xs.map (·.1)) := by
        rw [hxe]
        show DataW.weights Tryz.prog 28 (.agg (xs.map (·.1))) = _
        unfold DataW.weights
        rw [ Tryz.underlying28 ]
        rfl
      have hpt : ∀ (j : Nat) (tj : TypeId) (hj : j < xs.length), [ 23, 9, 26, 22 ][j]? = some tj → ∀ m ∈ xs[j].1.weights Tryz.prog tj, m ≤ 140737488355328 := fun j tj hj ht m hm => by
        refine hw m ?_
        rw [hwe]
        exact DataW.weights_mem_each ht (by rw [List.getElem?_map, List.getElem?_eq_getElem hj]; rfl) m hm
      have f0 : DataW.trod enc Tryz.prog W 0 (fun _ => true) true n 23 [c0] = xs[0]? := by simpa [kk] using hfs 0 _ rfl
      have f1 : DataW.trod enc Tryz.prog W 0 (fun _ => true) true n 9 [c1] = xs[1]? := by simpa [ks] using hfs 1 _ rfl
      have f2 : DataW.trod enc Tryz.prog W 0 (fun _ => true) true n 26 [c2, c3] = xs[2]? := by simpa [ki] using hfs 2 _ rfl
      have f3 : DataW.trod enc Tryz.prog W 0 (fun _ => true) true n 22 [c4] = xs[3]? := by simpa [kt] using hfs 3 _ rfl
      rw [List.getElem?_eq_getElem l0] at f0
      rw [List.getElem?_eq_getElem l1] at f1
      rw [List.getElem?_eq_getElem l2] at f2
      rw [List.getElem?_eq_getElem l3] at f3
      obtain ⟨kind, e0, _, hkd⟩ := DataW.trod_int Tryz.underlying23 f0
      obtain ⟨name, e1, hx1, _⟩ := DataW.trod_string Tryz.underlying9 f1
      injection e0 with e0
      injection e1 with e1
      subst e0; subst e1
      have hnm : name.size ≤ 140737488355328 := hpt 1 9 l1 rfl _ (by
        rw [hx1]
        show _ ∈ [name.data.toList.length]
        rw [List.mem_singleton, Array.length_toList]; rfl)
      obtain ⟨b, A, c, ds, rfl, rfl, hr, hs, hdl⟩ := int_tm f2
      have hdl := hdl (hpt 2 26 l2 rfl)
      have hw3 := hpt 3 22 l3 rfl
      rcases DataW.trod_slice Tryz.underlying22 f3 with ⟨e4, _⟩ | ⟨a, len, cap, elems, rest, n', hn', e4, hx3, _, hlc, hcm, hel, hat, _, _⟩
      · injection e4 with e4
        subst e4
        exact ⟨_, _, _, _, _, .mk kind name b ds [], rfl, TmV.of (K := none) (kids := []) hkd hnm hr hs hdl (Nat.zero_le _) fun j t hj => by simp at hj⟩
      · injection e4 with e4
        subst e4
        have e5 : xs[3].1.weights Tryz.prog 22 = ((elems.map (·.1)).length + (rest.map (·.1)).length) * Tryz.prog.bytesOf 28 :: (DataW.weightsAll Tryz.prog 28 (elems.map (·.1)) ++ DataW.weightsAll Tryz.prog 28 (rest.map (·.1))) := by
          rw [hx3]
          show DataW.weights Tryz.prog 22 (.slice (elems.map (·.1)) (rest.map (·.1))) = _
          rw [DataW.weights, Tryz.underlying22 ]
        rw [e5] at hw3
        have hkl : len ≤ 140737488355328 := by
          have h1 := hw3 _ (List.mem_cons_self ..)
          rw [List.length_map, hel] at h1
          have h2 : (len + (rest.map (·.1)).length) * 1 ≤ (len + (rest.map (·.1)).length) * Tryz.prog.bytesOf 28 := Nat.mul_le_mul_left _ kb
          omega
        obtain ⟨L, hL, hp⟩ := list_of (p := fun i (q : Tm) => ∃ u0 u1 u2 u3 u4, (W.cell? (a.add (i * 5)) = some u0 ∧ W.cell? ((a.add (i * 5)).add 1) = some u1 ∧ W.cell? ((a.add (i * 5)).add 2) = some u2 ∧ W.cell? ((a.add (i * 5)).add 3) = some u3 ∧ W.cell? ((a.add (i * 5)).add 4) = some u4) ∧ TmV W (.agg #[u0, u1, u2, u3, u4]) q) len fun i hi => by
          have he := hat i hi
          have hil : i < elems.length := by omega
          rw [k5, List.getElem?_eq_getElem hil] at he
          obtain ⟨cs', hcs, htr⟩ := Option.bind_eq_some_iff.1 he
          obtain ⟨_, hl5, hcell⟩ := World.cells?_some hcs
          obtain ⟨d0, d1, d2, d3, d4, t, rfl, ht⟩ := ih n' (by omega) htr fun m hm => hw3 m (List.mem_cons_of_mem _ (List.mem_append.2 (.inl (weights_all (i := i) (by rw [List.getElem?_map, List.getElem?_eq_getElem hil]; rfl) m hm))))
          have g0 := hcell 0 (by decide)
          rw [Addr.add_zero'] at g0
          exact ⟨t, d0, d1, d2, d3, d4, ⟨g0, hcell 1 (by decide), hcell 2 (by decide), hcell 3 (by decide), hcell 4 (by decide)⟩, ht⟩
        subst hL
        exact ⟨_, _, _, _, _, .mk kind name b ds L, rfl, TmV.of (K := some a) hkd hnm hr hs hdl hkl fun j t hj => by
          obtain ⟨u0, u1, u2, u3, u4, hc, ht⟩ := hp j t hj
          exact ⟨a, u0, u1, u2, u3, u4, rfl, hc, ht⟩⟩
set_option maxRecDepth 100000 in
theorem open_tm {H : Type} {enc : TypeId × Value → H} {W : World} {base : Nat} {v : Value} {d : DataW H} {ps : List MemPlace} (hv : Value.okWide Tryz.prog W .any base 28 v) (h : DataW.Trod enc Tryz.prog W 0 (fun _ => true) true 28 v d ps) (hw : ∀ n ∈ d.weights Tryz.prog 28, n ≤ 140737488355328) : ∃ t, TmV W v t := by
  obtain ⟨cs, rfl, hsz⟩ := okWide_struct Tryz.underlying28 hv
  obtain ⟨fuel, hf⟩ := h
  obtain ⟨c0, c1, c2, c3, c4, t, e, ht⟩ := trod_tm fuel hf hw
  have e2 : cs = #[c0, c1, c2, c3, c4] := by
    have : cs.toList = [c0, c1, c2, c3, c4] := by simpa [Value.cells] using e
    exact Array.ext' this
  rw [e2]
  exact ⟨t, ht⟩
/-- What a list's or a term's data weigh, out of what all arguments' do. -/
theorem weigh_arg {H : Type} {ts : List TypeId} {ds : List (DataW H)} (hsz : (DataW.weightsEach Tryz.prog ts ds).all (· ≤ reachBytes) = true) {j : Nat} {t : TypeId} {d : DataW H} (ht : ts[j]? = some t) (hd : ds[j]? = some d) : ∀ n ∈ d.weights Tryz.prog t, n ≤ 140737488355328 := fun n hn => by
  have h2 := of_decide_eq_true (List.all_eq_true.1 hsz _ (DataW.weights_mem_each ht hd n hn))
  have h3 : reachBytes = 140737488351232 := rfl
  omega
end Go.Proofs.YtlikpnaffpngiaaGreatDoor

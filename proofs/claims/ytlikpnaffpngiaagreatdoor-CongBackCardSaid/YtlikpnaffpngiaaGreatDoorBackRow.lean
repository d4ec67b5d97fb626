/- A row of whatever, of terms, of whole numbers that came in, opened. No condition but of sizes. What the rows' condition on the laid variables, and the world's shape, give: the table of powers of ten, and the cell that the library's search asks. No other condition. CongBack, its row and its card: for every facts, three terms and two rows of places the call returns true; all six read behind the call as they read before. Conditions: those of the given row and card: the listed variables of the library are laid as the program's text lays them. -/
import Derived.Test.YtlikpnaffpngiaaGreatDoorTree
import Derived.Test.YtlikpnaffpngiaaGreatDoorCTold
import Derived.Test.YtlikpnaffpngiaaGreatDoorTRead
import Derived.Test.YtlikpnaffpngiaaGreatDoorRows
import Derived.Test.YtlikpnaffpngiaaGreatDoorTie
import Derived.ProofKit
import Derived.LaidMore
import Derived.LaidSub
import Derived.OpenShut
import Derived.Lib.LaidTab
import Derived.Shelf.Vars
import Derived.Test.YtlikpnaffpngiaaGreatDoorCLaw
import Derived.Test.YtlikpnaffpngiaaGreatDoorCards
import Derived.SevenTiedAt
import Derived.Stop.Joined
import Derived.Carry
set_option linter.unusedVariables false
set_option linter.unusedSimpArgs false
namespace Go.Proofs.YtlikpnaffpngiaaGreatDoor
open Go.ChangeShapes Go.WideShapes Go.ChangeAt Go.WideMaps Go.WideElems Go.RowKit

/-- A row of whatever. -/
theorem open_sl {H : Type} {enc : TypeId × Value → H} {W : World} {T E : TypeId} {sz fuel : Nat} {cs : List Value} {x : DataW H × List MemPlace} (hu : Tryz.prog.underlying T = some (.slice E)) (hk : Tryz.prog.cellsOf E = sz) (kb : 1 ≤ Tryz.prog.bytesOf E) (f3 : DataW.trod enc Tryz.prog W 0 (fun _ => true) true fuel T cs = some x) (hw3 : ∀ m ∈ x.1.weights Tryz.prog T, m ≤ 140737488355328) :
    cs = [.slice none 0 0] ∨ ∃ a len cap, cs = [.slice (some a) len cap] ∧ len ≤ cap ∧ len ≤ 140737488355328 ∧ ∀ i, i < len → ∃ (n' : Nat) (cs' : List Value) (y : DataW H × List MemPlace), n' < fuel ∧ cs'.length = sz ∧ (∀ j, j < sz → W.cell? ((a.add (i * sz)).add j) = cs'[j]?) ∧ DataW.trod enc Tryz.prog W 0 (fun _ => true) true n' E cs' = some y ∧ ∀ m ∈ y.1.weights Tryz.prog E, m ≤ 140737488355328 := by
  rcases DataW.trod_slice hu f3 with ⟨e4, _⟩ | ⟨a, len, cap, elems, rest, n', hn', e4, hx3, _, hlc, hcm, hel, hat, _, _⟩
  · exact .inl e4
  · have e5 : x.1.weights Tryz.prog T = ((elems.map (·.1)).length + (rest.map (·.1)).length) * Tryz.prog.bytesOf E :: (DataW.weightsAll Tryz.prog E (elems.map (·.1)) ++ DataW.weightsAll Tryz.prog E (rest.map (·.1))) := by
      rw [hx3]
      show DataW.weights Tryz.prog T (.slice (elems.map (·.1)) (rest.map (·.1))) = _
      rw [DataW.weights, hu]
    rw [e5] at hw3
    have hkl : len ≤ 140737488355328 := by
      have h1 := hw3 _ (List.mem_cons_self ..)
      rw [List.length_map, hel] at h1
      have h2 : (len + (rest.map (·.1)).length) * 1 ≤ (len + (rest.map (·.1)).length) * Tryz.prog.bytesOf E := Nat.mul_le_mul_left _ kb
      omega
    refine .inr ⟨a, len, cap, e4, hlc, hkl, fun i hi => ?_⟩
    have he := hat i hi
    have hil : i < elems.length := by omega
    rw [hk, List.getElem?_eq_getElem hil] at he
    obtain ⟨cs', hcs, htr⟩ := Option.bind_eq_some_iff.1 he
    obtain ⟨_, hl5, hcell⟩ := World.cells?_some hcs
    refine ⟨n', cs', _, by omega, hl5, fun j hj => ?_, htr, fun m hm => hw3 m (List.mem_cons_of_mem _ (List.mem_append.2 (.inl (weights_all (i := i) (by rw [List.getElem?_map, List.getElem?_eq_getElem hil]; rfl) m hm))))⟩
    rw [hcell j hj, List.getElem?_eq_getElem (by omega)]
set_option maxRecDepth 100000 in
theorem open_tms {H : Type} {enc : TypeId × Value → H} {W : World} {fuel : Nat} {c : Value} {x : DataW H × List MemPlace} (h : DataW.trod enc Tryz.prog W 0 (fun _ => true) true fuel 22 [c] = some x) (hw : ∀ m ∈ x.1.weights Tryz.prog 22, m ≤ 140737488355328) :
    ∃ (A : Option Addr) (k : Nat) (l : List Tm), c = .slice A l.length k ∧ TmsAt W A l ∧ l.length ≤ 140737488355328 := by
  rcases open_sl Tryz.underlying22 (sz := 5) (by kernel_rfl) (of_decide_eq_true (by kernel_rfl)) h hw with e | ⟨a, len, cap, e, hlc, hl, hat⟩
  · injection e with e
    subst e
    exact ⟨none, 0, [], rfl, (fun j t h => by simp at h), Nat.zero_le _⟩
  · injection e with e
    subst e
    obtain ⟨L, hL, hp⟩ := list_of (p := fun i (q : Tm) => ∃ u0 u1 u2 u3 u4, (W.cell? (a.add (i * 5)) = some u0 ∧ W.cell? ((a.add (i * 5)).add 1) = some u1 ∧ W.cell? ((a.add (i * 5)).add 2) = some u2 ∧ W.cell? ((a.add (i * 5)).add 3) = some u3 ∧ W.cell? ((a.add (i * 5)).add 4) = some u4) ∧ TmV W (.agg #[u0, u1, u2, u3, u4]) q) len fun i hi => by
      obtain ⟨n', cs', y, _, hln, hc, htr, hww⟩ := hat i hi
      obtain ⟨d0, d1, d2, d3, d4, t, rfl, ht⟩ := trod_tm n' htr hww
      have g0 := hc 0 (by decide)
      rw [Addr.add_zero'] at g0
      exact ⟨t, d0, d1, d2, d3, d4, ⟨g0, hc 1 (by decide), hc 2 (by decide), hc 3 (by decide), hc 4 (by decide)⟩, ht⟩
    subst hL
    refine ⟨some a, cap, L, rfl, fun j t hj => ?_, hl⟩
    obtain ⟨u0, u1, u2, u3, u4, hc, ht⟩ := hp j t hj
    exact ⟨a, u0, u1, u2, u3, u4, rfl, hc, ht⟩
theorem wf_i64K {n : Int} (h : (Lit.int .i64 n).wf = true) : -9223372036854775808 ≤ n ∧ n < 9223372036854775808 := by
  have h2 := h
  rw [Lit.wf, Bool.and_eq_true, decide_eq_true_eq, decide_eq_true_eq] at h2
  have h3 : IntKind.min .i64 = -9223372036854775808 := rfl
  have h4 : IntKind.max .i64 = 9223372036854775807 := rfl
  omega
set_option maxRecDepth 100000 in
theorem open_places {H : Type} {enc : TypeId × Value → H} {W : World} {fuel : Nat} {c : Value} {x : DataW H × List MemPlace} (h : DataW.trod enc Tryz.prog W 0 (fun _ => true) true fuel 29 [c] = some x) (hw : ∀ m ∈ x.1.weights Tryz.prog 29, m ≤ 140737488355328) :
    ∃ (A : Option Addr) (k : Nat) (l : List Int), c = .slice A l.length k ∧ Row W A (IntsV l) ∧ l.length ≤ 140737488355328 ∧ ∀ p ∈ l, -9223372036854775808 ≤ p ∧ p < 9223372036854775808 := by
  rcases open_sl Tryz.underlying29 (sz := 1) (by kernel_rfl) (of_decide_eq_true (by kernel_rfl)) h hw with e | ⟨a, len, cap, e, hlc, hl, hat⟩
  · injection e with e
    subst e
    exact ⟨none, 0, [], rfl, (fun j v h => by simp [IntsV] at h), Nat.zero_le _, fun s h => by cases h⟩
  · injection e with e
    subst e
    obtain ⟨L, hL, hp⟩ := list_of (p := fun i (n : Int) => W.cell? (a.add i) = some (.int .i64 n) ∧ (Lit.int .i64 n).wf = true) len fun i hi => by
      obtain ⟨n', cs', y, _, hln, hc, htr, hww⟩ := hat i hi
      match cs', hln with
      | [c0], _ =>
        obtain ⟨n, hcs, _, hn⟩ := DataW.trod_int Tryz.underlying3 htr
        injection hcs with hcs
        subst hcs
        have := hc 0 (by decide)
        rw [Nat.mul_one, Addr.add_zero'] at this
        exact ⟨n, this, hn⟩
    subst hL
    refine ⟨some a, cap, L, rfl, fun j v hj => ?_, hl, fun s hs => ?_⟩
    · rw [IntsV, List.getElem?_map] at hj
      cases hx : L[j]? with
      | none => rw [hx] at hj; cases hj
      | some s =>
        rw [hx] at hj
        obtain rfl := Option.some.inj hj
        exact ⟨a, rfl, (hp j s hx).1⟩
    · obtain ⟨j, hj⟩ := List.getElem?_of_mem hs
      exact wf_i64K (hp j s hj).2
end Go.Proofs.YtlikpnaffpngiaaGreatDoor

namespace Go.Proofs.YtlikpnaffpngiaaGreatDoor
open Go.ChangeShapes Go.WideShapes Go.ChangeAt Go.WideMaps Go.WideElems Go.RowKit

def laid5 : List (String × DataW Unit) := [("math/bits.deBruijn32tab", Rows.laid_math_bits_deBruijn32tab), ("math/bits.deBruijn64tab", Rows.laid_math_bits_deBruijn64tab), ("internal/strconv.uint64pow10", Rows.laid_internal_strconv_uint64pow10), ("strconv.ErrRange", Rows.laid_strconv_ErrRange), ("strconv.ErrSyntax", Rows.laid_strconv_ErrSyntax)]

set_option maxRecDepth 100000 in
theorem tab_of_laid {W : World} (h : laidMetH Tryz.prog laid5 W) : Tab W ∧ 1 ≤ W.heap.size := by
  have h3 := laidMetH.filter (fun x => x.1 == "internal/strconv.uint64pow10") h
  have e : laid5.filter (fun x => x.1 == "internal/strconv.uint64pow10") = [("internal/strconv.uint64pow10", Rows.laid_internal_strconv_uint64pow10)] := by simp [laid5]
  rw [e, MakeChecks.laidMetH_plain _ _ _ (by kernel_rfl)] at h3
  have ht : Tab W := Lib.tabIs_of_head (g := 0) (t := 162) (e := 110) (n := 20) (by kernel_rfl) (by kernel_rfl) Tryz.underlying162 Tryz.underlying110 (by kernel_rfl) (by kernel_rfl) h3
  refine ⟨ht, ?_⟩
  have hg : Tryz.prog.globalNamed "internal/strconv.uint64pow10" = some 0 := by kernel_rfl
  have ht2 := ht
  unfold Tab Lib.TabIs World.var? at ht2
  simp only [hg, Option.bind_some] at ht2
  rcases Nat.lt_or_ge 0 W.heap.size with h | h
  · exact h
  · rw [Array.getElem?_eq_none h] at ht2; simp at ht2
set_option maxRecDepth 100000 in
theorem lib_of {W : World} (h : laidMetH Tryz.prog laid5 W) (hs : W.ShapedOpen Tryz.prog) : LibM W.heap.size W := by
  obtain ⟨ht, hg⟩ := tab_of_laid h
  obtain ⟨m, hm⟩ : ∃ m : Int, W.cell? ⟨1, 0, none⟩ = some (.int .i64 m) :=
    cell_of_shapedOpen_int (P := Tryz.prog) (g := 1) (t := 3) (zero := #[.int .i64 0]) hs (of_decide_eq_true (by kernel_rfl)) (by kernel_rfl) rfl (by kernel_rfl) (by kernel_rfl) Tryz.underlying3
  exact ⟨fun W' hb => ⟨m, (hb.cell (cell_lt hm)).trans hm⟩, fun W' hb => ht.below hb hg⟩
end Go.Proofs.YtlikpnaffpngiaaGreatDoor

namespace Go.Proofs.YtlikpnaffpngiaaGreatDoor
open Go.ChangeShapes Go.WideShapes Go.ChangeAt Go.WideMaps Go.WideElems Go.RowKit
open Go.ChangeMaps (setBlock shut_map_nil open_string shut_string keptBut_setBlock frozen?_setBlock heap_setBlock_same)

theorem trodAll_six {H : Type} {enc : TypeId × Value → H} {P : Program} {w : World} {base : Nat} {spare : Nat → Bool} {held : Bool} {t0 t1 t2 t3 t4 t5 : TypeId} {args : Array Value} {ds : List (DataW H)} {ps : List MemPlace} (h : DataW.TrodAll enc P w base spare held [t0, t1, t2, t3, t4, t5] args.toList ds ps) :
    ∃ v0 v1 v2 v3 v4 v5 d0 d1 d2 d3 d4 d5 p0 p1 p2 p3 p4 p5, args = #[v0, v1, v2, v3, v4, v5] ∧ ds = [d0, d1, d2, d3, d4, d5] ∧ ps = p0 ++ p1 ++ p2 ++ p3 ++ p4 ++ p5 ∧ DataW.Trod enc P w base spare held t0 v0 d0 p0 ∧ DataW.Trod enc P w base spare held t1 v1 d1 p1 ∧ DataW.Trod enc P w base spare held t2 v2 d2 p2 ∧ DataW.Trod enc P w base spare held t3 v3 d3 p3 ∧ DataW.Trod enc P w base spare held t4 v4 d4 p4 ∧ DataW.Trod enc P w base spare held t5 v5 d5 p5 := by
  obtain ⟨v0, vs0, d0, ds0, p0, q0, hargs, rfl, rfl, hd0, hr0⟩ := trodAll_cons h
  obtain ⟨v1, vs1, d1, ds1, p1, q1, rfl, rfl, rfl, hd1, hr1⟩ := trodAll_cons hr0
  obtain ⟨v2, vs2, d2, ds2, p2, q2, rfl, rfl, rfl, hd2, hr2⟩ := trodAll_cons hr1
  obtain ⟨v3, vs3, d3, ds3, p3, q3, rfl, rfl, rfl, hd3, hr3⟩ := trodAll_cons hr2
  obtain ⟨v4, vs4, d4, ds4, p4, q4, rfl, rfl, rfl, hd4, hr4⟩ := trodAll_cons hr3
  obtain ⟨v5, vs5, d5, ds5, p5, q5, rfl, rfl, rfl, hd5, hr5⟩ := trodAll_cons hr4
  obtain ⟨rfl, rfl, rfl⟩ := trodAll_nil hr5
  exact ⟨v0, v1, v2, v3, v4, v5, d0, d1, d2, d3, d4, d5, p0, p1, p2, p3, p4, p5, by cases args; simp_all, rfl, by simp, hd0, hd1, hd2, hd3, hd4, hd5⟩
theorem ownT : ownKnob Tryz.prog.godebug = none := by kernel_rfl
theorem laidOutT : laidOutB Tryz.prog = true := by kernel_rfl
theorem door_met5 (os : Os) (args : Array Value) : laidMetH Tryz.prog laid5 ((World.doorLaid Tryz.prog 400 os).forCall (fun _ _ => 0) ⟨#[], args, []⟩).memory :=
  laidMetH_of_parts3 (fuel := 8) (laidMet_of_run' 8 (by kernel_rfl) (by kernel_rfl)) (by kernel_rfl) (by kernel_rfl)
theorem params_ok : [ 22, 28, 28, 28, 29, 29 ].all (fun t => Tryz.prog.readableRec t && decide (t < Tryz.prog.types.size)) = true := by kernel_rfl
theorem keep_trodAll {H : Type} {enc : TypeId × Value → H} {W W' : World} (hb : Below W.heap.size W W') : ∀ {ts : List TypeId} {vs : List Value} {ds : List (DataW H)} {ps : List MemPlace}, (∀ t ∈ ts, Tryz.prog.readableRec t = true ∧ t < Tryz.prog.types.size) → DataW.TrodAll enc Tryz.prog W 0 (fun _ => true) true ts vs ds ps →
    (∀ x ∈ ps, x.block < W.heap.size) → DataW.TrodAll enc Tryz.prog W' 0 (fun b => decide (b < W.heap.size)) true ts vs ds ps
  | [], [], [], _, _, h, _ => h
  | _ :: _, _ :: _, _ :: _, _, hT, ⟨p, q, h1, h2, e⟩, hs => ⟨p, q, Below.trod laidOutT (hT _ (List.mem_cons.2 (Or.inl rfl))).1 (hT _ (List.mem_cons.2 (Or.inl rfl))).2 h1 hb (fun x hx => hs x (by rw [e]; exact List.mem_append_left _ hx)), keep_trodAll hb (fun t ht => hT t (List.mem_cons.2 (Or.inr ht))) h2 (fun x hx => hs x (by rw [e]; exact List.mem_append_right _ hx)), e⟩
set_option maxRecDepth 100000 in
/-- The wrap, with the world's shape and what holds of it besides. -/
theorem handed_and_shapeT {H : Type} {enc : TypeId × Value → H} {os : Os} {f : FuncId} {fn : Func} {s : ChangeSpec} {apart fresh handsOn again : Bool} {X : World → Prop} (hX : ∀ w w' : World, w.heap = w'.heap → X w → X w') (started : os.Started) (noInit : Tryz.checked.prog.inits.idxOf? f = none) (hfn : Tryz.checked.prog.funcs[f]? = some fn)
    (witness : ∃ (w : World) (tape : Tape) (i : Input), w.os = os ∧ (w.forCall tape i).Shaped Tryz.checked.prog ∧ i.vars = [] ∧ Input.okWide Tryz.checked.prog (w.forCall tape i) .any w.heap.size f i ∧
      ((s.pre enc Tryz.checked.prog fn [] apart (w.forCall tape i).memory i.args ∧ X (w.forCall tape i).memory) ∧ sizedMet enc Tryz.checked.prog fn (OpenSpec.ofChange s) apart (w.forCall tape i).memory i.args) ∧ ({} : Assume).holds Tryz.checked.prog (lone (Frame.enter Tryz.checked.prog f i.args .normal) [] (w.forCall tape i)))
    (contract : ∀ (W : World) (base : Nat) (args : Array Value) (ds gs : List (DataW H)) (before : List MemPlace),
      (∀ (j : Nat) t v, fn.params[j]? = some t → args[j]? = some v → Value.okWide Tryz.checked.prog W .any base t v) →
      DataW.Whole enc Tryz.checked.prog fn.params.toList s.vars apart W args.toList ds gs before → W.ShapedOpen Tryz.checked.prog → X W →
      (DataW.weightsEach Tryz.checked.prog (fn.params.toList ++ s.plain.varTypes Tryz.checked.prog) (ds ++ gs)).all (· ≤ reachBytes) = true →
      Calls Tryz.checked.prog f args W fun e W' => ∃ v, e = .returned v ∧ s.post enc Tryz.checked.prog fn apart fresh handsOn again W args v W') :
    ReturnsInHanded {} Tryz.checked os f .any (fun w args => (s.pre enc Tryz.checked.prog fn [] apart w args ∧ X w) ∧ sizedMet enc Tryz.checked.prog fn (OpenSpec.ofChange s) apart w args) (s.post enc Tryz.checked.prog fn apart fresh handsOn again) := by
  refine returnsInHanded_of_calls ownT started noInit witness fun w tape i _ shape _ good met _ => ?_
  obtain ⟨_, _, _, g, hg, _, _, _, _, vals⟩ := good
  obtain rfl : g = fn := Option.some.inj (hg.symm.trans hfn)
  obtain ⟨⟨⟨ds, gs, before, whole, _⟩, x⟩, size⟩ := met
  exact (contract (w.forCall tape i) w.heap.size i.args ds gs before vals (DataW.Whole.of_heap (w' := w.forCall tape i) (by rfl) whole) shape (hX _ _ (by rfl) x) (size.weights whole)).mono fun _ _ ⟨v, e, p⟩ => e ▸ ChangeSpec.post_blind p

set_option maxRecDepth 100000 in
theorem congBack_lifted (os : Os) (started : os.Started) (H : Type) (enc : TypeId × Value → H) :
    ReturnsInHanded {} Tryz.checked os 3 .any (fun w args => (Rows.congBackSpec.pre enc Tryz.prog Tryz.f3 [] false w args ∧ laidMetH Tryz.prog laid5 w) ∧ sizedMet enc Tryz.prog Tryz.f3 (OpenSpec.ofChange Rows.congBackSpec) false w args)
      (Rows.congBackSpec.post enc Tryz.prog Tryz.f3 false true false false) := by
  refine handed_and_shapeT (X := fun w => laidMetH Tryz.prog laid5 w) (fun _ _ hh h => h.of_heap hh) started (by kernel_rfl) Tryz.func3
    (ChangeSpec.witness_shaped (enc := enc) (C := Tryz.checked) (os := os) (X := fun w _ => laidMetH Tryz.prog laid5 w) false (World.doorLaid Tryz.prog 400 os) #[.slice none 0 0, .agg #[.int .u8 0, .string ⟨#[]⟩, .bool false, .slice none 0 0, .slice none 0 0], .agg #[.int .u8 0, .string ⟨#[]⟩, .bool false, .slice none 0 0, .slice none 0 0], .agg #[.int .u8 0, .string ⟨#[]⟩, .bool false, .slice none 0 0, .slice none 0 0], .slice none 0 0, .slice none 0 0] 8 rfl (World.shaped_of_RefB (by kernel_rfl) (by kernel_rfl)) (by kernel_rfl) (by kernel_rfl) (by kernel_rfl) (door_met5 os _)) ?_
  intro W base args ds gs before hval0 hW hsh hL hsz
  have hval : ∀ (j : Nat) t v, Tryz.f3.params[j]? = some t → args[j]? = some v → Value.okWide Tryz.prog W .any base t v := hval0
  have hW' := hW
  obtain ⟨p, q, hA0, hV, rfl, hfz, hnd⟩ := hW
  have hA : DataW.TrodAll enc Tryz.prog W 0 (fun _ => true) true Tryz.f3.params.toList args.toList ds p := hA0
  have hlt := hA.lt
  have hsz1 : (DataW.weightsEach Tryz.prog (Tryz.f3.params.toList ++ Rows.congBackSpec.plain.varTypes Tryz.prog) (ds ++ gs)).all (· ≤ reachBytes) = true := hsz
  rw [ Tryz.params3 ] at hA hval hsz1
  have hAk := hA
  obtain ⟨v0, v1, v2, v3, v4, v5, d0, d1, d2, d3, d4, d5, p0, p1, p2, p3, p4, p5, rfl, rfl, rfl, h0, h1, h2, h3, h4, h5⟩ := trodAll_six hA
  obtain ⟨rfl, rfl⟩ := trodVars_none hV
  obtain ⟨x0, y0, z0, rfl⟩ := okWide_slice Tryz.underlying22 (hval 0 22 v0 rfl rfl)
  obtain ⟨t1, tt1⟩ := open_tm (hval 1 28 v1 rfl rfl) h1 (weigh_arg (j := 1) hsz1 rfl rfl)
  obtain ⟨t2, tt2⟩ := open_tm (hval 2 28 v2 rfl rfl) h2 (weigh_arg (j := 2) hsz1 rfl rfl)
  obtain ⟨t3, tt3⟩ := open_tm (hval 3 28 v3 rfl rfl) h3 (weigh_arg (j := 3) hsz1 rfl rfl)
  obtain ⟨x4, y4, z4, rfl⟩ := okWide_slice Tryz.underlying29 (hval 4 29 v4 rfl rfl)
  obtain ⟨x5, y5, z5, rfl⟩ := okWide_slice Tryz.underlying29 (hval 5 29 v5 rfl rfl)
  obtain ⟨f0, g0⟩ := h0
  obtain ⟨f4, g4⟩ := h4
  obtain ⟨f5, g5⟩ := h5
  obtain ⟨Kt, ct, ts, et, htr, htl⟩ := open_tms (c := .slice x0 y0 z0) g0 (weigh_arg (j := 0) hsz1 rfl rfl)
  obtain ⟨Kp, cp, ps, ep, hpr, hpl, hpw⟩ := open_places (c := .slice x4 y4 z4) g4 (weigh_arg (j := 4) hsz1 rfl rfl)
  obtain ⟨Kq, cq, qs, eq, hqr, hql, hqw⟩ := open_places (c := .slice x5 y5 z5) g5 (weigh_arg (j := 5) hsz1 rfl rfl)
  obtain ⟨A1, K1, c1, k1, rfl⟩ := TmV.five' tt1
  obtain ⟨A2, K2, c2, k2, rfl⟩ := TmV.five' tt2
  obtain ⟨A3, K3, c3, k3, rfl⟩ := TmV.five' tt3
  have hlib := lib_of hL hsh
  clear hA0 hval0 hsh hsz hsz1
  simp only [List.append_nil] at hW'
  have e1 : Rows.congBackSpec.fn H ([d0, d1, d2, d3, d4, d5] ++ []) = { results := [.lit (.bool true)], args := [d0, d1, d2, d3, d4, d5] } := by simp [Rows.congBackSpec]
  have hlaw := congBack_ok (c := ct) (cp := cp) (cq := cq) htr htl tt1 tt2 tt3 hpr hqr hpl hql hpw hqw hlib
  rw [← et, ← ep, ← eq] at hlaw
  refine hlaw.mono fun e W' ⟨he, hb⟩ => ?_
  subst he
  refine ⟨_, rfl, _, _, _, [], p0 ++ p1 ++ p2 ++ p3 ++ p4 ++ p5, [], hW', ?_, ?_, ?_, hb.frame _, fun h => by cases h⟩
  · rw [e1]; exact trodAll_mk1 (shut_bool Tryz.underlying4 true)
  · rw [e1]; exact keep_trodAll hb (fun t ht => by
      have h1 := List.all_eq_true.1 params_ok t ht
      simp only [Bool.and_eq_true, decide_eq_true_eq] at h1
      exact h1) hAk hlt
  · rw [e1]; rfl

theorem congBack_said : Rows.CongBackSaid :=
  OpenClaim.holds_of_wide 3 Tryz.f3 rfl rfl rfl rfl rfl rfl rfl ⟨rfl, rfl, rfl, rfl, rfl⟩ rfl rfl rfl rfl rfl (by kernel_rfl) Tryz.func3 (by kernel_rfl)
    (of_decide_eq_true (by kernel_rfl)) (by unfold Func.isWrapper; first | (rw [if_pos (by decide +kernel)]; kernel_rfl) | (rw [if_neg (by decide +kernel)]; exact ⟨rfl, rfl⟩))
    (fun os started H enc _ => congBack_lifted os started H enc)

theorem congBack_card : Rows.CongBackCardSaid :=
  Claim7.holds_tied_plain_at .later [] [.data, .data, .data, .sentinel, .sentinel] true (true, Rows.congBackCard.stood.harness.2) true
    congBack_said (fun _ h => by cases h) (by kernel_rfl) (fun _ h => by cases h) congBack_row_tie rfl ⟨rfl, rfl⟩ (by kernel_rfl) rfl
    (fun f fn hf hfn => by
      obtain rfl : f = 3 := Option.some.inj ((show Tryz.prog.funcNamed "whetstone/whetstonelaw08.CongBack" = some 3 by kernel_rfl).symm.trans hf) |>.symm
      obtain rfl : fn = Tryz.f3 := (Option.some.inj (Tryz.func3.symm.trans hfn)).symm
      exact ⟨by kernel_rfl, fun j t ht => by
        rw [ Tryz.params3 ] at ht
        have hm : t ∈ [ 22, 28, 28, 28, 29, 29 ] := by simpa using Array.mem_of_getElem? ht
        have hall : ([ 22, 28, 28, 28, 29, 29 ].all fun u => !Tryz.prog.wantsStandIn u) = true := by kernel_rfl
        exact (show Tryz.prog.wantsStandIn t = false by simpa using List.all_eq_true.1 hall t hm)⟩)
    (by kernel_rfl)

/-- CongBack: for every facts, three terms and two rows of places the call returns true, and all six read behind the call as they read before. -/
theorem congBack_proved : Rows.CongBackCardSaid := congBack_card
end Go.Proofs.YtlikpnaffpngiaaGreatDoor

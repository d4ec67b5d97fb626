/- Layer 4's great, of datas and terms. Conditions: of sizes. A row of names as terms, in memory of the call's own. No condition but of sizes. What comes in, opened: datas, scopes, names, terms. No condition but of sizes. -/
import Derived.Test.YtponkpiahgoohaaGreatDoorSMet
import Derived.Test.YtponkpiahgoohaaGreatDoorTGreat
import Derived.Test.YtponkpiahgoohaaGreatDoorTree
set_option linter.unusedVariables false
set_option linter.unusedSimpArgs false
namespace Go.Proofs.YtponkpiahgoohaaGreatDoor
open Go.RowKit

/-- No length beyond what a machine holds. -/
structure DSz (D : List DtT) : Prop where
  len : D.length ≤ 140737488355328
  name : ∀ d ∈ D, d.name.size ≤ 140737488355328
  cons : ∀ d ∈ D, d.cons.length ≤ 140737488355328
  con : ∀ d ∈ D, ∀ c ∈ d.cons, c.name.size ≤ 140737488355328 ∧ c.fields.length ≤ 140737488355328
theorem wrap_in {n : Int} (h : 0 ≤ n ∧ n ≤ 9223372036854775807) : wrap64 n = n := Go.IntWalk.wrap64_in n (by omega)
set_option maxRecDepth 100000 in
set_option maxHeartbeats 6400000 in
theorem datasOf_ok {w : World} {v : Value} {D : List DtT} (hv : DatasV w v D) (hz : DSz D) :
    Calls Tryz.prog 18 #[v, .int .i64 300] w fun e w' => ∃ n : Int, e = .returned (.int .i64 n) ∧ (n ≤ 300 → DFew D) ∧ Below w.heap.size w w' := by
  obtain ⟨K, cap, rfl, hr⟩ := hv
  obtain ⟨n, hn⟩ : ∃ n, n = D.length := ⟨_, rfl⟩
  rw [← hn]
  have hn1 : n ≤ 140737488355328 := by have := hz.len; omega
  have HD := Lib.hid (show _ ∧ _ ∧ _ from ⟨hr, hz, hn⟩)
  clear hr hz hn
  go_enter Tryz.func18, Tryz.ntmps18
  go_wp2
  go_loopw [5, 6] (fun a b wr => ∃ (m : Int) (i : Nat), 0 ≤ m ∧ i ≤ n ∧ a = .int .i64 m ∧ b = .int .i64 (i : Int) ∧ Hid (Below w.heap.size w wr ∧ (m ≤ 300 → (i : Int) ≤ m ∧ ∀ d ∈ D.take i, d.cons.length ≤ 300))) (fun _ b _ => n - (intOf b).toNat)
  case atStart => exact ⟨0, 0, by decide, Nat.zero_le _, rfl, rfl, Lib.hid ⟨Below.refl _ _, fun _ => ⟨by decide, fun d hd => by simp at hd⟩⟩⟩
  case round =>
    obtain ⟨m, i, hm0, hin, rfl, rfl, HI⟩ := hrel
    rcases Nat.lt_or_ge i n with hlt | hge
    · have hi1 : (i : Int) < n := by omega
      have hi0 : 0 ≤ (i : Int) := by omega
      by_cases hm : m ≤ 300
      · obtain ⟨hr, hz, hn⟩ := HD.out
        obtain ⟨x, hx⟩ : ∃ x, D[i]? = some x := ⟨_, List.getElem?_eq_getElem (by omega)⟩
        obtain ⟨ad, u, rfl, h0, h1, hC⟩ := hr i x hx
        obtain ⟨C, cc, rfl, hcr⟩ := hC
        have hb := HI.out.1
        have g0 : wr.cell? (ad.add (i * 2)) = some (.string x.name) := (hb.cell (cell_lt h0)).trans h0
        have g1 : wr.cell? { block := (ad.add (i * 2)).block, off := (ad.add (i * 2)).off + 1 } = some (.slice C x.cons.length cc) := by
          rw [add_posK _ (by decide)] at h1
          exact (hb.cell (cell_lt h1)).trans h1
        have hxm := List.mem_of_getElem? hx
        have hs1 : x.name.size ≤ 140737488355328 := hz.name x hxm
        have e1 : wrap64 ((x.name.size : Int) / 8) = (x.name.size : Int) / 8 := wrap_in (by omega)
        have e2 : wrap64 (m + 1 + (x.name.size : Int) / 8) = m + 1 + (x.name.size : Int) / 8 := wrap_in (by omega)
        have e4 : IntKind.i64.wrap (m + 1) = m + 1 := Go.IntWalk.i64_in _ (by omega)
        have e5 : IntKind.i64.wrap (m + 1 + (x.name.size : Int) / 8) = m + 1 + (x.name.size : Int) / 8 := Go.IntWalk.i64_in _ (by omega)
        obtain ⟨L, hL⟩ : ∃ L, L = x.cons.length := ⟨_, rfl⟩
        have hL1 : L ≤ 140737488355328 := by have := hz.cons x hxm; omega
        rw [← hL] at g1
        have h1w : w.cell? { block := (ad.add (i * 2)).block, off := (ad.add (i * 2)).off + 1 } = some (.slice C L cc) := by rw [add_posK _ (by decide)] at h1; rw [hL]; exact h1
        have HX := Lib.hid (show _ ∧ _ ∧ _ ∧ _ ∧ _ ∧ _ from ⟨hcr, hz, hx, h0, h1w, hL⟩)
        clear h0 h1 h1w hcr hz hx hb hr hn hxm hL
        go_wp2
        have hq : 0 ≤ (x.name.size : Int) / 8 ∧ (x.name.size : Int) / 8 ≤ 140737488355328 := by omega
        obtain ⟨q, hqq⟩ : ∃ q, q = (x.name.size : Int) / 8 := ⟨_, rfl⟩
        rw [← hqq] at hq ⊢
        clear e1 e2 e4 e5 hqq hs1
        go_loopw [5, 7] (fun a b wr => ∃ (p : Int) (k : Nat), 0 ≤ p ∧ k ≤ L ∧ a = .int .i64 p ∧ b = .int .i64 (k : Int) ∧ Hid (Below w.heap.size w wr ∧ (p ≤ 300 → (i : Int) + 1 + (k : Int) ≤ p))) (fun _ b _ => L - (intOf b).toNat)
        case atStart => exact ⟨_, 0, by omega, Nat.zero_le _, rfl, rfl, Lib.hid ⟨HI.out.1, fun h => by have := (HI.out.2 hm).1; omega⟩⟩
        case round =>
          obtain ⟨p, k, hp0, hkL, rfl, rfl, HK⟩ := hrel
          obtain ⟨hcr, hz, hx, h0, h1, hL⟩ := HX.out
          have hb := HK.out.1
          have g0 : wr.cell? (ad.add (i * 2)) = some (.string x.name) := (hb.cell (cell_lt h0)).trans h0
          have g1 : wr.cell? { block := (ad.add (i * 2)).block, off := (ad.add (i * 2)).off + 1 } = some (.slice C L cc) := (hb.cell (cell_lt h1)).trans h1
          rcases Nat.lt_or_ge k L with hlt2 | hge2
          · have hk1 : (k : Int) < L := by omega
            have hk0 : 0 ≤ (k : Int) := by omega
            by_cases hp : p ≤ 300
            · obtain ⟨y, hy⟩ : ∃ y, x.cons[k]? = some y := ⟨_, List.getElem?_eq_getElem (by omega)⟩
              obtain ⟨ac, uf, rfl, y0, y1, hS⟩ := hcr k y hy
              obtain ⟨F, cf, rfl, -⟩ := hS
              have z0 : wr.cell? (ac.add (k * 2)) = some (.string y.name) := (hb.cell (cell_lt y0)).trans y0
              have z1 : wr.cell? { block := (ac.add (k * 2)).block, off := (ac.add (k * 2)).off + 1 } = some (.slice F y.fields.length cf) := by
                rw [add_posK _ (by decide)] at y1
                exact (hb.cell (cell_lt y1)).trans y1
              have hcs := hz.con x (List.mem_of_getElem? hx) y (List.mem_of_getElem? hy)
              obtain ⟨lf, hlf⟩ : ∃ lf, lf = y.fields.length := ⟨_, rfl⟩
              rw [← hlf] at z1 hcs
              have e1 : wrap64 ((y.name.size : Int) / 8) = (y.name.size : Int) / 8 := wrap_in (by omega)
              have e2 : wrap64 (p + 1 + (y.name.size : Int) / 8) = p + 1 + (y.name.size : Int) / 8 := wrap_in (by omega)
              have e3 : wrap64 (p + 1 + (y.name.size : Int) / 8 + (lf : Int)) = p + 1 + (y.name.size : Int) / 8 + (lf : Int) := wrap_in (by omega)
              have e4 : IntKind.i64.wrap (p + 1) = p + 1 := Go.IntWalk.i64_in _ (by omega)
              have e5 : IntKind.i64.wrap (p + 1 + (y.name.size : Int) / 8) = p + 1 + (y.name.size : Int) / 8 := Go.IntWalk.i64_in _ (by omega)
              have e6 : IntKind.i64.wrap (p + 1 + (y.name.size : Int) / 8 + (lf : Int)) = p + 1 + (y.name.size : Int) / 8 + (lf : Int) := Go.IntWalk.i64_in _ (by omega)
              have HQ := Lib.hid (show 0 ≤ p + 1 + (y.name.size : Int) / 8 + (lf : Int) ∧ p + 1 ≤ p + 1 + (y.name.size : Int) / 8 + (lf : Int) from by omega)
              clear hcr hz hx h0 h1 hL hb hy y0 y1 hcs hlf
              go_wp2
              go_quiet (fail)
              go_wp2
              go_roundw
              case rel =>
                refine ⟨_, k + 1, HQ.out.1, hlt2, rfl, by go_num, Lib.hid ⟨below_drewN HK.out.1 nq, fun _ => ?_⟩⟩
                have h1 := HK.out.2 hp
                have h2 := HQ.out.2
                omega
              case measure => first | (simp [intOf]; done) | (simp [intOf]; omega)
            · clear hcr hz hx h0 h1 hL hb
              go_wp2
              go_roundw
              case rel =>
                refine ⟨p, i + 1, hp0, hlt, rfl, by go_num, Lib.hid ⟨HK.out.1, fun h => absurd h hp⟩⟩
              case measure => first | (simp [intOf]; done) | (simp [intOf]; omega)
          · have e0 : k = L := by omega
            subst e0
            have HE := Lib.hid (show Below w.heap.size w wr ∧ (p ≤ 300 → ((i + 1 : Nat) : Int) ≤ p ∧ ∀ d ∈ D.take (i + 1), d.cons.length ≤ 300) from by
              refine ⟨HK.out.1, fun h => ⟨by have := HK.out.2 h; omega, fun d hd => ?_⟩⟩
              rw [List.take_add_one, hx] at hd
              rcases List.mem_append.1 hd with h3 | h3
              · exact (HI.out.2 hm).2 d h3
              · simp at h3
                rw [h3, ← hL]
                have := HK.out.2 h
                have := (HI.out.2 hm).1
                omega)
            clear hcr hz hx h0 h1 hL hb
            go_wp2
            go_roundw
            case rel => exact ⟨p, i + 1, hp0, hlt, rfl, by go_num, HE⟩
            case measure => first | (simp [intOf]; done) | (simp [intOf]; omega)
      · have HE := Lib.hid (show (m ≤ 300 → DFew D) ∧ Below w.heap.size w wr from ⟨fun h => absurd h hm, HI.out.1⟩)
        go_wp2
        go_returns
        exact ⟨m, rfl, HE.out.1, HE.out.2⟩
    · have e0 : i = n := by omega
      subst e0
      have HE := Lib.hid (show (m ≤ 300 → DFew D) ∧ Below w.heap.size w wr from ⟨fun h => by
        obtain ⟨h1, h2⟩ := HI.out.2 h
        have h3 := HD.out.2.2
        rw [h3, List.take_length] at h2
        exact ⟨by omega, fun d hd => Nat.le_trans (h2 d hd) (by decide)⟩, HI.out.1⟩)
      go_wp2
      go_returns
      exact ⟨m, rfl, HE.out.1, HE.out.2⟩
set_option maxRecDepth 100000 in
set_option maxHeartbeats 3200000 in
theorem great_full {w : World} {vD : Value} {D : List DtT} {K : Option Addr} {n c : Nat} {l : List Tm} (hv : DatasV w vD D) (hz : DSz D) (hn : n = l.length) (hl : TmsAt w K l) (hll : l.length ≤ 140737488355328) :
    Calls Tryz.prog 5 #[vD, .slice K n c] w fun e w' => ∃ g, e = .returned (.bool g) ∧ (g = false → DFew D ∧ wtL l ≤ 3000) ∧ Below w.heap.size w w' := by
  subst hn
  obtain ⟨k, hk, hC⟩ := terms_great (c := c) hl hll
  have HC := Lib.hid hC
  have HD := Lib.hid (datasOf_ok hv hz)
  have HK := Lib.hid hk
  clear hv hz hl hll hC hk
  go_enter Tryz.func5, Tryz.ntmps5
  go_wp2_with fail
  refine HD.out.mono ?_
  rintro e w1 ⟨n, rfl, hf, hb1⟩
  have HB1 := Lib.hid (show _ ∧ _ from ⟨hf, hb1⟩)
  have HC1 := Lib.hid (HC.out w1 hb1)
  clear hf hb1 HC HD
  by_cases hn : n ≤ 300
  · have h1 : decide ((300 : Int) < n) = false := decide_eq_false (by omega)
    have h2 : decide (n > (300 : Int)) = false := decide_eq_false (by omega)
    go_wp2_with fail
    refine HC1.out.mono ?_
    rintro e w2 ⟨rfl, hb2⟩
    by_cases hk : (3000 : Int) < k
    · have h3 : decide (k > (3000 : Int)) = true := decide_eq_true hk
      have h4 : decide ((3000 : Int) < k) = true := decide_eq_true hk
      have HE := Lib.hid (HB1.out.2.trans (hb2.mono HB1.out.2.size))
      clear hb2 HC1 HB1 HK hk hn
      go_wp2
      go_returns
      exact ⟨true, rfl, (fun h => by cases h), HE.out⟩
    · have h3 : decide (k > (3000 : Int)) = false := decide_eq_false hk
      have h4 : decide ((3000 : Int) < k) = false := decide_eq_false hk
      have HE := Lib.hid (show (DFew D ∧ wtL l ≤ 3000) ∧ Below w.heap.size w w2 from ⟨⟨HB1.out.1 hn, by
        have := HK.out
        omega⟩, HB1.out.2.trans (hb2.mono HB1.out.2.size)⟩)
      clear hb2 HC1 HB1 HK hk hn
      go_wp2
      go_returns
      exact ⟨false, rfl, fun _ => HE.out.1, HE.out.2⟩
  · have h1 : decide ((300 : Int) < n) = true := decide_eq_true (by omega)
    have h2 : decide (n > (300 : Int)) = true := decide_eq_true (by omega)
    have HE := Lib.hid HB1.out.2
    clear HC1 HB1 HK hn
    go_wp2
    go_returns
    exact ⟨true, rfl, (fun h => by cases h), HE.out⟩
end Go.Proofs.YtponkpiahgoohaaGreatDoor

namespace Go.Proofs.YtponkpiahgoohaaGreatDoor
open Go.RowKit

theorem info_term : (Tryz.prog.info? 30).map (fun i => (i.zero, i.size, i.bytes)) = some (some (.agg #[.int .u8 0, .string ⟨#[]⟩, .bool false, .slice none 0 0, .slice none 0 0]), 5, 80) := by kernel_rfl
/-- The cells of names as terms. -/
def TmCells (xs : List Value) (l : List ByteArray) : Prop := xs.length = l.length * 5 ∧ ∀ (j : Nat) (x : ByteArray), l[j]? = some x → ∃ A K c c', xs[j * 5]? = some (.int .u8 1) ∧ xs[j * 5 + 1]? = some (.string x) ∧ xs[j * 5 + 2]? = some (.bool false) ∧ xs[j * 5 + 3]? = some (.slice A 0 c) ∧ xs[j * 5 + 4]? = some (.slice K 0 c')
theorem TmCells.nil : TmCells [] [] := ⟨rfl, fun j x h => by simp at h⟩
theorem TmCells.snoc {xs : List Value} {l : List ByteArray} {x : ByteArray} {A K : Option Addr} {c c' : Nat} (h : TmCells xs l) : TmCells (xs ++ [.int .u8 1, .string x, .bool false, .slice A 0 c, .slice K 0 c']) (l ++ [x]) := by
  refine ⟨by rw [List.length_append, List.length_append, h.1]; simp; omega, fun j y hj => ?_⟩
  rcases Nat.lt_or_ge j l.length with hl | hl
  · rw [List.getElem?_append_left hl] at hj
    obtain ⟨A', K', e, e', h0, h1, h2, h3, h4⟩ := h.2 j y hj
    have hx := h.1
    refine ⟨A', K', e, e', ?_, ?_, ?_, ?_, ?_⟩
    all_goals rw [List.getElem?_append_left (by omega)]
    · exact h0
    · exact h1
    · exact h2
    · exact h3
    · exact h4
  · have hjl := (List.getElem?_eq_some_iff.1 hj).1
    rw [List.length_append] at hjl
    simp only [List.length_cons, List.length_nil] at hjl
    obtain rfl : j = l.length := by omega
    rw [List.getElem?_append_right (Nat.le_refl _), Nat.sub_self] at hj
    obtain rfl : x = y := by simpa using hj
    have hx := h.1
    refine ⟨A, K, c, c', ?_, ?_, ?_, ?_, ?_⟩
    all_goals rw [List.getElem?_append_right (by omega), hx]
    · rw [Nat.sub_self]; rfl
    · rw [show l.length * 5 + 1 - l.length * 5 = 1 by omega]; rfl
    · rw [show l.length * 5 + 2 - l.length * 5 = 2 by omega]; rfl
    · rw [show l.length * 5 + 3 - l.length * 5 = 3 by omega]; rfl
    · rw [show l.length * 5 + 4 - l.length * 5 = 4 by omega]; rfl
theorem own_tms {W : World} {B n : Nat} {v : Value} {xs : List Value} {l : List ByteArray} (h : W.ownsRow B 30 5 v n xs) (hc : TmCells xs l) (hs : ∀ x ∈ l, x.size ≤ 140737488355328) : ∃ K c, v = .slice K n c ∧ TmsAt W K (l.map varT) := by
  rcases h.2 with ⟨e, h0⟩ | ⟨g, cap, cur, e, _⟩
  · have hl : l = [] := by
      have h1 := hc.1
      have h2 := h.1
      exact List.length_eq_zero_iff.1 (by omega)
    subst hl
    subst h0
    exact ⟨none, 0, e, tms_none _ _⟩
  · subst e
    refine ⟨some ⟨g, 0, none⟩, cap, rfl, fun j t hj => ?_⟩
    rw [List.getElem?_map] at hj
    cases hx : l[j]? with
    | none => rw [hx] at hj; cases hj
    | some x =>
      rw [hx] at hj
      obtain rfl := Option.some.inj hj
      obtain ⟨A, K, c, c', h0, h1, h2, h3, h4⟩ := hc.2 j x hx
      have at' : ∀ i u, xs[i]? = some u → W.cell? ⟨g, i, none⟩ = some u := fun i u hi => by
        rw [World.ownsRow.cellAt h i (by have h5 := h.1; have h6 := (List.getElem?_eq_some_iff.1 hi).1; omega), hi]
      refine ⟨_, .int .u8 1, .string x, .bool false, .slice A 0 c, .slice K 0 c', rfl, ⟨?_, ?_, ?_, ?_, ?_⟩, TmV.of (ds := []) (kids := []) rfl (hs x (List.mem_of_getElem? hx)) (fun i v h => by simp [u32s] at h) (by intro d hd; simp at hd) (by simp) (by simp) (tms_none _ _)⟩
      all_goals simp only [add_eq, Nat.zero_add]
      · exact at' _ _ h0
      · exact at' _ _ h1
      · exact at' _ _ h2
      · exact at' _ _ h3
      · exact at' _ _ h4
end Go.Proofs.YtponkpiahgoohaaGreatDoor

namespace Go.Proofs.YtponkpiahgoohaaGreatDoor
open Go.ChangeShapes Go.WideShapes Go.ChangeAt Go.WideMaps Go.WideElems Go.RowKit

/-- A row of whatever. -/
theorem open_sl {H : Type} {enc : TypeId × Value → H} {W : World} {T E : TypeId} {sz fuel : Nat} {cs : List Value} {x : DataW H × List MemPlace} (hu : Tryz.prog.underlying T = some (.slice E)) (hk : Tryz.prog.cellsOf E = sz) (kb : 1 ≤ Tryz.prog.bytesOf E) (f3 : DataW.trod enc Tryz.prog W 0 (fun _ => true) true fuel T cs = some x) (hw3 : ∀ m ∈ x.1.weights Tryz.prog T, m ≤ 140737488355328) :
    cs = [.slice none 0 0] ∨ ∃ a len cap, cs = [.slice (some a) len cap] ∧ len ≤ cap ∧ len ≤ 140737488355328 ∧ ∀ i, i < len → ∃ (n' : Nat) (cs' : List Value) (y : DataW H × List MemPlace), n' < fuel ∧ cs'.length = sz ∧ (∀ j, j < sz → W.cell? ((a.add (i * sz)).add j) = cs'[j]?) ∧ DataW.trod enc Tryz.prog W 0 (fun _ => true) true n' E cs' = some y ∧ ∀ m ∈ y.1.weights Tryz.prog E, m ≤ 140737488355328 := by
  rcases DataW.trod_slice hu f3 with ⟨e4, _⟩ | ⟨a, len, cap, elems, rest, n', hn', e4, hx3, _, hlc, hcm, hel, hat, _, _⟩
  · exact .inl e4
  · have e5 : x.1.weights Tryz.prog T = ((elems.map (·.1)).length + (rest.map (·.1)).length) * Tryz.prog.bytesOf E :: (DataW.weightsAll Tryz.prog E (elems.map (·.1)) ++ DataW.weightsAll Tryz.prog E (rest.map (·.1))) := by
      rw [hx3]
      show DataW.weights Tryz.prog T (.slice (elems.map (·.1)) (rest.map (·.1))) = _
      rw [DataW.weights, hu]
    rw [e5] at hw3
    have hkl : len ≤ 140737488355328 := by
      have h1 := hw3 _ (List.mem_cons_self ..)
      rw [List.length_map, hel] at h1
      have h2 : (len + (rest.map (·.1)).length) * 1 ≤ (len + (rest.map (·.1)).length) * Tryz.prog.bytesOf E := Nat.mul_le_mul_left _ kb
      omega
    refine .inr ⟨a, len, cap, e4, hlc, hkl, fun i hi => ?_⟩
    have he := hat i hi
    have hil : i < elems.length := by omega
    rw [hk, List.getElem?_eq_getElem hil] at he
    obtain ⟨cs', hcs, htr⟩ := Option.bind_eq_some_iff.1 he
    obtain ⟨_, hl5, hcell⟩ := World.cells?_some hcs
    refine ⟨n', cs', _, by omega, hl5, fun j hj => ?_, htr, fun m hm => hw3 m (List.mem_cons_of_mem _ (List.mem_append.2 (.inl (weights_all (i := i) (by rw [List.getElem?_map, List.getElem?_eq_getElem hil]; rfl) m hm))))⟩
    rw [hcell j hj, List.getElem?_eq_getElem (by omega)]
set_option maxRecDepth 100000 in
theorem open_con {H : Type} {enc : TypeId × Value → H} {W : World} {fuel : Nat} {cs : List Value} {x : DataW H × List MemPlace} (h : DataW.trod enc Tryz.prog W 0 (fun _ => true) true fuel 80 cs = some x) (hw : ∀ m ∈ x.1.weights Tryz.prog 80, m ≤ 140737488355328) :
    ∃ (c0 c1 : Value) (n : Nat) (y0 y1 : DataW H × List MemPlace), cs = [c0, c1] ∧ DataW.trod enc Tryz.prog W 0 (fun _ => true) true n 9 [c0] = some y0 ∧ DataW.trod enc Tryz.prog W 0 (fun _ => true) true n 31 [c1] = some y1 ∧ (∀ m ∈ y0.1.weights Tryz.prog 9, m ≤ 140737488355328) ∧ (∀ m ∈ y1.1.weights Tryz.prog 31, m ≤ 140737488355328) := by
  obtain ⟨xs, n, hf, hxe, hlen, hxl, hfs⟩ := DataW.trod_struct Tryz.underlying80 h
  have k2 : Tryz.prog.cellsOf 80 = 2 := by kernel_rfl
  have k0 : Tryz.prog.cellsOf 9 = 1 := by kernel_rfl
  have k1 : Tryz.prog.cellsOf 31 = 1 := by kernel_rfl
  rw [k2] at hlen
  match cs, hlen with
  | [c0, c1], _ =>
    have hx2 : xs.length = 2 := hxl
    have l0 : 0 < xs.length := by omega
    have l1 : 1 < xs.length := by omega
    have hwe : x.1.weights Tryz.prog 80 = DataW.weightsEach Tryz.prog [ 9, 31 ] (xs.map (·.1)) := by
      rw [hxe]
      show DataW.weights Tryz.prog 80 (.agg (xs.map (·.1))) = _
      unfold DataW.weights
      rw [ Tryz.underlying80 ]
      rfl
    have hpt : ∀ (j : Nat) (tj : TypeId) (hj : j < xs.length), [ 9, 31 ][j]? = some tj → ∀ m ∈ xs[j].1.weights Tryz.prog tj, m ≤ 140737488355328 := fun j tj hj ht m hm => by
      refine hw m ?_
      rw [hwe]
      exact DataW.weights_mem_each ht (by rw [List.getElem?_map, List.getElem?_eq_getElem hj]; rfl) m hm
    have f0 : DataW.trod enc Tryz.prog W 0 (fun _ => true) true n 9 [c0] = xs[0]? := by simpa [k0] using hfs 0 _ rfl
    have f1 : DataW.trod enc Tryz.prog W 0 (fun _ => true) true n 31 [c1] = xs[1]? := by simpa [k1] using hfs 1 _ rfl
    rw [List.getElem?_eq_getElem l0] at f0
    rw [List.getElem?_eq_getElem l1] at f1
    exact ⟨c0, c1, n, _, _, rfl, f0, f1, hpt 0 _ l0 rfl, hpt 1 _ l1 rfl⟩
set_option maxRecDepth 100000 in
theorem open_data {H : Type} {enc : TypeId × Value → H} {W : World} {fuel : Nat} {cs : List Value} {x : DataW H × List MemPlace} (h : DataW.trod enc Tryz.prog W 0 (fun _ => true) true fuel 83 cs = some x) (hw : ∀ m ∈ x.1.weights Tryz.prog 83, m ≤ 140737488355328) :
    ∃ (c0 c1 : Value) (n : Nat) (y0 y1 : DataW H × List MemPlace), cs = [c0, c1] ∧ DataW.trod enc Tryz.prog W 0 (fun _ => true) true n 9 [c0] = some y0 ∧ DataW.trod enc Tryz.prog W 0 (fun _ => true) true n 81 [c1] = some y1 ∧ (∀ m ∈ y0.1.weights Tryz.prog 9, m ≤ 140737488355328) ∧ (∀ m ∈ y1.1.weights Tryz.prog 81, m ≤ 140737488355328) := by
  obtain ⟨xs, n, hf, hxe, hlen, hxl, hfs⟩ := DataW.trod_struct Tryz.underlying83 h
  have k2 : Tryz.prog.cellsOf 83 = 2 := by kernel_rfl
  have k0 : Tryz.prog.cellsOf 9 = 1 := by kernel_rfl
  have k1 : Tryz.prog.cellsOf 81 = 1 := by kernel_rfl
  rw [k2] at hlen
  match cs, hlen with
  | [c0, c1], _ =>
    have hx2 : xs.length = 2 := hxl
    have l0 : 0 < xs.length := by omega
    have l1 : 1 < xs.length := by omega
    have hwe : x.1.weights Tryz.prog 83 = DataW.weightsEach Tryz.prog [ 9, 81 ] (xs.map (·.1)) := by
      rw [hxe]
      show DataW.weights Tryz.prog 83 (.agg (xs.map (·.1))) = _
      unfold DataW.weights
      rw [ Tryz.underlying83 ]
      rfl
    have hpt : ∀ (j : Nat) (tj : TypeId) (hj : j < xs.length), [ 9, 81 ][j]? = some tj → ∀ m ∈ xs[j].1.weights Tryz.prog tj, m ≤ 140737488355328 := fun j tj hj ht m hm => by
      refine hw m ?_
      rw [hwe]
      exact DataW.weights_mem_each ht (by rw [List.getElem?_map, List.getElem?_eq_getElem hj]; rfl) m hm
    have f0 : DataW.trod enc Tryz.prog W 0 (fun _ => true) true n 9 [c0] = xs[0]? := by simpa [k0] using hfs 0 _ rfl
    have f1 : DataW.trod enc Tryz.prog W 0 (fun _ => true) true n 81 [c1] = xs[1]? := by simpa [k1] using hfs 1 _ rfl
    rw [List.getElem?_eq_getElem l0] at f0
    rw [List.getElem?_eq_getElem l1] at f1
    exact ⟨c0, c1, n, _, _, rfl, f0, f1, hpt 0 _ l0 rfl, hpt 1 _ l1 rfl⟩
set_option maxRecDepth 100000 in
theorem open_sorted {H : Type} {enc : TypeId × Value → H} {W : World} {fuel : Nat} {cs : List Value} {x : DataW H × List MemPlace} (h : DataW.trod enc Tryz.prog W 0 (fun _ => true) true fuel 150 cs = some x) (hw : ∀ m ∈ x.1.weights Tryz.prog 150, m ≤ 140737488355328) :
    ∃ (c0 c1 : Value) (n : Nat) (y0 y1 : DataW H × List MemPlace), cs = [c0, c1] ∧ DataW.trod enc Tryz.prog W 0 (fun _ => true) true n 9 [c0] = some y0 ∧ DataW.trod enc Tryz.prog W 0 (fun _ => true) true n 9 [c1] = some y1 ∧ (∀ m ∈ y0.1.weights Tryz.prog 9, m ≤ 140737488355328) ∧ (∀ m ∈ y1.1.weights Tryz.prog 9, m ≤ 140737488355328) := by
  obtain ⟨xs, n, hf, hxe, hlen, hxl, hfs⟩ := DataW.trod_struct Tryz.underlying150 h
  have k2 : Tryz.prog.cellsOf 150 = 2 := by kernel_rfl
  have k0 : Tryz.prog.cellsOf 9 = 1 := by kernel_rfl
  have k1 : Tryz.prog.cellsOf 9 = 1 := by kernel_rfl
  rw [k2] at hlen
  match cs, hlen with
  | [c0, c1], _ =>
    have hx2 : xs.length = 2 := hxl
    have l0 : 0 < xs.length := by omega
    have l1 : 1 < xs.length := by omega
    have hwe : x.1.weights Tryz.prog 150 = DataW.weightsEach Tryz.prog [ 9, 9 ] (xs.map (·.1)) := by
      rw [hxe]
      show DataW.weights Tryz.prog 150 (.agg (xs.map (·.1))) = _
      unfold DataW.weights
      rw [ Tryz.underlying150 ]
      rfl
    have hpt : ∀ (j : Nat) (tj : TypeId) (hj : j < xs.length), [ 9, 9 ][j]? = some tj → ∀ m ∈ xs[j].1.weights Tryz.prog tj, m ≤ 140737488355328 := fun j tj hj ht m hm => by
      refine hw m ?_
      rw [hwe]
      exact DataW.weights_mem_each ht (by rw [List.getElem?_map, List.getElem?_eq_getElem hj]; rfl) m hm
    have f0 : DataW.trod enc Tryz.prog W 0 (fun _ => true) true n 9 [c0] = xs[0]? := by simpa [k0] using hfs 0 _ rfl
    have f1 : DataW.trod enc Tryz.prog W 0 (fun _ => true) true n 9 [c1] = xs[1]? := by simpa [k1] using hfs 1 _ rfl
    rw [List.getElem?_eq_getElem l0] at f0
    rw [List.getElem?_eq_getElem l1] at f1
    exact ⟨c0, c1, n, _, _, rfl, f0, f1, hpt 0 _ l0 rfl, hpt 1 _ l1 rfl⟩
theorem open_str1 {H : Type} {enc : TypeId × Value → H} {W : World} {n : Nat} {c : Value} {y : DataW H × List MemPlace} (f1 : DataW.trod enc Tryz.prog W 0 (fun _ => true) true n 9 [c] = some y) (hw : ∀ m ∈ y.1.weights Tryz.prog 9, m ≤ 140737488355328) : ∃ s : ByteArray, c = .string s ∧ s.size ≤ 140737488355328 := by
  obtain ⟨name, e1, hx1, _⟩ := DataW.trod_string Tryz.underlying9 f1
  injection e1 with e1
  refine ⟨name, e1, hw _ ?_⟩
  rw [hx1]
  show _ ∈ [name.data.toList.length]
  rw [List.mem_singleton, Array.length_toList]; rfl
/-- A row of texts. -/
theorem open_strsK {H : Type} {enc : TypeId × Value → H} {W : World} {fuel : Nat} {c : Value} {x : DataW H × List MemPlace} (h : DataW.trod enc Tryz.prog W 0 (fun _ => true) true fuel 31 [c] = some x) (hw : ∀ m ∈ x.1.weights Tryz.prog 31, m ≤ 140737488355328) :
    ∃ (A : Option Addr) (k : Nat) (l : List ByteArray), c = .slice A l.length k ∧ Row W A (l.map Value.string) ∧ (A = none → l.length = 0 ∧ k = 0) ∧ l.length ≤ k ∧ l.length ≤ 140737488355328 ∧ ∀ s ∈ l, s.size ≤ 140737488355328 := by
  rcases open_sl Tryz.underlying31 (sz := 1) (by kernel_rfl) (of_decide_eq_true (by kernel_rfl)) h hw with e | ⟨a, len, cap, e, hlc, hl, hat⟩
  · injection e with e
    subst e
    exact ⟨none, 0, [], rfl, (fun j v h => by simp at h), fun _ => ⟨rfl, rfl⟩, Nat.le_refl _, Nat.zero_le _, fun s h => by cases h⟩
  · injection e with e
    subst e
    obtain ⟨L, hL, hp⟩ := list_of (p := fun i (s : ByteArray) => W.cell? (a.add i) = some (.string s) ∧ s.size ≤ 140737488355328) len fun i hi => by
      obtain ⟨n', cs', y, _, hln, hc, htr, hww⟩ := hat i hi
      match cs', hln with
      | [c0], _ =>
        obtain ⟨s, rfl, hs⟩ := open_str1 htr hww
        have := hc 0 (by decide)
        rw [Nat.mul_one, Addr.add_zero'] at this
        exact ⟨s, this, hs⟩
    subst hL
    refine ⟨some a, cap, L, rfl, fun j v hj => ?_, (fun h => by cases h), hlc, hl, fun s hs => ?_⟩
    · rw [List.getElem?_map] at hj
      cases hx : L[j]? with
      | none => rw [hx] at hj; cases hj
      | some s =>
        rw [hx] at hj
        obtain rfl := Option.some.inj hj
        exact ⟨a, rfl, (hp j s hx).1⟩
    · obtain ⟨j, hj⟩ := List.getElem?_of_mem hs
      exact (hp j s hj).2
/-- A row of constructors. -/
theorem open_cons {H : Type} {enc : TypeId × Value → H} {W : World} {fuel : Nat} {c : Value} {x : DataW H × List MemPlace} (h : DataW.trod enc Tryz.prog W 0 (fun _ => true) true fuel 81 [c] = some x) (hw : ∀ m ∈ x.1.weights Tryz.prog 81, m ≤ 140737488355328) :
    ∃ l : List CnT, ConsV W c l ∧ l.length ≤ 140737488355328 ∧ ∀ y ∈ l, y.name.size ≤ 140737488355328 ∧ y.fields.length ≤ 140737488355328 := by
  rcases open_sl Tryz.underlying81 (sz := 2) (by kernel_rfl) (of_decide_eq_true (by kernel_rfl)) h hw with e | ⟨a, len, cap, e, hlc, hl, hat⟩
  · injection e with e
    subst e
    exact ⟨[], ⟨none, 0, rfl, fun j x h => by simp at h⟩, Nat.zero_le _, fun s h => by cases h⟩
  · injection e with e
    subst e
    obtain ⟨L, hL, hp⟩ := list_of (p := fun i (y : CnT) => ∃ u, W.cell? (a.add (i * 2)) = some (.string y.name) ∧ W.cell? ((a.add (i * 2)).add 1) = some u ∧ StrsV W u y.fields ∧ y.name.size ≤ 140737488355328 ∧ y.fields.length ≤ 140737488355328) len fun i hi => by
      obtain ⟨n', cs', y, _, hln, hc, htr, hww⟩ := hat i hi
      obtain ⟨c0, c1, n, y0, y1, rfl, f0, f1, w0, w1⟩ := open_con htr hww
      obtain ⟨s, rfl, hs⟩ := open_str1 f0 w0
      obtain ⟨A, k, l, rfl, hr, -, -, hll, -⟩ := open_strsK f1 w1
      have h0 := hc 0 (by decide)
      rw [Addr.add_zero'] at h0
      exact ⟨⟨s, l⟩, _, h0, hc 1 (by decide), ⟨A, k, rfl, hr⟩, hs, hll⟩
    subst hL
    refine ⟨L, ⟨some a, cap, rfl, fun j y hj => ?_⟩, hl, fun y hy => ?_⟩
    · obtain ⟨u, h0, h1, h2, _⟩ := hp j y hj
      exact ⟨a, u, rfl, h0, h1, h2⟩
    · obtain ⟨j, hj⟩ := List.getElem?_of_mem hy
      obtain ⟨u, _, _, _, h3, h4⟩ := hp j y hj
      exact ⟨h3, h4⟩
/-- A row of datas. -/
theorem open_datas {H : Type} {enc : TypeId × Value → H} {W : World} {fuel : Nat} {c : Value} {x : DataW H × List MemPlace} (h : DataW.trod enc Tryz.prog W 0 (fun _ => true) true fuel 22 [c] = some x) (hw : ∀ m ∈ x.1.weights Tryz.prog 22, m ≤ 140737488355328) :
    ∃ l : List DtT, DatasV W c l ∧ DSz l := by
  rcases open_sl Tryz.underlying22 (sz := 2) (by kernel_rfl) (of_decide_eq_true (by kernel_rfl)) h hw with e | ⟨a, len, cap, e, hlc, hl, hat⟩
  · injection e with e
    subst e
    exact ⟨[], ⟨none, 0, rfl, fun j x h => by simp at h⟩, Nat.zero_le _, (fun s h => by cases h), (fun s h => by cases h), fun s h => by cases h⟩
  · injection e with e
    subst e
    obtain ⟨L, hL, hp⟩ := list_of (p := fun i (y : DtT) => ∃ u, W.cell? (a.add (i * 2)) = some (.string y.name) ∧ W.cell? ((a.add (i * 2)).add 1) = some u ∧ ConsV W u y.cons ∧ y.name.size ≤ 140737488355328 ∧ y.cons.length ≤ 140737488355328 ∧ ∀ z ∈ y.cons, z.name.size ≤ 140737488355328 ∧ z.fields.length ≤ 140737488355328) len fun i hi => by
      obtain ⟨n', cs', y, _, hln, hc, htr, hww⟩ := hat i hi
      obtain ⟨c0, c1, n, y0, y1, rfl, f0, f1, w0, w1⟩ := open_data htr hww
      obtain ⟨s, rfl, hs⟩ := open_str1 f0 w0
      obtain ⟨l, hc1, hll, hz⟩ := open_cons f1 w1
      have h0 := hc 0 (by decide)
      rw [Addr.add_zero'] at h0
      exact ⟨⟨s, l⟩, _, h0, hc 1 (by decide), hc1, hs, hll, hz⟩
    subst hL
    refine ⟨L, ⟨some a, cap, rfl, fun j y hj => ?_⟩, hl, fun y hy => ?_, fun y hy => ?_, fun y hy => ?_⟩
    · obtain ⟨u, h0, h1, h2, _⟩ := hp j y hj
      exact ⟨a, u, rfl, h0, h1, h2⟩
    all_goals
      obtain ⟨j, hj⟩ := List.getElem?_of_mem hy
      obtain ⟨u, _, _, _, h3, h4, h5⟩ := hp j y hj
    · exact h3
    · exact h4
    · exact h5
/-- Names and their sorts. -/
theorem open_scope {H : Type} {enc : TypeId × Value → H} {W : World} {fuel : Nat} {c : Value} {x : DataW H × List MemPlace} (h : DataW.trod enc Tryz.prog W 0 (fun _ => true) true fuel 23 [c] = some x) (hw : ∀ m ∈ x.1.weights Tryz.prog 23, m ≤ 140737488355328) :
    ∃ l : List (ByteArray × ByteArray), ScopeV W c l ∧ l.length ≤ 140737488355328 := by
  rcases open_sl Tryz.underlying23 (sz := 2) (by kernel_rfl) (of_decide_eq_true (by kernel_rfl)) h hw with e | ⟨a, len, cap, e, hlc, hl, hat⟩
  · injection e with e
    subst e
    exact ⟨[], ⟨none, 0, rfl, fun j x h => by simp at h⟩, Nat.zero_le _⟩
  · injection e with e
    subst e
    obtain ⟨L, hL, hp⟩ := list_of (p := fun i (y : ByteArray × ByteArray) => W.cell? (a.add (i * 2)) = some (.string y.1) ∧ W.cell? ((a.add (i * 2)).add 1) = some (.string y.2)) len fun i hi => by
      obtain ⟨n', cs', y, _, hln, hc, htr, hww⟩ := hat i hi
      obtain ⟨c0, c1, n, y0, y1, rfl, f0, f1, w0, w1⟩ := open_sorted htr hww
      obtain ⟨s, rfl, hs⟩ := open_str1 f0 w0
      obtain ⟨s', rfl, hs'⟩ := open_str1 f1 w1
      have h0 := hc 0 (by decide)
      rw [Addr.add_zero'] at h0
      exact ⟨(s, s'), h0, hc 1 (by decide)⟩
    subst hL
    refine ⟨L, ⟨some a, cap, rfl, fun j y hj => ?_⟩, hl⟩
    obtain ⟨h0, h1⟩ := hp j y hj
    exact ⟨a, rfl, h0, h1⟩
/-- A row of terms. -/
theorem open_tms {H : Type} {enc : TypeId × Value → H} {W : World} {fuel : Nat} {c : Value} {x : DataW H × List MemPlace} (h : DataW.trod enc Tryz.prog W 0 (fun _ => true) true fuel 28 [c] = some x) (hw : ∀ m ∈ x.1.weights Tryz.prog 28, m ≤ 140737488355328) :
    ∃ (A : Option Addr) (k : Nat) (l : List Tm), c = .slice A l.length k ∧ TmsAt W A l ∧ l.length ≤ 140737488355328 := by
  rcases open_sl Tryz.underlying28 (sz := 5) (by kernel_rfl) (of_decide_eq_true (by kernel_rfl)) h hw with e | ⟨a, len, cap, e, hlc, hl, hat⟩
  · injection e with e
    subst e
    exact ⟨none, 0, [], rfl, tms_none _ _, Nat.zero_le _⟩
  · injection e with e
    subst e
    obtain ⟨L, hL, hp⟩ := list_of (p := fun i (q : Tm) => ∃ u0 u1 u2 u3 u4, (W.cell? (a.add (i * 5)) = some u0 ∧ W.cell? ((a.add (i * 5)).add 1) = some u1 ∧ W.cell? ((a.add (i * 5)).add 2) = some u2 ∧ W.cell? ((a.add (i * 5)).add 3) = some u3 ∧ W.cell? ((a.add (i * 5)).add 4) = some u4) ∧ TmV W (.agg #[u0, u1, u2, u3, u4]) q) len fun i hi => by
      obtain ⟨n', cs', y, _, hln, hc, htr, hww⟩ := hat i hi
      obtain ⟨d0, d1, d2, d3, d4, t, rfl, ht⟩ := trod_tm n' htr hww
      have g0 := hc 0 (by decide)
      rw [Addr.add_zero'] at g0
      exact ⟨t, d0, d1, d2, d3, d4, ⟨g0, hc 1 (by decide), hc 2 (by decide), hc 3 (by decide), hc 4 (by decide)⟩, ht⟩
    subst hL
    refine ⟨some a, cap, L, rfl, fun j t hj => ?_, hl⟩
    obtain ⟨u0, u1, u2, u3, u4, hc, ht⟩ := hp j t hj
    exact ⟨a, u0, u1, u2, u3, u4, rfl, hc, ht⟩
end Go.Proofs.YtponkpiahgoohaaGreatDoor

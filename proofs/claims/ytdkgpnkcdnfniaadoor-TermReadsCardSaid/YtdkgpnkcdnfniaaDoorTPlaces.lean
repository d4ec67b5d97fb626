/- Package term's places: the place of each name, the last one's where a name comes twice. -/
import Derived.Test.YtdkgpnkcdnfniaaDoorTree
import Derived.Test.YtdkgpnkcdnfniaaDoorTWalk
import Derived.Maps.OwnSet
import Derived.Maps.Views
import Derived.WalkKit
set_option linter.unusedVariables false
set_option linter.unusedSimpArgs false
namespace Go.Proofs.YtdkgpnkcdnfniaaDoor
open Go.RowKit Go.WideMaps Go.Maps

theorem str_law : Keyed Tryd.prog 9 := string_keyed Tryd.underlying9
theorem zero_int (w : World) : (zeroValue 3).run Tryd.prog w = .ok (.int .i64 0) w := by kernel_rfl
/-- The last place below k at which the list has s. -/
def posK (l : List ByteArray) : Nat → ByteArray → Option Nat
  | 0, _ => none
  | k + 1, s => if l[k]? = some s then some k else posK l k s
theorem posK_lt (l : List ByteArray) (s : ByteArray) : ∀ {k i : Nat}, posK l k s = some i → i < k ∧ l[i]? = some s
  | 0, i, h => by cases h
  | k + 1, i, h => by
    unfold posK at h
    split at h
    · next e => injection h with h; subst h; exact ⟨by omega, e⟩
    · have := posK_lt l s h; exact ⟨by omega, this.2⟩
/-- A map that tells the places of the first k names. -/
def PosD (D : DataW Unit) (l : List ByteArray) (k : Nat) : Prop := ∀ s : ByteArray, match posK l k s with
  | some i => has D (.string s.data.toList) = true ∧ ∀ z, D.atKey (.string s.data.toList) z = .lit (.int .i64 (i : Int))
  | none => has D (.string s.data.toList) = false
theorem str_inj {a b : ByteArray} (h : (Lit.string a.data.toList) = .string b.data.toList) : a = b := by
  injection h with h
  have : a.data = b.data := Array.ext' h
  cases a; cases b; simp_all
theorem PosD.put {D : DataW Unit} {l : List ByteArray} {k : Nat} {x : ByteArray} (h : PosD D l k) (hm : IsMap D) (hx : l[k]? = some x) : PosD (D.put (.string x.data.toList) (.lit (.int .i64 (k : Int)))) l (k + 1) := fun s => by
  have hs := h s
  unfold posK
  by_cases e : x = s
  · subst e
    rw [if_pos hx]
    exact ⟨has_put_same hm (by simp [WideAt.IsKeyLit]) _, fun z => atKey_put_same hm (by simp [WideAt.IsKeyLit]) _ _⟩
  · rw [if_neg (by rw [hx]; intro h; injection h with h; exact e h)]
    have hne : (Lit.string s.data.toList) ≠ .string x.data.toList := fun h => e (str_inj h).symm
    split at hs
    · next i hi =>
      exact ⟨(has_put_other hne _).trans hs.1, fun z => (atKey_put_other hne _ _).trans (hs.2 z)⟩
    · next hi =>
      exact (has_put_other hne _).trans hs
/-- The state of places at k names. -/
def PlacesAt (w : World) (names : List ByteArray) (k : Nat) (wr : World) : Prop := ∃ D : DataW Unit, wr.ownsMap Tryd.prog 9 (plainElem Tryd.prog 3) w.heap.size k D ∧ PosD D names k ∧ Below w.heap.size w wr
set_option maxRecDepth 100000 in
set_option maxHeartbeats 6400000 in
theorem places_ok {w : World} {K : Option Addr} {n c : Nat} {names : List ByteArray} (hn : n = names.length) (hr : Row w K (names.map Value.string)) (hsz : ∀ s ∈ names, s.size ≤ maxLen) (hl : n ≤ 1000000) :
    Calls Tryd.prog 34 #[.slice K n c] w fun e w' => e = .returned (.map (some w.heap.size)) ∧ PlacesAt w names n w' := by
  have hmm : ∀ w, (Instr.makeMap 80 (some (.int .i64 (n : Int)))).run Tryd.prog w = .ok (.map (some w.heap.size)) (w.alloc (.map #[] 0)) := fun w => by
    simp [Instr.makeMap, go_sem]
  have HH := Lib.hid (show _ ∧ _ ∧ _ from ⟨hn, hr, hsz⟩)
  clear hn hr hsz
  go_enter Tryd.func34, Tryd.ntmps34
  go_wp2
  go_loopw [11] (fun i wr => ∃ k : Nat, k ≤ n ∧ i = .int .i64 k ∧ Hid (PlacesAt w names k wr)) (fun i _ => n - (intOf i).toNat)
  case atStart => exact ⟨0, Nat.zero_le _, rfl, .map [], World.ownsMap_made _ _ _ _, fun s => rfl, (Below.refl _ _).alloc (Nat.le_refl _) _⟩
  case round =>
    obtain ⟨k, hk, rfl, HI⟩ := hrel
    obtain ⟨D, hown, hpos, hb⟩ := HI.out
    rcases Nat.lt_or_ge k n with hlt | hge
    · have hi1 : (k : Int) < n := by omega
      have hi0 : 0 ≤ (k : Int) := by omega
      obtain ⟨hn, hr, hsz⟩ := HH.out
      have hkl : k < names.length := by omega
      obtain ⟨ad, rfl, hc⟩ := hr k (.string names[k]) (by rw [List.getElem?_map, List.getElem?_eq_getElem hkl]; rfl)
      have hcx : wr.cell? (ad.add k) = some (.string names[k]) := (hb.cell (cell_lt hc)).trans hc
      obtain ⟨x, hx⟩ : ∃ x, x = names[k] := ⟨_, rfl⟩
      have hx2 : names[k]? = some x := by rw [List.getElem?_eq_getElem hkl, hx]
      rw [← hx] at hcx
      have hkey : keyOf Tryd.prog 9 (.string x) = some (.string x.data.toList) := keyOf_string_mk Tryd.underlying9 (hsz x (by rw [hx]; exact List.getElem_mem hkl))
      have HP := Lib.hid (show _ ∧ _ ∧ _ ∧ _ from ⟨hpos, hown.isMap, hx2, hb⟩)
      have hwf : (Lit.int .i64 (k : Int)).wf = true := by
        have e1 : IntKind.i64.min = -9223372036854775808 := rfl
        have e2 : IntKind.i64.max = 9223372036854775807 := rfl
        simp only [Lit.wf, Bool.and_eq_true, decide_eq_true_eq, e1, e2]
        omega
      clear hpos hb hx hx2 hc HI hn hr hsz
      go_wp2_with (first
        | (at_mapUpdate; refine wpList_mapUpdate_own _ rfl _ _ _ 80 rfl 9 3 str_law Tryd.underlying80 _ w.heap.size k _ rfl hown (by unfold maxLen; omega) _ _ _ rfl rfl hkey _ [] (plainElem_int Tryd.underlying3 hwf) ?_)
        | go_in)
      intro w1 hown1 hgrow1
      obtain ⟨hpos, him, hx2, hb⟩ := HP.out
      have HE := Lib.hid (show PlacesAt w names (k + 1) w1 from ⟨_, hown1, hpos.put him hx2, hb.grown hgrow1 hb.size (fun j hj => by injection hj with hj; omega)⟩)
      clear hown hown1 hgrow1 hpos him hx2 hb HP hcx
      go_wp2
      go_roundw
      case rel => exact ⟨k + 1, by omega, by go_num, HE⟩
      case measure => simp [RowKit.intOf]; omega
    · have e : k = n := by omega
      subst e
      have HE := Lib.hid (show PlacesAt w names k wr from HI.out)
      clear hown hpos hb HI
      go_wp2
      go_returns
      exact ⟨rfl, HE.out⟩
end Go.Proofs.YtdkgpnkcdnfniaaDoor

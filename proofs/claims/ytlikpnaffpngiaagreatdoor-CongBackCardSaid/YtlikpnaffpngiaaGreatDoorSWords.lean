/- Datas and scopes in memory; which sorts functions, names and terms have: pure. No condition. Package term's sorter: its small words. No condition but of sizes. -/
import Derived.Test.YtlikpnaffpngiaaGreatDoorTPutA
import Derived.Test.YtlikpnaffpngiaaGreatDoorTStop
import Derived.BigQuiet
set_option linter.unusedVariables false
set_option linter.unusedSimpArgs false
namespace Go.Proofs.YtlikpnaffpngiaaGreatDoor
open Go.RowKit

/-- A constructor, a data. -/
structure CnT where
  name : ByteArray
  fields : List ByteArray
structure DtT where
  name : ByteArray
  cons : List CnT
def StrsV (W : World) (v : Value) (l : List ByteArray) : Prop := ∃ A c, v = .slice A l.length c ∧ Row W A (l.map Value.string)
def ConsV (W : World) (v : Value) (l : List CnT) : Prop := ∃ A c, v = .slice A l.length c ∧ ∀ j x, l[j]? = some x → ∃ ad u, A = some ad ∧ W.cell? (ad.add (j * 2)) = some (.string x.name) ∧ W.cell? ((ad.add (j * 2)).add 1) = some u ∧ StrsV W u x.fields
def DatasV (W : World) (v : Value) (l : List DtT) : Prop := ∃ A c, v = .slice A l.length c ∧ ∀ j x, l[j]? = some x → ∃ ad u, A = some ad ∧ W.cell? (ad.add (j * 2)) = some (.string x.name) ∧ W.cell? ((ad.add (j * 2)).add 1) = some u ∧ ConsV W u x.cons
/-- Names and their sorts. -/
def ScopeV (W : World) (v : Value) (l : List (ByteArray × ByteArray)) : Prop := ∃ A c, v = .slice A l.length c ∧ ∀ j x, l[j]? = some x → ∃ ad, A = some ad ∧ W.cell? (ad.add (j * 2)) = some (.string x.1) ∧ W.cell? ((ad.add (j * 2)).add 1) = some (.string x.2)
theorem Row.sub {a b : World} {A : Option Addr} {xs : List Value} (h : Row a A xs) (hb : Sub a b) : Row b A xs := fun j v hj => by
  obtain ⟨ad, e, hc⟩ := h j v hj
  exact ⟨ad, e, hb _ _ hc⟩
theorem StrsV.sub {a b : World} {v : Value} {l : List ByteArray} (h : StrsV a v l) (hb : Sub a b) : StrsV b v l := by
  obtain ⟨A, c, e, hr⟩ := h
  exact ⟨A, c, e, hr.sub hb⟩
theorem ConsV.sub {a b : World} {v : Value} {l : List CnT} (h : ConsV a v l) (hb : Sub a b) : ConsV b v l := by
  obtain ⟨A, c, e, hr⟩ := h
  refine ⟨A, c, e, fun j x hj => ?_⟩
  obtain ⟨ad, u, e1, h1, h2, h3⟩ := hr j x hj
  exact ⟨ad, u, e1, hb _ _ h1, hb _ _ h2, h3.sub hb⟩
theorem DatasV.sub {a b : World} {v : Value} {l : List DtT} (h : DatasV a v l) (hb : Sub a b) : DatasV b v l := by
  obtain ⟨A, c, e, hr⟩ := h
  refine ⟨A, c, e, fun j x hj => ?_⟩
  obtain ⟨ad, u, e1, h1, h2, h3⟩ := hr j x hj
  exact ⟨ad, u, e1, hb _ _ h1, hb _ _ h2, h3.sub hb⟩
theorem ScopeV.sub {a b : World} {v : Value} {l : List (ByteArray × ByteArray)} (h : ScopeV a v l) (hb : Sub a b) : ScopeV b v l := by
  obtain ⟨A, c, e, hr⟩ := h
  refine ⟨A, c, e, fun j x hj => ?_⟩
  obtain ⟨ad, e1, h1, h2⟩ := hr j x hj
  exact ⟨ad, e1, hb _ _ h1, hb _ _ h2⟩
/-- The words of the document. -/
def sInt : ByteArray := ⟨#[105, 110, 116]⟩
def sBool : ByteArray := ⟨#[98, 111, 111, 108]⟩
def sTag : ByteArray := ⟨#[116, 97, 103]⟩
def isDataK (D : List DtT) (s : ByteArray) : Bool := decide (s ≠ sInt) && decide (s ≠ sBool) && D.any fun d => decide (d.name = s)
def isSortK (D : List DtT) (s : ByteArray) : Bool := decide (s = sInt) || decide (s = sBool) || isDataK D s
def byteK (s : ByteArray) (i : Nat) : Nat := if h : i < s.size then (s[i]).toNat else 0
/-- The name of a field's function: that of the constructor, the field's place. -/
def cutK (s : ByteArray) : Option (ByteArray × Nat) :=
  if 2 ≤ s.size ∧ byteK s (s.size - 2) = 46 ∧ 48 ≤ byteK s (s.size - 1) ∧ byteK s (s.size - 1) ≤ 57 then some (s.extract 0 (s.size - 2), byteK s (s.size - 1) - 48) else none
def conK : List DtT → ByteArray → Option (ByteArray × List ByteArray)
  | [], _ => none
  | d :: D, c => match d.cons.find? fun x => decide (x.name = c) with
    | some x => some (d.name, x.fields)
    | none => conK D c
def funK (D : List DtT) (name : ByteArray) : Option (ByteArray × ByteArray) :=
  if name = sTag then some (⟨#[]⟩, sInt) else match cutK name with
    | none => none
    | some (c, i) => match conK D c with
      | none => none
      | some (d, f) => match f[i]? with
        | none => none
        | some s => some (d, s)
/-- The last one's sort of that name; none, if it is no sort. -/
def varK (D : List DtT) (S : List (ByteArray × ByteArray)) (x : ByteArray) : Option ByteArray := match S.reverse.find? fun p => decide (p.1 = x) with
  | some p => if isSortK D p.2 then some p.2 else none
  | none => none
def appK (D : List DtT) (name kid : ByteArray) : Option ByteArray := match funK D name with
  | none => none
  | some (d, s) => if isDataK D kid && isSortK D s && (decide (name = sTag) || decide (kid = d)) then some s else none
def madeK (to frm : ByteArray) (kids : List ByteArray) : Option ByteArray := if kids.all fun k => decide (k = frm) then some to else none
/-- How many kids a part of a kind has (none: any number); none, if the kind has no sort. -/
def manyK (k : Int) : Option (Option Nat) :=
  if k = 1 ∨ k = 2 ∨ k = 3 ∨ k = 4 then some (some 0) else if k = 6 ∨ k = 7 ∨ k = 10 then some (some 1) else if k = 8 ∨ k = 9 ∨ k = 13 then some (some 2) else if k = 5 ∨ k = 11 ∨ k = 12 then some none else none
open Classical in
noncomputable def rightK (neg : Bool) (ds : List Nat) : Bool := decide (right ds ∧ (ds = [] → neg = false))
open Classical in
theorem rightK_iff {neg : Bool} {ds : List Nat} : rightK neg ds = true ↔ right ds ∧ (ds = [] → neg = false) := by unfold rightK; exact decide_eq_true_iff
def fitsN (o : Option Nat) (n : Nat) : Bool := match o with
  | none => true
  | some m => decide (m = n)
def manyI (o : Option Nat) : Int := match o with
  | none => -1
  | some m => (m : Int)
/-- Is a part let in, ahead of its kids? -/
noncomputable def entK (t : Tm) : Bool := (match manyK t.kind with
  | none => false
  | some o => fitsN o t.kids.length) && (!(decide (t.kind = 2) || decide (t.kind = 6)) || rightK t.neg t.ds)
/-- The sort of a part that was let in. -/
def lvK (D : List DtT) (S : List (ByteArray × ByteArray)) (kind : Int) (name : ByteArray) (kids : List ByteArray) : Option ByteArray :=
  if kind = 1 then varK D S name else if kind = 2 ∨ kind = 5 ∨ kind = 6 then madeK sInt sInt kids else if kind = 9 then madeK sBool sInt kids else if kind = 8 then (match kids with
    | [] => none
    | k :: _ => if k = sBool then none else madeK sBool k kids) else if kind = 7 then (match kids with
    | [] => none
    | k :: _ => appK D name k) else madeK sBool sBool kids
mutual
/-- The sort of a term. -/
noncomputable def sortT (D : List DtT) (S : List (ByteArray × ByteArray)) : Tm → Option ByteArray
  | .mk kind name neg ds kids => if entK (.mk kind name neg ds kids) then (sortL D S kids).bind (lvK D S kind name) else none
noncomputable def sortL (D : List DtT) (S : List (ByteArray × ByteArray)) : List Tm → Option (List ByteArray)
  | [] => some []
  | t :: l => (sortT D S t).bind fun s => (sortL D S l).map (s :: ·)
end
theorem Drawn.low {w w' : World} (h : Drawn w w') : Below w.heap.size w w' := by
  obtain ⟨m, rfl⟩ := h
  exact below_drewN (Below.refl _ _) m
end Go.Proofs.YtlikpnaffpngiaaGreatDoor

namespace Go.Proofs.YtlikpnaffpngiaaGreatDoor
open Go.RowKit

/-- A sort is told, or an error thrown. -/
def SortRet (r : Option ByteArray) (e : Ending) : Prop := (∃ s, r = some s ∧ e = .returned (.string s)) ∨ (r = none ∧ ∃ n : Int, n ≠ 0 ∧ e = .panicked [{ v := .iface 32 (.int .i64 n), recovered := false }])
theorem need_yes {w : World} : Calls Tryz.prog 75 #[.bool true] w fun e w' => e = .returned (.tuple #[]) ∧ w' = w := by
  go_enter Tryz.func75, Tryz.ntmps75
  go_wp2
  go_returns
  exact ⟨rfl, rfl⟩
theorem need_no {w : World} : Calls Tryz.prog 75 #[.bool false] w fun e w' => e = .panicked [{ v := .iface 32 (.int .i64 23), recovered := false }] ∧ w' = w := by
  go_enter Tryz.func75, Tryz.ntmps75
  go_wp2
  exact ⟨rfl, rfl, rfl⟩
/-- need, whichever it is. -/
theorem need_any {w : World} {b : Bool} : Calls Tryz.prog 75 #[.bool b] w fun e w' => w' = w ∧ ((b = true ∧ e = .returned (.tuple #[])) ∨ (b = false ∧ e = .panicked [{ v := .iface 32 (.int .i64 23), recovered := false }])) := by
  cases b with
  | true => exact need_yes.mono fun e w' h => ⟨h.2, .inl ⟨rfl, h.1⟩⟩
  | false => exact need_no.mono fun e w' h => ⟨h.2, .inr ⟨rfl, h.1⟩⟩
def manyV : Option (Option Nat) → Value
  | none => .tuple #[.int .i64 0, .bool false]
  | some none => .tuple #[.int .i64 (-1), .bool true]
  | some (some n) => .tuple #[.int .i64 (n : Int), .bool true]
set_option maxRecDepth 100000 in
set_option maxHeartbeats 3200000 in
theorem kidsOf_ok {w : World} {k : Int} : Calls Tryz.prog 74 #[.int .u8 k] w fun e w' => e = .returned (manyV (manyK k)) ∧ w' = w := by
  by_cases h1 : k = 1 ∨ k = 2 ∨ k = 3 ∨ k = 4
  · have e : manyK k = some (some 0) := by unfold manyK; rw [if_pos h1]
    rw [e]
    rcases h1 with rfl | rfl | rfl | rfl
    all_goals go_enter Tryz.func74, Tryz.ntmps74
    all_goals go_wp2
    all_goals go_returns
    all_goals exact ⟨rfl, rfl⟩
  · by_cases h2 : k = 6 ∨ k = 7 ∨ k = 10
    · have e : manyK k = some (some 1) := by unfold manyK; rw [if_neg h1, if_pos h2]
      rw [e]
      rcases h2 with rfl | rfl | rfl
      all_goals go_enter Tryz.func74, Tryz.ntmps74
      all_goals go_wp2
      all_goals go_returns
      all_goals exact ⟨rfl, rfl⟩
    · by_cases h3 : k = 8 ∨ k = 9 ∨ k = 13
      · have e : manyK k = some (some 2) := by unfold manyK; rw [if_neg h1, if_neg h2, if_pos h3]
        rw [e]
        rcases h3 with rfl | rfl | rfl
        all_goals go_enter Tryz.func74, Tryz.ntmps74
        all_goals go_wp2
        all_goals go_returns
        all_goals exact ⟨rfl, rfl⟩
      · by_cases h4 : k = 5 ∨ k = 11 ∨ k = 12
        · have e : manyK k = some none := by unfold manyK; rw [if_neg h1, if_neg h2, if_neg h3, if_pos h4]
          rw [e]
          rcases h4 with rfl | rfl | rfl
          all_goals go_enter Tryz.func74, Tryz.ntmps74
          all_goals go_wp2
          all_goals go_returns
          all_goals exact ⟨rfl, rfl⟩
        · have e : manyK k = none := by unfold manyK; rw [if_neg h1, if_neg h2, if_neg h3, if_neg h4]
          rw [e]
          have q1 : (k == 1) = false := by rw [beq_eq_false_iff_ne]; omega
          have q2 : (k == 2) = false := by rw [beq_eq_false_iff_ne]; omega
          have q3 : (k == 3) = false := by rw [beq_eq_false_iff_ne]; omega
          have q4 : (k == 4) = false := by rw [beq_eq_false_iff_ne]; omega
          have q5 : (k == 5) = false := by rw [beq_eq_false_iff_ne]; omega
          have q6 : (k == 6) = false := by rw [beq_eq_false_iff_ne]; omega
          have q7 : (k == 7) = false := by rw [beq_eq_false_iff_ne]; omega
          have q8 : (k == 8) = false := by rw [beq_eq_false_iff_ne]; omega
          have q9 : (k == 9) = false := by rw [beq_eq_false_iff_ne]; omega
          have q10 : (k == 10) = false := by rw [beq_eq_false_iff_ne]; omega
          have q11 : (k == 11) = false := by rw [beq_eq_false_iff_ne]; omega
          have q12 : (k == 12) = false := by rw [beq_eq_false_iff_ne]; omega
          have q13 : (k == 13) = false := by rw [beq_eq_false_iff_ne]; omega
          clear h1 h2 h3 h4 e
          go_enter Tryz.func74, Tryz.ntmps74
          go_wp2
          go_returns
          exact ⟨rfl, rfl⟩
set_option maxRecDepth 100000 in
set_option maxHeartbeats 3200000 in
/-- made: the sort to, all kids being of the sort from; or what is thrown. -/
theorem made_ok {w : World} {to frm : ByteArray} {A : Option Addr} {c : Nat} {kids : List ByteArray} (hr : Row w A (kids.map Value.string)) (hl : kids.length ≤ 1000000) :
    Calls Tryz.prog 78 #[.string to, .string frm, .slice A kids.length c] w fun e w' => w' = w ∧ SortRet (madeK to frm kids) e := by
  obtain ⟨n, hn⟩ : ∃ n, n = kids.length := ⟨_, rfl⟩
  rw [← hn]
  have HR := Lib.hid (show _ ∧ _ ∧ _ from ⟨hr, hl, hn⟩)
  have hn1 : n ≤ 1000000 := by omega
  clear hr hl hn
  go_enter Tryz.func78, Tryz.ntmps78
  go_wp2
  go_loop [11] (fun a => ∃ k : Nat, k ≤ n ∧ a = .int .i64 (k : Int) ∧ Hid ((kids.take k).all (fun x => decide (x = frm)) = true)) (fun a => n - (intOf a).toNat)
  case atStart => exact ⟨0, Nat.zero_le _, rfl, rfl⟩
  case round =>
    obtain ⟨k, hk, rfl, HI⟩ := hrel
    rcases Nat.lt_or_ge k n with hlt | hge
    · have hi1 : (k : Int) < n := by omega
      have hi0 : 0 ≤ (k : Int) := by omega
      obtain ⟨hr, hl, hn⟩ := HR.out
      have hkl : k < kids.length := by omega
      obtain ⟨ad, rfl, hc⟩ := hr k (.string kids[k]) (by rw [List.getElem?_map, List.getElem?_eq_getElem hkl]; rfl)
      obtain ⟨x, hx⟩ : ∃ x, x = kids[k] := ⟨_, rfl⟩
      rw [← hx] at hc
      have HX := Lib.hid (show kids.take (k + 1) = kids.take k ++ [x] from by rw [List.take_add_one, List.getElem?_eq_getElem hkl, hx]; rfl)
      have HM := Lib.hid (show x ∈ kids from by rw [hx]; exact List.getElem_mem hkl)
      clear hr hl hn hkl hx
      by_cases hs : x = frm
      · subst hs
        have HN := Lib.hid (need_yes (w := w))
        go_wp2_with fail
        refine HN.out.mono ?_
        rintro e w' ⟨rfl, rfl⟩
        go_wp2
        go_round
        case rel => exact ⟨k + 1, by omega, by go_num, by
          show (kids.take (k + 1)).all _ = true
          rw [HX.out, List.all_append, HI.out]
          simp⟩
        case measure => simp [intOf]; omega
      · have hsb := bytes_no hs
        have HN := Lib.hid (need_no (w := w))
        go_wp2_with fail
        refine HN.out.mono ?_
        rintro e w' ⟨rfl, rfl⟩
        have HE := Lib.hid (show madeK to frm kids = none from by
          unfold madeK
          rw [if_neg]
          intro h
          have := List.all_eq_true.1 h x HM.out
          exact hs (of_decide_eq_true this))
        go_wp2
        exact ⟨rfl, rfl, .inr ⟨HE.out, 23, by decide, rfl⟩⟩
    · have e : k = n := by omega
      subst e
      have HE := Lib.hid (show madeK to frm kids = some to from by
        unfold madeK
        rw [if_pos]
        have h := HI.out
        rw [HR.out.2.2, List.take_length] at h
        exact h)
      clear HI
      go_wp2
      go_returns
      exact ⟨rfl, .inl ⟨_, HE.out, rfl⟩⟩
end Go.Proofs.YtlikpnaffpngiaaGreatDoor

/- A range over a function whose body may panic; slices.Backward over names and their sorts, whatever the body does. No condition but of sizes. The calls that a round's body makes, within the program's own functions: need, isData, isSort. No condition but of sizes. -/
import Derived.Test.YtlikpnaffpngiaaGreatDoorSIs
import Derived.RangeFuncLeaves
import Derived.RangeFuncRecord
import Derived.RangeFuncSeq
import Derived.Shelf.Abstract
import Derived.WalkKit
import Derived.OwnWalkIn
import Derived.TacticsInMore
import Derived.LoopNIn
import Derived.LoopIn
set_option linter.unusedVariables false
set_option linter.unusedSimpArgs false
namespace Go.Proofs.YtlikpnaffpngiaaGreatDoor
open Go.RowKit Go.Shelf
attribute [local go_sem] Oper.semAt_some

/-- A fence that lets all functions of the program in. -/
def OwnF (F : Fence) : Prop := ∀ f fn, Tryz.prog.funcs[f]? = some fn → F.fn f
/-- What is asked where a round's body ends: behind it, by a return, by a panic. -/
def RoundEnds (P : Program) (l : Nat) (R : Ending → World → Prop) : Exit → Act → World → Prop
  | .normal, _, w => ∃ v w', (Instr.endRound l none).run P w = .ok v w' ∧ R (.returned v) w'
  | .ret, _, w => ∃ v w', (Instr.endRound l (some .ret)).run P w = .ok v w' ∧ R (.returned v) w'
  | .panic ch, a, w => a.defers = [] ∧ R (.panicked ch) w
  | _, _, _ => False
/-- A round, out of what its two pieces of code do; a panic goes on to who called yield. -/
theorem round_ends {F : Fence} {n : Nat} {P : Program} {l : Nat} {f : FuncId} {tmps : Array Value} {assign body : Code} {w : World} {R : Ending → World → Prop} (hF : F.fn f) (hfn : ∃ fn, P.funcs[f]? = some fn)
    (h : assign.wpIn (F.inRound l) n P (Exit.then (fun a w1 => ∃ w2, (Instr.beginRound l).run P w1 = .ok () w2 ∧ body.wpIn (F.inRound l) n P (RoundEnds P l R) a w2) fun _ _ _ => False) { tmps := tmps, defers := [] } w) : RoundIn F n P l f tmps assign body w R := by
  refine ⟨hF, fun c cs hr => ?_⟩
  have hr' : (F.inRound l).room ((c :: cs).length + 1 + n) := hr
  obtain ⟨b, hb⟩ : ∃ b : Frame, b = { (default : Frame) with fn := f, kind := .normal, roundOf := some l } := ⟨_, rfl⟩
  have hbo : b.roundOf = some l := by rw [hb]
  have hbk : b.kind = .normal := by rw [hb]
  have hF' : (F.inRound l).fn b.fn := by rw [hb]; exact hF
  have hb0 : Frame.round l f tmps assign body .normal = b.atR { tmps := tmps, defers := [] } [.code assign, .beginRound, .code body] := by
    rw [hb]; simp [Frame.round, Frame.atR]
  obtain ⟨e, a1, w1, hq, harr⟩ := h b [.beginRound, .code body] (c :: cs) hbo hF' hr'
  rw [← hb0] at harr
  match e, hq, harr with
  | .normal, ⟨w2, hbr, hbody⟩, harr =>
    have s1 := StepsIn.trans harr (.one (fenced_calm (fr := b.atR a1 [.beginRound, .code body]) hF' hr' rfl) (stepR_beginRound hbo hbr))
    obtain ⟨e2, a2, w3, hq2, harr2⟩ := hbody b [] (c :: cs) hbo hF' hr'
    match e2, hq2, harr2 with
    | .normal, ⟨v, w4, hend, hR⟩, harr2 =>
      exact ⟨.returned v, w4, hR, s1.trans (StepsIn.trans harr2 (.one (fenced_calm (fr := b.atR a2 []) hF' hr' rfl) (stepR_round_end hbo hbk hend)))⟩
    | .ret, ⟨v, w4, hend, hR⟩, harr2 =>
      obtain ⟨k1, hs⟩ := harr2.2 (by rw [hbo]; rfl)
      exact ⟨.returned v, w4, hR, s1.trans (StepsIn.trans hs (.one (fenced_calm (fr := b.atR a2 (.code .ret :: k1)) hF' hr' rfl) (stepR_round_ret hbo hbk hend)))⟩
    | .panic ch, ⟨hd, hR⟩, harr2 =>
      obtain ⟨todo, hs⟩ := harr2
      have hlv : Frame.leaving P { b.atR a2 todo with mode := .panicking ch } w3 (.panicked ch) := ⟨rfl, hd, by rw [hb]; exact hfn⟩
      exact ⟨.panicked ch, w3, hR, s1.trans (StepsIn.trans hs (.one (fenced_leaving hF' hr' hlv) (step_leave_panicked hlv)))⟩
set_option maxRecDepth 100000 in
set_option maxHeartbeats 2000000 in
/-- slices.Backward's closure: J k holds while the first k are still to come. -/
theorem back1_in {F : Fence} (hro : F.round = none) (hF : OwnF F) {n : Nat} (hn : 2 ≤ n) {l Bs n0 cap : Nat} {K : Option Addr} {S : List (ByteArray × ByteArray)} {J : Nat → World → Prop} {Jr : World → Prop} {Jp : List PanicEntry → World → Prop} (hl : S.length ≤ 1000000)
    (hY : ∀ k x W, S[k]? = some x → J (k + 1) W → YieldAt F (n - 1) Tryz.prog l #[.int .i64 (k : Int), .agg #[.string x.1, .string x.2]] W fun e W' => (e = .returned (.bool true) ∧ J k W' ∧ Below n0 W W') ∨ (e = .returned (.bool false) ∧ Jr W') ∨ (∃ ch, e = .panicked ch ∧ Jp ch W'))
    {W : World} (hBs : W.cell? ⟨Bs, 0, none⟩ = some (.slice K S.length cap)) (hB : Bs < n0) (hS : ∀ j x, S[j]? = some x → ∃ ad, K = some ad ∧ ad.block < n0 ∧ W.cell? (ad.add (j * 2)) = some (.string x.1) ∧ W.cell? ((ad.add (j * 2)).add 1) = some (.string x.2)) (h0 : J S.length W) :
    CallsIn F n Tryz.prog 107 #[.func (.yield l) #[] #[], .pointer (some ⟨Bs, 0, none⟩)] W fun e W' => ((∃ v, e = .returned v) ∧ (J 0 W' ∨ Jr W')) ∨ ∃ ch, e = .panicked ch ∧ Jp ch W' := by
  have hx1 : 1 ≤ n := by omega
  obtain ⟨len, hlen⟩ : ∃ len, len = S.length := ⟨_, rfl⟩
  rw [← hlen] at hBs h0
  have hl1 : len ≤ 1000000 := by omega
  have HL := Lib.hid hlen
  have HS := Lib.hid hS
  have HY := Lib.hid hY
  clear hlen hS hY hl
  refine callsIn_of_wp Tryz.func107 rfl (hF _ _ Tryz.func107) ?_ hro
  simp only [ Tryz.ntmps107, List.size_toArray, List.length_cons, List.length_nil, Nat.reduceAdd, Nat.reduceSub, Array.replicate_succ, Array.replicate_zero, List.push_toArray, List.append_toArray, List.nil_append, List.cons_append]
  gi_wp2
  gi_loopw [3] (fun i wr => ∃ r : Nat, r ≤ len ∧ i = .int .i64 ((r : Int) - 1) ∧ Hid (J r wr ∧ Below n0 W wr)) (fun i _ => (intOf i + 1).toNat)
  case atStart => exact ⟨len, Nat.le_refl _, rfl, Lib.hid ⟨h0, Below.refl _ _⟩⟩
  case round =>
    obtain ⟨r, hr, rfl, HJ⟩ := hrel
    rcases r with _ | r
    · have e0 : (((0 : Nat) : Int) - 1) = -1 := by omega
      rw [e0]
      have HE := Lib.hid HJ.out.1
      clear HJ
      gi_wp2
      go_end0
      exact .inl ⟨⟨_, rfl⟩, .inl HE.out⟩
    · have e0 : (((r + 1 : Nat) : Int) - 1) = (r : Int) := by omega
      rw [e0]
      obtain ⟨x, hx⟩ : ∃ x, S[r]? = some x := ⟨_, List.getElem?_eq_getElem (by rw [← HL.out]; omega)⟩
      obtain ⟨ad, rfl, had, c0, c1⟩ := HS.out r x hx
      obtain ⟨fn, tmps, assign, body, hy, hR⟩ := HY.out r x wr hx HJ.out.1
      have hb := HJ.out.2
      have g0 : wr.cell? (ad.add (r * 2)) = some (.string x.1) := (hb.cell (by rw [add_block]; exact had)).trans c0
      have g1 : wr.cell? { block := (ad.add (r * 2)).block, off := (ad.add (r * 2)).off + 1 } = some (.string x.2) := by
        rw [add_posK _ (by decide)] at c1
        exact (hb.cell (by rw [add_block]; exact had)).trans c1
      have g2 : wr.cell? ⟨Bs, 0, none⟩ = some (.slice (some ad) len cap) := (hb.cell (p := ⟨Bs, 0, none⟩) hB).trans hBs
      have i1 : (r : Int) < len := by omega
      have i0 : 0 ≤ (r : Int) := by omega
      have HB := Lib.hid hb
      have HR := Lib.hid hR
      clear hb c0 c1 had hx hR HJ
      gi_wp2
      refine HR.out.mono ?_
      rintro e W3 (⟨rfl, hJ3, hk3⟩ | ⟨rfl, hJr⟩ | ⟨ch, rfl, hJp⟩)
      · have HE := Lib.hid (show J r W3 ∧ Below n0 W W3 from ⟨hJ3, HB.out.trans hk3⟩)
        clear hJ3 hk3 HR HB
        gi_wp2
        go_roundw
        case rel => exact ⟨r, by omega, by go_num, HE⟩
        case measure => simp [intOf]
      · have HE := Lib.hid hJr
        clear hJr HR HB
        gi_wp2
        refine bodyPost_ret (results_none rfl _ _ _) rfl ?_
        exact .inl ⟨⟨_, rfl⟩, .inr HE.out⟩
      · have HE := Lib.hid hJp
        clear hJp HR HB
        gi_wp2
        exact ⟨rfl, .inr ⟨ch, rfl, HE.out⟩⟩
theorem back_in {F : Fence} (hro : F.round = none) (hF : OwnF F) {n : Nat} {w : World} {v : Value} {A : Option Addr} {k c : Nat} (hv : v = .slice A k c) :
    CallsIn F n Tryz.prog 91 #[v] w fun e w' => e = .returned (.func (.func 107) #[] #[.pointer (some ⟨w.heap.size, 0, none⟩)]) ∧ w' = w.alloc (.cells #[v] 42) := by
  subst hv
  refine callsIn_of_wp Tryz.func91 rfl (hF _ _ Tryz.func91) ?_ hro
  simp only [ Tryz.ntmps91, List.size_toArray, List.length_cons, List.length_nil, Nat.reduceAdd, Nat.reduceSub, Array.replicate_succ, Array.replicate_zero, List.push_toArray, List.append_toArray, List.nil_append, List.cons_append]
  gi_wp2
  go_returns
  exact ⟨rfl, rfl⟩
end Go.Proofs.YtlikpnaffpngiaaGreatDoor

namespace Go.Proofs.YtlikpnaffpngiaaGreatDoor
open Go.RowKit Go.Shelf

/-- The program's own functions. -/
def FV : Fence := { fn := fun f => ∃ fn, Tryz.prog.funcs[f]? = some fn, depth := none, alive := false }
theorem fv_room (n : Nat) : FV.room n := fun d h => by cases h
theorem fv_calls {n : Nat} {f : FuncId} {args : Array Value} {w : World} {R : Ending → World → Prop} (h : CallsIn FV n Tryz.prog f args w R) : Calls Tryz.prog f args w R :=
  h.calls fv_room
theorem need_in {F : Fence} (hro : F.round = none) (hF : OwnF F) {n : Nat} {w : World} {b : Bool} : CallsIn F n Tryz.prog 75 #[.bool b] w fun e w' => w' = w ∧ ((b = true ∧ e = .returned (.tuple #[])) ∨ (b = false ∧ e = .panicked [{ v := .iface 32 (.int .i64 23), recovered := false }])) := by
  cases b with
  | true =>
    refine callsIn_of_wp Tryz.func75 rfl (hF _ _ Tryz.func75) ?_ hro
    simp only [ Tryz.ntmps75, List.size_toArray, List.length_cons, List.length_nil, Nat.reduceAdd, Nat.reduceSub, Array.replicate_succ, Array.replicate_zero, List.push_toArray, List.append_toArray, List.nil_append, List.cons_append]
    gi_wp2
    go_end0
    first | exact ⟨rfl, .inl ⟨rfl, rfl⟩⟩ | exact ⟨trivial, .inl ⟨rfl, rfl⟩⟩ | exact ⟨rfl, .inl ⟨trivial, rfl⟩⟩ | simp
  | false =>
    refine callsIn_of_wp Tryz.func75 rfl (hF _ _ Tryz.func75) ?_ hro
    simp only [ Tryz.ntmps75, List.size_toArray, List.length_cons, List.length_nil, Nat.reduceAdd, Nat.reduceSub, Array.replicate_succ, Array.replicate_zero, List.push_toArray, List.append_toArray, List.nil_append, List.cons_append]
    gi_wp2
    first | exact ⟨rfl, rfl, .inr ⟨rfl, rfl⟩⟩ | exact ⟨rfl, rfl, .inr ⟨trivial, rfl⟩⟩ | simp
set_option maxRecDepth 100000 in
set_option maxHeartbeats 3200000 in
theorem isData1_in {F : Fence} (hro : F.round = none) (hF : OwnF F) {n : Nat} (hn : 3 ≤ n) {w : World} {b : Nat} {name s : ByteArray} {u : Value} (hu : u.oneCell' = true) (hb : w.cell? ⟨b, 0, none⟩ = some (.string name)) :
    CallsIn F n Tryz.prog 111 #[.agg #[.string s, u], .pointer (some ⟨b, 0, none⟩)] w fun e w' => e = .returned (.bool (decide (s = name))) ∧ Below w.heap.size w w' := by
  have hx1 : 1 ≤ n := by omega
  have hx2 : 1 ≤ n - 1 := by omega
  have hx3 := hF _ _ Tryz.func111
  have hx4 := hF _ _ Tryz.func121
  have hx5 := hF _ _ Tryz.func110
  have hx6 := hF _ _ Tryz.func94
  have hx7 := hF _ _ Tryz.func92
  have hx8 := hF _ _ Tryz.func75
  have hbl := cell_lt hb
  have h2 : (w.alloc (.cells #[.string s, u] 68)).cell? ⟨b, 0, none⟩ = some (.string name) := (Below.cell ((Below.refl _ _).alloc (Nat.le_refl _) _) hbl).trans hb
  have h3 : (w.alloc (.cells #[.string s, u] 68)).cell? ⟨w.heap.size, 0, none⟩ = some (.string s) := cell_newK rfl
  by_cases hs : s = name
  · have hsb : (s.toList == name.toList) = true := by rw [hs]; exact beq_self_eq_true _
    have HE := Lib.hid (show decide (s = name) = true from decide_eq_true hs)
    rw [HE.out]
    clear hs hbl hb
    refine callsIn_of_wp Tryz.func111 rfl (hF _ _ Tryz.func111) ?_ hro
    simp only [ Tryz.ntmps111, List.size_toArray, List.length_cons, List.length_nil, Nat.reduceAdd, Nat.reduceSub, Array.replicate_succ, Array.replicate_zero, List.push_toArray, List.append_toArray, List.nil_append, List.cons_append]
    gi_wp2
    go_returns
    exact ⟨rfl, (Below.refl _ _).alloc (Nat.le_refl _) _⟩
  · have hsb := bytes_no hs
    have HE := Lib.hid (show decide (s = name) = false from decide_eq_false hs)
    rw [HE.out]
    clear hs hbl hb
    refine callsIn_of_wp Tryz.func111 rfl (hF _ _ Tryz.func111) ?_ hro
    simp only [ Tryz.ntmps111, List.size_toArray, List.length_cons, List.length_nil, Nat.reduceAdd, Nat.reduceSub, Array.replicate_succ, Array.replicate_zero, List.push_toArray, List.append_toArray, List.nil_append, List.cons_append]
    gi_wp2
    go_returns
    exact ⟨rfl, (Below.refl _ _).alloc (Nat.le_refl _) _⟩
set_option maxRecDepth 100000 in
set_option maxHeartbeats 3200000 in
theorem indexFunc_in {F : Fence} (hro : F.round = none) (hF : OwnF F) {m : Nat} (hm : 5 ≤ m) {w : World} {v : Value} {D : List DtT} {b : Nat} {name : ByteArray} (hv : DatasV w v D) (hf : D.length ≤ 1000000) (hb : w.cell? ⟨b, 0, none⟩ = some (.string name)) :
    CallsIn F m Tryz.prog 121 #[v, .func (.func 111) #[] #[.pointer (some ⟨b, 0, none⟩)] ] w fun e w' => IdxRet D name e ∧ Below w.heap.size w w' := by
  have hx1 : 1 ≤ m := by omega
  have hx2 : 1 ≤ m - 1 := by omega
  have hx3 := hF _ _ Tryz.func111
  have hx4 := hF _ _ Tryz.func121
  have hx5 := hF _ _ Tryz.func110
  have hx6 := hF _ _ Tryz.func94
  have hx7 := hF _ _ Tryz.func92
  have hx8 := hF _ _ Tryz.func75
  obtain ⟨K, cap, rfl, hr⟩ := hv
  obtain ⟨n, hn⟩ : ∃ n, n = D.length := ⟨_, rfl⟩
  rw [← hn]
  have hn1 : n ≤ 1000000 := by omega
  have HD := Lib.hid (show _ ∧ _ ∧ _ from ⟨hr, hb, hn⟩)
  have hen : ∀ (args : Array Value) (w : World), (callFunc 111 args).run Tryz.prog w = .ok (.enter 111 args) w := run_enters (by kernel_rfl)
  clear hr hf hn hb
  refine callsIn_of_wp Tryz.func121 rfl (hF _ _ Tryz.func121) ?_ hro
  simp only [ Tryz.ntmps121, List.size_toArray, List.length_cons, List.length_nil, Nat.reduceAdd, Nat.reduceSub, Array.replicate_succ, Array.replicate_zero, List.push_toArray, List.append_toArray, List.nil_append, List.cons_append]
  gi_wp2
  gi_loopw [8] (fun a wr => ∃ k : Nat, k ≤ n ∧ a = .int .i64 (k : Int) ∧ Hid (Below w.heap.size w wr ∧ ((D.take k).any fun d => decide (d.name = name)) = false)) (fun a _ => n - (intOf a).toNat)
  case atStart => exact ⟨0, Nat.zero_le _, rfl, Lib.hid ⟨Below.refl _ _, rfl⟩⟩
  case round =>
    obtain ⟨k, hk, rfl, HI⟩ := hrel
    rcases Nat.lt_or_ge k n with hlt | hge
    · have hi1 : (k : Int) < n := by omega
      have hi0 : 0 ≤ (k : Int) := by omega
      obtain ⟨hr, hcb, hn⟩ := HD.out
      obtain ⟨x, hx⟩ : ∃ x, D[k]? = some x := ⟨_, List.getElem?_eq_getElem (by omega)⟩
      obtain ⟨ad, u, rfl, h0, h1, hC⟩ := hr k x hx
      obtain ⟨C, cc, rfl, -⟩ := hC
      have hb := HI.out.1
      have g0 : wr.cell? (ad.add (k * 2)) = some (.string x.name) := (hb.cell (cell_lt h0)).trans h0
      have g1 : wr.cell? { block := (ad.add (k * 2)).block, off := (ad.add (k * 2)).off + 1 } = some (.slice C x.cons.length cc) := by
        rw [add_posK _ (by decide)] at h1
        exact (hb.cell (cell_lt h1)).trans h1
      have HC := Lib.hid (isData1_in hro hF (n := m - 1) (by omega) (w := wr) (b := b) (s := x.name) (u := .slice C x.cons.length cc) rfl ((hb.cell (cell_lt hcb)).trans hcb))
      have HX := Lib.hid (show _ ∧ _ from ⟨hx, hn⟩)
      clear h0 h1 hr hb hcb hx hn
      by_cases hs : x.name = name
      · have e : decide (x.name = name) = true := decide_eq_true hs
        rw [e] at HC
        have HE := Lib.hid (show (D.any fun d => decide (d.name = name)) = true from List.any_eq_true.2 ⟨x, List.mem_of_getElem? HX.out.1, e⟩)
        clear e hs
        gi_wp2_with fail
        refine HC.out.mono ?_
        rintro e w1 ⟨rfl, hb1⟩
        have HB1 := Lib.hid (HI.out.1.trans (hb1.mono HI.out.1.size))
        clear hb1
        gi_wp2
        go_returns
        exact ⟨⟨_, rfl, by rw [HE.out]; exact decide_eq_true hi0⟩, HB1.out⟩
      · have e : decide (x.name = name) = false := decide_eq_false hs
        rw [e] at HC
        have HE := Lib.hid (show ((D.take (k + 1)).any fun d => decide (d.name = name)) = false from by
          rw [List.take_add_one, HX.out.1, List.any_append, HI.out.2]
          simp [hs])
        clear e hs
        gi_wp2_with fail
        refine HC.out.mono ?_
        rintro e w1 ⟨rfl, hb1⟩
        have HB1 := Lib.hid (HI.out.1.trans (hb1.mono HI.out.1.size))
        clear hb1
        gi_wp2
        go_roundw
        case rel => exact ⟨k + 1, by omega, by go_num, Lib.hid ⟨HB1.out, HE.out⟩⟩
        case measure => simp [intOf]; omega
    · have ek : k = n := by omega
      subst ek
      have HE := Lib.hid (show (D.any fun d => decide (d.name = name)) = false from by
        have h := HI.out.2
        rw [HD.out.2.2, List.take_length] at h
        exact h)
      have HB := Lib.hid HI.out.1
      clear HI
      gi_wp2
      go_returns
      exact ⟨⟨-1, rfl, by rw [HE.out]; rfl⟩, HB.out⟩
set_option maxRecDepth 100000 in
set_option maxHeartbeats 3200000 in
theorem contains_in {F : Fence} (hro : F.round = none) (hF : OwnF F) {n : Nat} (hn : 6 ≤ n) {w : World} {v : Value} {D : List DtT} {b : Nat} {name : ByteArray} (hv : DatasV w v D) (hf : D.length ≤ 1000000) (hb : w.cell? ⟨b, 0, none⟩ = some (.string name)) :
    CallsIn F n Tryz.prog 110 #[v, .func (.func 111) #[] #[.pointer (some ⟨b, 0, none⟩)] ] w fun e w' => e = .returned (.bool (D.any fun d => decide (d.name = name))) ∧ Below w.heap.size w w' := by
  have hx1 : 1 ≤ n := by omega
  have hx4 := hF _ _ Tryz.func121
  have HC := Lib.hid (indexFunc_in hro hF (m := n - 1) (by omega) hv hf hb)
  obtain ⟨rb, hrb⟩ : ∃ rb, rb = D.any fun d => decide (d.name = name) := ⟨_, rfl⟩
  rw [← hrb]
  have HRB := Lib.hid hrb
  clear hv hf hb hrb
  refine callsIn_of_wp Tryz.func110 rfl (hF _ _ Tryz.func110) ?_ hro
  simp only [ Tryz.ntmps110, List.size_toArray, List.length_cons, List.length_nil, Nat.reduceAdd, Nat.reduceSub, Array.replicate_succ, Array.replicate_zero, List.push_toArray, List.append_toArray, List.nil_append, List.cons_append]
  gi_wp2_with fail
  refine HC.out.mono ?_
  rintro e w1 ⟨⟨r, rfl, hr⟩, hb1⟩
  obtain rfl := hr.trans HRB.out.symm
  have HB1 := Lib.hid hb1
  clear hr hb1
  gi_wp2
  go_returns
  exact ⟨rfl, HB1.out⟩
set_option maxRecDepth 100000 in
set_option maxHeartbeats 3200000 in
theorem isData_in {F : Fence} (hro : F.round = none) (hF : OwnF F) {n : Nat} (hn : 8 ≤ n) {w : World} {gs : Nat} {v : Value} {D : List DtT} {name : ByteArray} (hg : w.cell? ⟨gs, 2, none⟩ = some v) (hv : DatasV w v D) (hf : D.length ≤ 1000000) :
    CallsIn F n Tryz.prog 94 #[.pointer (some ⟨gs, 0, none⟩), .string name] w fun e w' => e = .returned (.bool (isDataK D name)) ∧ Below w.heap.size w w' := by
  have hx1 : 1 ≤ n := by omega
  have hx2 : 1 ≤ n - 1 := by omega
  have hx3 := hF _ _ Tryz.func111
  have hx4 := hF _ _ Tryz.func121
  have hx5 := hF _ _ Tryz.func110
  have hx6 := hF _ _ Tryz.func94
  have hx7 := hF _ _ Tryz.func92
  have hx8 := hF _ _ Tryz.func75
  have hmf : ∀ (fn : Fn) (first cap : Array Value) (w : World), (Instr.makeFunc fn first cap).run Tryz.prog w = .ok (.func fn first cap) w := fun _ _ _ _ => rfl
  have h3 : (w.alloc (.cells #[.string name] 9)).cell? ⟨w.heap.size, 0, none⟩ = some (.string name) := cell_newK rfl
  have h2 : (w.alloc (.cells #[.string name] 9)).cell? ⟨gs, 2, none⟩ = some v := (Below.cell ((Below.refl _ _).alloc (Nat.le_refl _) _) (cell_lt hg)).trans hg
  have hb : Below w.heap.size w (w.alloc (.cells #[.string name] 9)) := (Below.refl _ _).alloc (Nat.le_refl _) _
  by_cases hi : name = sInt ∨ name = sBool
  · have HE := Lib.hid (show isDataK D name = false from by
      unfold isDataK
      rcases hi with h | h
      · rw [decide_eq_false (not_not_intro h)]; rfl
      · rw [decide_eq_false (p := name ≠ sBool) (not_not_intro h), Bool.and_false]; rfl)
    rw [HE.out]
    have HB := Lib.hid hb
    have hq : (name.toList == [105, 110, 116]) = true ∨ ((name.toList == [105, 110, 116]) = false ∧ (name.toList == [98, 111, 111, 108]) = true) := by
      rw [show ([105, 110, 116] : List UInt8) = sInt.toList from by rw [ByteArray.toList_eq]; rfl, show ([98, 111, 111, 108] : List UInt8) = sBool.toList from by rw [ByteArray.toList_eq]; rfl]
      rcases hi with h | h
      · rw [h]; exact .inl (beq_self_eq_true _)
      · rw [h]; exact .inr ⟨bytes_no (by decide), beq_self_eq_true _⟩
    clear hi hb hv hg
    rcases hq with q | ⟨q, q2⟩
    all_goals refine callsIn_of_wp Tryz.func94 rfl (hF _ _ Tryz.func94) ?_ hro
    all_goals simp only [ Tryz.ntmps94, List.size_toArray, List.length_cons, List.length_nil, Nat.reduceAdd, Nat.reduceSub, Array.replicate_succ, Array.replicate_zero, List.push_toArray, List.append_toArray, List.nil_append, List.cons_append]
    all_goals gi_wp2
    all_goals go_returns
    all_goals exact ⟨rfl, HB.out⟩
  · have hq1 : (name.toList == [105, 110, 116]) = false := by
      rw [show ([105, 110, 116] : List UInt8) = sInt.toList from by rw [ByteArray.toList_eq]; rfl]
      exact bytes_no fun h => hi (.inl h)
    have hq2 : (name.toList == [98, 111, 111, 108]) = false := by
      rw [show ([98, 111, 111, 108] : List UInt8) = sBool.toList from by rw [ByteArray.toList_eq]; rfl]
      exact bytes_no fun h => hi (.inr h)
    have HE := Lib.hid (show isDataK D name = D.any fun d => decide (d.name = name) from by
      unfold isDataK
      rw [decide_eq_true (p := name ≠ sInt) fun h => hi (.inl h), decide_eq_true (p := name ≠ sBool) fun h => hi (.inr h)]; rfl)
    rw [HE.out]
    obtain ⟨rb, hrb⟩ : ∃ rb, rb = D.any fun d => decide (d.name = name) := ⟨_, rfl⟩
    rw [← hrb]
    have HC := Lib.hid (contains_in hro hF (n := n - 1) (by omega) (b := w.heap.size) (name := name) (hv.sub (sub_below hb)) hf h3)
    rw [← hrb] at HC
    have HB := Lib.hid hb
    clear hi hb hv hg hrb
    refine callsIn_of_wp Tryz.func94 rfl (hF _ _ Tryz.func94) ?_ hro
    simp only [ Tryz.ntmps94, List.size_toArray, List.length_cons, List.length_nil, Nat.reduceAdd, Nat.reduceSub, Array.replicate_succ, Array.replicate_zero, List.push_toArray, List.append_toArray, List.nil_append, List.cons_append]
    gi_wp2_with fail
    refine HC.out.mono ?_
    rintro e w1 ⟨rfl, hb1⟩
    have HB1 := Lib.hid (HB.out.trans (hb1.mono HB.out.size))
    clear hb1
    gi_wp2
    go_returns
    exact ⟨rfl, HB1.out⟩
set_option maxRecDepth 100000 in
set_option maxHeartbeats 3200000 in
theorem isSort_in {F : Fence} (hro : F.round = none) (hF : OwnF F) {n : Nat} (hn : 10 ≤ n) {w : World} {gs : Nat} {v : Value} {D : List DtT} {name : ByteArray} (hg : w.cell? ⟨gs, 2, none⟩ = some v) (hv : DatasV w v D) (hf : D.length ≤ 1000000) :
    CallsIn F n Tryz.prog 92 #[.pointer (some ⟨gs, 0, none⟩), .string name] w fun e w' => e = .returned (.bool (isSortK D name)) ∧ Below w.heap.size w w' := by
  have hx1 : 1 ≤ n := by omega
  have hx2 : 1 ≤ n - 1 := by omega
  have hx3 := hF _ _ Tryz.func111
  have hx4 := hF _ _ Tryz.func121
  have hx5 := hF _ _ Tryz.func110
  have hx6 := hF _ _ Tryz.func94
  have hx7 := hF _ _ Tryz.func92
  have hx8 := hF _ _ Tryz.func75
  have HC := Lib.hid (isData_in hro hF (n := n - 1) (by omega) (name := name) hg hv hf)
  clear hv hf hg
  by_cases h1 : name = sInt
  · have HE := Lib.hid (show isSortK D name = true from by unfold isSortK; rw [decide_eq_true h1]; rfl)
    rw [HE.out]
    have q1 : (name.toList == [105, 110, 116]) = true := by rw [h1, int_list]; rfl
    clear h1
    refine callsIn_of_wp Tryz.func92 rfl (hF _ _ Tryz.func92) ?_ hro
    simp only [ Tryz.ntmps92, List.size_toArray, List.length_cons, List.length_nil, Nat.reduceAdd, Nat.reduceSub, Array.replicate_succ, Array.replicate_zero, List.push_toArray, List.append_toArray, List.nil_append, List.cons_append]
    gi_wp2
    go_returns
    exact ⟨rfl, Below.refl _ _⟩
  · have q1 : (name.toList == [105, 110, 116]) = false := by rw [← int_list]; exact bytes_no h1
    by_cases h2 : name = sBool
    · have HE := Lib.hid (show isSortK D name = true from by unfold isSortK; rw [decide_eq_true h2, Bool.or_true]; rfl)
      rw [HE.out]
      have q2 : (name.toList == [98, 111, 111, 108]) = true := by rw [h2, bool_list]; rfl
      clear h1 h2
      refine callsIn_of_wp Tryz.func92 rfl (hF _ _ Tryz.func92) ?_ hro
      simp only [ Tryz.ntmps92, List.size_toArray, List.length_cons, List.length_nil, Nat.reduceAdd, Nat.reduceSub, Array.replicate_succ, Array.replicate_zero, List.push_toArray, List.append_toArray, List.nil_append, List.cons_append]
      gi_wp2
      go_returns
      exact ⟨rfl, Below.refl _ _⟩
    · have q2 : (name.toList == [98, 111, 111, 108]) = false := by rw [← bool_list]; exact bytes_no h2
      have HE := Lib.hid (show isSortK D name = isDataK D name from by unfold isSortK; rw [decide_eq_false h1, decide_eq_false h2]; rfl)
      rw [HE.out]
      obtain ⟨rb, hrb⟩ : ∃ rb, rb = isDataK D name := ⟨_, rfl⟩
      rw [← hrb]
      rw [← hrb] at HC
      clear h1 h2 hrb
      refine callsIn_of_wp Tryz.func92 rfl (hF _ _ Tryz.func92) ?_ hro
      simp only [ Tryz.ntmps92, List.size_toArray, List.length_cons, List.length_nil, Nat.reduceAdd, Nat.reduceSub, Array.replicate_succ, Array.replicate_zero, List.push_toArray, List.append_toArray, List.nil_append, List.cons_append]
      gi_wp2_with (gi_at_call 94; refine HC.out.mono ?_; rintro e w1 ⟨rfl, hb1⟩; have HB1 := Lib.hid hb1; clear hb1)
      gi_wp2
      go_returns
      exact ⟨rfl, HB1.out⟩
end Go.Proofs.YtlikpnaffpngiaaGreatDoor

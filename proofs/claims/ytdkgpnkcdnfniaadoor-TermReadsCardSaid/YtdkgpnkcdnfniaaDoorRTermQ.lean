/- The answer's reader of Keys (package whetstoneref04): next, sign: the byte that is ahead. The text is of at most 100000000 bytes. The answer's reader of Keys (package whetstoneref04): number: the digits that are ahead, and the byte behind them. The text is of at most 100000000 bytes. The answer's reader of Keys: what is read of a text, and that a right text is read as what it is the Key of. The text is of at most 1000000 bytes. The answer's reader of Keys: what holds while a term is read, in memory and of the text. -/
import Derived.Test.YtdkgpnkcdnfniaaDoorKeyP
import Derived.Test.YtdkgpnkcdnfniaaDoorStepT
import Derived.BigQuiet
import Derived.BigRegion
import Derived.StillTailTactics
import Derived.Test.YtdkgpnkcdnfniaaDoorTRead
import Derived.Test.YtdkgpnkcdnfniaaDoorTDep
import Derived.Deep.DeepCutAuto
import Derived.Deep.CutBlock
set_option linter.unusedVariables false
set_option linter.unusedSimpArgs false
namespace Go.Proofs.YtdkgpnkcdnfniaaDoor
open Go.RowKit Go.Lib

/-- The reader's variable: the text, how far it is read, whether it is none's. -/
def Rf (W : World) (g : Nat) (S : ByteArray) (at_ : Nat) (bad : Bool) : Prop := W.heap[g]? = some (.cells #[.string S, .int .i64 at_, .bool bad] 61 (0, 0))
theorem Rf.c0 {W : World} {g at_ : Nat} {S : ByteArray} {bad : Bool} (h : Rf W g S at_ bad) : W.cell? ⟨g, 0, none⟩ = some (.string S) := cell_of_row W g 0 _ _ _ h
theorem Rf.c1 {W : World} {g at_ : Nat} {S : ByteArray} {bad : Bool} (h : Rf W g S at_ bad) : W.cell? ⟨g, 1, none⟩ = some (.int .i64 at_) := cell_of_row W g 1 _ _ _ h
theorem Rf.c2 {W : World} {g at_ : Nat} {S : ByteArray} {bad : Bool} (h : Rf W g S at_ bad) : W.cell? ⟨g, 2, none⟩ = some (.bool bad) := cell_of_row W g 2 _ _ _ h
theorem Rf.f {W : World} {g o at_ : Nat} {S : ByteArray} {bad : Bool} (h : Rf W g S at_ bad) : W.frozen? ⟨g, o, none⟩ = false := by
  unfold Rf at h; simp [World.frozen?, h]
theorem Rf.to {W W' : World} {g at_ : Nat} {S : ByteArray} {bad : Bool} (h : Rf W g S at_ bad) (e : W'.heap[g]? = W.heap[g]?) : Rf W' g S at_ bad := e.trans h
theorem Rf.set1 {W : World} {g at_ : Nat} {S : ByteArray} {bad : Bool} (h : Rf W g S at_ bad) (n : Nat) : Rf (W.setCell ⟨g, 1, none⟩ (.int .i64 n)) g S n bad := by
  unfold Rf at h ⊢
  simp [World.setCell, Array.getElem?_modify, h]
theorem Rf.set2 {W : World} {g at_ : Nat} {S : ByteArray} {bad : Bool} (h : Rf W g S at_ bad) (b : Bool) : Rf (W.setCell ⟨g, 2, none⟩ (.bool b)) g S at_ b := by
  unfold Rf at h ⊢
  simp [World.setCell, Array.getElem?_modify, h]
/-- A text's byte. -/
def byteAt (S : ByteArray) (k : Nat) : UInt8 := S.data.toList.getD k 0
theorem byte_at (S : ByteArray) (k : Nat) (h : k < S.size) : S[k] = byteAt S k := by
  have h2 : k < S.data.toList.length := by rw [Array.length_toList]; exact h
  unfold byteAt
  rw [List.getD_eq_getElem?_getD, List.getElem?_eq_getElem h2]
  rfl
theorem drop_at (S : ByteArray) (k : Nat) (h : k < S.size) : S.data.toList.drop k = byteAt S k :: S.data.toList.drop (k + 1) := by
  have h2 : k < S.data.toList.length := by rw [Array.length_toList]; exact h
  rw [List.drop_eq_getElem_cons h2]
  unfold byteAt
  rw [List.getD_eq_getElem?_getD, List.getElem?_eq_getElem h2]
  rfl
/-- Is that the next byte? -/
def isNext (S : ByteArray) (k : Nat) (c : UInt8) : Bool := decide (k < S.size) && decide (byteAt S k = c)
set_option maxRecDepth 100000 in
set_option maxHeartbeats 6400000 in
theorem next_ok {W : World} {g at_ : Nat} {S : ByteArray} {bad : Bool} {c : UInt8} (hr : Rf W g S at_ bad) (hS : S.size ≤ 100000000) (hat : at_ ≤ 200000000) :
    Calls Tryd.prog 51 #[.pointer (some ⟨g, 0, none⟩), .int .u8 c.toNat] W fun e w' => e = .returned (.bool (isNext S at_ c)) ∧ ∃ n, w' = W.drewN n := by
  have c0 := hr.c0
  have c1 := hr.c1
  have hc : c.toNat < 256 := c.toNat_lt
  by_cases hlt : at_ < S.size
  · have hx : S[at_].toNat = (byteAt S at_).toNat := by rw [byte_at S at_ hlt]
    obtain ⟨x, hxe⟩ : ∃ x, x = byteAt S at_ := ⟨_, rfl⟩
    have hx256 : x.toNat < 256 := x.toNat_lt
    have er : isNext S at_ c = ((x.toNat : Int) == (c.toNat : Int)) := by
      unfold isNext
      rw [decide_eq_true hlt, ← hxe, Bool.true_and]
      by_cases h : x = c
      · rw [h]; simp
      · rw [decide_eq_false h]
        refine (beq_eq_false_iff_ne.2 fun h2 => ?_).symm
        exact h (UInt8.toNat_inj.1 (by omega))
    rw [← hxe] at hx
    obtain ⟨r, hrr⟩ : ∃ r, r = isNext S at_ c := ⟨_, rfl⟩
    rw [← hrr]
    have HR := hid (hrr.trans er)
    have hlt' : (at_ : Int) < (S.size : Int) := by omega
    clear hr hxe er hrr
    go_enter Tryd.func51, Tryd.ntmps51
    go_wp2_with fail
    go_quiet (fail)
    go_wp2
    go_ret
    exact ⟨by rw [HR.out]; rfl, _, rfl⟩
  · have er : isNext S at_ c = false := by
      unfold isNext
      rw [decide_eq_false hlt, Bool.false_and]
    rw [er]
    have hlt' : decide ((at_ : Int) < (S.size : Int)) = false := decide_eq_false (by omega)
    have hlt2 : ¬ ((at_ : Int) < (S.size : Int)) := by omega
    have hlt3 : (S.size : Int) ≤ (at_ : Int) := by omega
    have hlt5 : decide (at_ < S.size) = false := decide_eq_false hlt
    clear hr er hlt hlt2 hlt3
    go_enter Tryd.func51, Tryd.ntmps51
    go_wp2_with fail
    go_quiet (fail)
    go_wp2
    go_ret
    exact ⟨rfl, _, rfl⟩
/-- Behind a byte that must be c: is the text none's? -/
def offAt (S : ByteArray) (k : Nat) (bad : Bool) (c : UInt8) : Bool := bad || !isNext S k c
/-- What the operations of a list yield, one behind the other, in one world; none: passed over by its guard. -/
def Yields (P : Program) (ops : Array Oper) (w : World) (Q : Act → Prop) : List Oper → List (Option Value) → Act → Prop
  | [], _, a => Q a
  | o :: r, some v :: vs, a => Region.wanted o (yielded ops a.tmps) = true ∧ (execOp a.eval o).run P w = .ok (.value v) w ∧ Yields P ops w Q r vs (a.put o.dst v)
  | o :: r, none :: vs, a => Region.wanted o (yielded ops a.tmps) = false ∧ Yields P ops w Q r vs (a.put o.dst undef)
  | _ :: _, [], _ => False
theorem still_of {P : Program} {ops : Array Oper} {w : World} {Q : Act → Prop} : ∀ (l : List Oper) (vs : List (Option Value)) (a : Act), Yields P ops w Q l vs a → wpStill P ops w Q l a
  | [], _, a, h => by
    unfold Yields at h
    exact h
  | o :: r, some v :: vs, a, h => by
    unfold Yields at h
    obtain ⟨hw, hr, hs⟩ := h
    unfold wpStill
    rw [if_pos hw]
    unfold Oper.still
    rw [hr, Oper.stillUpon_value]
    exact still_of r vs _ hs
  | o :: r, none :: vs, a, h => by
    unfold Yields at h
    obtain ⟨hw, hs⟩ := h
    unfold wpStill
    rw [if_neg (by rw [hw]; exact Bool.false_ne_true)]
    exact still_of r vs _ hs
  | _ :: _, [], _, h => by
    unfold Yields at h
    exact h.elim
theorem ex_loadR {P : Program} {ρ : Operand → Value} {w : World} {d : Option Tmp} {T E : TypeId} {pos : String} {af : Array Edge} {gu : Option (Nat × Bool)} {t : Tmp} {p v : Value} (h : ρ (.tmp t) = p) (hr : (Instr.loadAt E p).run P w = .ok v w) : (execOp ρ { dst := d, op := .load E (.tmp t), type := T, pos := pos, after := af, guard := gu }).run P w = .ok (.value v) w := by
  show Sem.run P ((Instr.loadAt E (ρ (.tmp t))) >>= fun v => pure (Next.value v)) w = _
  rw [h, run_then hr]; rfl
theorem as_true {R : Result Next} {x : Bool} {w : World} (h : x = true) (hr : R = .ok (.value (.bool x)) w) : R = .ok (.value (.bool true)) w := by rw [hr, h]
theorem run_loadBo {w : World} {g o : Nat} {b : Bool} (h : w.cell? ⟨g, o, none⟩ = some (.bool b)) : (Instr.loadAt 4 (.pointer (some ⟨g, o, none⟩))).run Tryd.prog w = .ok (.bool b) w := by go_simp
theorem run_loadIn {w : World} {g o : Nat} {n : Int} (h : w.cell? ⟨g, o, none⟩ = some (.int .i64 n)) : (Instr.loadAt 3 (.pointer (some ⟨g, o, none⟩))).run Tryd.prog w = .ok (.int .i64 n) w := by go_simp
theorem run_loadSt {w : World} {g o : Nat} {S : ByteArray} (h : w.cell? ⟨g, o, none⟩ = some (.string S)) : (Instr.loadAt 9 (.pointer (some ⟨g, o, none⟩))).run Tryd.prog w = .ok (.string S) w := by go_simp
def Signed (W : World) (g : Nat) (S : ByteArray) (at_ : Nat) (b : Bool) (e : Ending) (w' : World) : Prop := (∃ u, e = .returned u) ∧ ∃ n, w' = ((W.drewN n).setCell ⟨g, 2, none⟩ (.bool b)).setCell ⟨g, 1, none⟩ (.int .i64 ((at_ : Int) + 1))
set_option maxRecDepth 100000 in
set_option maxHeartbeats 6400000 in
theorem sign_t {W : World} {g at_ : Nat} {S : ByteArray} {c : UInt8} (hr : Rf W g S at_ true) (hS : S.size ≤ 100000000) (hat : at_ ≤ 200000000) :
    Calls Tryd.prog 50 #[.pointer (some ⟨g, 0, none⟩), .int .u8 c.toNat] W (Signed W g S at_ true) := by
  have c0 := hr.c0
  have c1 := hr.c1
  have c2 := hr.c2
  have f2 : W.frozen? ⟨g, 2, none⟩ = false := hr.f
  have hc : c.toNat < 256 := c.toNat_lt
  have k1 : ∀ b, (W.drew.setCell ⟨g, 2, none⟩ (.bool b)).cell? ⟨g, 1, none⟩ = some (.int .i64 at_) := fun b => (hr.set2 b).c1
  have g1 : ∀ b, (W.drew.setCell ⟨g, 2, none⟩ (.bool b)).frozen? ⟨g, 1, none⟩ = false := fun b => (hr.set2 b).f
  have hat' : (at_ : Int) ≤ 200000000 := by omega
  clear hr
  go_enter Tryd.func50, Tryd.ntmps50
  go_wp2_with fail
  refine wp_region_still_tail 32 (by kernel_rfl) (by kernel_rfl) ?_
  refine still_of _ [some (.pointer (some ⟨g, 0, none⟩)), some (.pointer (some ⟨g, 0, none⟩)), some (.pointer (some ⟨g, 0, none⟩)), some (.pointer (some ⟨g, 2, none⟩)), some (.bool true), some (.bool true), none, none, none, none, none, none, none, none, none, none, some (.bool true), some (.bool true), none, none, none, none, none, none, none, none, none, none, none, some (.bool true), some (.pointer (some ⟨g, 0, none⟩)), some (.pointer (some ⟨g, 2, none⟩))] _ ?_
  refine ⟨by kernel_rfl, by kernel_rfl, ?_⟩
  refine ⟨by kernel_rfl, by kernel_rfl, ?_⟩
  refine ⟨by kernel_rfl, by kernel_rfl, ?_⟩
  refine ⟨by kernel_rfl, by kernel_rfl, ?_⟩
  refine ⟨by kernel_rfl, ex_loadR (by kernel_rfl) (run_loadBo c2), ?_⟩
  refine ⟨by kernel_rfl, by kernel_rfl, ?_⟩
  refine ⟨by kernel_rfl, ?_⟩
  refine ⟨by kernel_rfl, ?_⟩
  refine ⟨by kernel_rfl, ?_⟩
  refine ⟨by kernel_rfl, ?_⟩
  refine ⟨by kernel_rfl, ?_⟩
  refine ⟨by kernel_rfl, ?_⟩
  refine ⟨by kernel_rfl, ?_⟩
  refine ⟨by kernel_rfl, ?_⟩
  refine ⟨by kernel_rfl, ?_⟩
  refine ⟨by kernel_rfl, ?_⟩
  refine ⟨by kernel_rfl, by kernel_rfl, ?_⟩
  refine ⟨by kernel_rfl, by kernel_rfl, ?_⟩
  refine ⟨by kernel_rfl, ?_⟩
  refine ⟨by kernel_rfl, ?_⟩
  refine ⟨by kernel_rfl, ?_⟩
  refine ⟨by kernel_rfl, ?_⟩
  refine ⟨by kernel_rfl, ?_⟩
  refine ⟨by kernel_rfl, ?_⟩
  refine ⟨by kernel_rfl, ?_⟩
  refine ⟨by kernel_rfl, ?_⟩
  refine ⟨by kernel_rfl, ?_⟩
  refine ⟨by kernel_rfl, ?_⟩
  refine ⟨by kernel_rfl, ?_⟩
  refine ⟨by kernel_rfl, by kernel_rfl, ?_⟩
  refine ⟨by kernel_rfl, by kernel_rfl, ?_⟩
  refine ⟨by kernel_rfl, by kernel_rfl, ?_⟩
  change wpList _ _ _ _ _ W.drew
  have d2 : W.drew.cell? ⟨g, 2, none⟩ = some (.bool true) := c2
  have e2 : W.drew.frozen? ⟨g, 2, none⟩ = false := f2
  clear c0 c1 c2 f2

  have k1 := k1 true
  have g1 := g1 true
  obtain ⟨W2, hW2⟩ : ∃ W2, W2 = W.drew := ⟨_, rfl⟩
  rw [← hW2] at d2 e2 k1 g1 ⊢
  have HW := hid hW2
  clear hW2
  go_wp2
  go_returns
  exact ⟨⟨_, rfl⟩, 1, by rw [HW.out]; rfl⟩
set_option maxRecDepth 100000 in
set_option maxHeartbeats 6400000 in
theorem sign_o {W : World} {g at_ : Nat} {S : ByteArray} {c : UInt8} (hr : Rf W g S at_ false) (hS : S.size ≤ 100000000) (hat : at_ ≤ 200000000) (hlt : ¬ at_ < S.size) :
    Calls Tryd.prog 50 #[.pointer (some ⟨g, 0, none⟩), .int .u8 c.toNat] W (Signed W g S at_ true) := by
  have c0 := hr.c0
  have c1 := hr.c1
  have c2 := hr.c2
  have f2 : W.frozen? ⟨g, 2, none⟩ = false := hr.f
  have hc : c.toNat < 256 := c.toNat_lt
  have k1 : ∀ b, (W.drew.setCell ⟨g, 2, none⟩ (.bool b)).cell? ⟨g, 1, none⟩ = some (.int .i64 at_) := fun b => (hr.set2 b).c1
  have g1 : ∀ b, (W.drew.setCell ⟨g, 2, none⟩ (.bool b)).frozen? ⟨g, 1, none⟩ = false := fun b => (hr.set2 b).f
  have hat' : (at_ : Int) ≤ 200000000 := by omega
  have hlt5 : decide ((S.size : Int) ≤ (at_ : Int)) = true := decide_eq_true (by omega)
  clear hlt
  clear hr
  go_enter Tryd.func50, Tryd.ntmps50
  go_wp2_with fail
  refine wp_region_still_tail 32 (by kernel_rfl) (by kernel_rfl) ?_
  refine still_of _ [some (.pointer (some ⟨g, 0, none⟩)), some (.pointer (some ⟨g, 0, none⟩)), some (.pointer (some ⟨g, 0, none⟩)), some (.pointer (some ⟨g, 2, none⟩)), some (.bool false), some (.bool false), some (.pointer (some ⟨g, 0, none⟩)), some (.pointer (some ⟨g, 0, none⟩)), some (.pointer (some ⟨g, 1, none⟩)), some (.int .i64 at_), some (.pointer (some ⟨g, 0, none⟩)), some (.pointer (some ⟨g, 0, none⟩)), some (.pointer (some ⟨g, 0, none⟩)), some (.string S), some (.int .i64 S.size), some (.bool true), some (.bool true), some (.bool true), none, none, none, none, none, none, none, none, none, none, none, some (.bool true), some (.pointer (some ⟨g, 0, none⟩)), some (.pointer (some ⟨g, 2, none⟩))] _ ?_
  refine ⟨by kernel_rfl, by kernel_rfl, ?_⟩
  refine ⟨by kernel_rfl, by kernel_rfl, ?_⟩
  refine ⟨by kernel_rfl, by kernel_rfl, ?_⟩
  refine ⟨by kernel_rfl, by kernel_rfl, ?_⟩
  refine ⟨by kernel_rfl, ex_loadR (by kernel_rfl) (run_loadBo c2), ?_⟩
  refine ⟨by kernel_rfl, by kernel_rfl, ?_⟩
  refine ⟨by kernel_rfl, by kernel_rfl, ?_⟩
  refine ⟨by kernel_rfl, by kernel_rfl, ?_⟩
  refine ⟨by kernel_rfl, by kernel_rfl, ?_⟩
  refine ⟨by kernel_rfl, ex_loadR (by kernel_rfl) (run_loadIn c1), ?_⟩
  refine ⟨by kernel_rfl, by kernel_rfl, ?_⟩
  refine ⟨by kernel_rfl, by kernel_rfl, ?_⟩
  refine ⟨by kernel_rfl, by kernel_rfl, ?_⟩
  refine ⟨by kernel_rfl, ex_loadR (by kernel_rfl) (run_loadSt c0), ?_⟩
  refine ⟨by kernel_rfl, by kernel_rfl, ?_⟩
  refine ⟨by kernel_rfl, as_true hlt5 (by kernel_rfl), ?_⟩
  refine ⟨by kernel_rfl, by kernel_rfl, ?_⟩
  refine ⟨by kernel_rfl, by kernel_rfl, ?_⟩
  refine ⟨by kernel_rfl, ?_⟩
  refine ⟨by kernel_rfl, ?_⟩
  refine ⟨by kernel_rfl, ?_⟩
  refine ⟨by kernel_rfl, ?_⟩
  refine ⟨by kernel_rfl, ?_⟩
  refine ⟨by kernel_rfl, ?_⟩
  refine ⟨by kernel_rfl, ?_⟩
  refine ⟨by kernel_rfl, ?_⟩
  refine ⟨by kernel_rfl, ?_⟩
  refine ⟨by kernel_rfl, ?_⟩
  refine ⟨by kernel_rfl, ?_⟩
  refine ⟨by kernel_rfl, by kernel_rfl, ?_⟩
  refine ⟨by kernel_rfl, by kernel_rfl, ?_⟩
  refine ⟨by kernel_rfl, by kernel_rfl, ?_⟩
  change wpList _ _ _ _ _ W.drew
  have d2 : W.drew.cell? ⟨g, 2, none⟩ = some (.bool false) := c2
  have e2 : W.drew.frozen? ⟨g, 2, none⟩ = false := f2
  clear c0 c1 c2 f2
  clear hlt5
  have k1 := k1 true
  have g1 := g1 true
  obtain ⟨W2, hW2⟩ : ∃ W2, W2 = W.drew := ⟨_, rfl⟩
  rw [← hW2] at d2 e2 k1 g1 ⊢
  have HW := hid hW2
  clear hW2
  go_wp2
  go_returns
  exact ⟨⟨_, rfl⟩, 1, by rw [HW.out]; rfl⟩
set_option maxRecDepth 100000 in
set_option maxHeartbeats 6400000 in
theorem sign_n {W : World} {g at_ : Nat} {S : ByteArray} {c : UInt8} (hr : Rf W g S at_ false) (hS : S.size ≤ 100000000) (hat : at_ ≤ 200000000) (hlt : at_ < S.size) :
    Calls Tryd.prog 50 #[.pointer (some ⟨g, 0, none⟩), .int .u8 c.toNat] W (Signed W g S at_ (!decide (byteAt S at_ = c))) := by
  have c0 := hr.c0
  have c1 := hr.c1
  have c2 := hr.c2
  have f2 : W.frozen? ⟨g, 2, none⟩ = false := hr.f
  have hc : c.toNat < 256 := c.toNat_lt
  have k1 : ∀ b, (W.drew.setCell ⟨g, 2, none⟩ (.bool b)).cell? ⟨g, 1, none⟩ = some (.int .i64 at_) := fun b => (hr.set2 b).c1
  have g1 : ∀ b, (W.drew.setCell ⟨g, 2, none⟩ (.bool b)).frozen? ⟨g, 1, none⟩ = false := fun b => (hr.set2 b).f
  have hat' : (at_ : Int) ≤ 200000000 := by omega
  have hx : S[at_].toNat = (byteAt S at_).toNat := by rw [byte_at S at_ hlt]
  obtain ⟨x, hxe⟩ : ∃ x, x = byteAt S at_ := ⟨_, rfl⟩
  have er : (!decide (x = c)) = ((x.toNat : Int) != (c.toNat : Int)) := by
    by_cases h : x = c
    · rw [h]; simp
    · rw [decide_eq_false h]
      refine (bne_iff_ne.2 fun h2 => ?_).symm
      exact h (UInt8.toNat_inj.1 (by omega))
  rw [← hxe] at hx ⊢
  obtain ⟨r, hrr⟩ : ∃ r, r = !decide (x = c) := ⟨_, rfl⟩
  rw [← hrr]
  have HR := hid (hrr.trans er)
  have hlt' : (at_ : Int) < (S.size : Int) := by omega
  have hge : decide (S.size ≤ at_) = false := decide_eq_false (by omega)
  clear hxe er hrr
  clear hr
  go_enter Tryd.func50, Tryd.ntmps50
  go_wp2_with fail
  go_still_tail 32, (by kernel_rfl)
  change wpList _ _ _ _ _ W.drew
  have d2 : W.drew.cell? ⟨g, 2, none⟩ = some (.bool false) := c2
  have e2 : W.drew.frozen? ⟨g, 2, none⟩ = false := f2
  clear c0 c1 c2 f2
  generalize hrb : ((x.toNat : Int) != (c.toNat : Int)) = rb at HR ⊢
  clear hrb hc hx hlt' hge
  have k1 := k1 rb
  have g1 := g1 rb
  obtain ⟨W2, hW2⟩ : ∃ W2, W2 = W.drew := ⟨_, rfl⟩
  rw [← hW2] at d2 e2 k1 g1 ⊢
  have HW := hid hW2
  clear hW2
  go_wp2
  go_returns
  exact ⟨⟨_, rfl⟩, 1, by rw [HR.out, HW.out]; rfl⟩
end Go.Proofs.YtdkgpnkcdnfniaaDoor

namespace Go.Proofs.YtdkgpnkcdnfniaaDoor
open Go.RowKit Go.Lib

/-- What is read as a number of at most most: digits d, and what is ahead of them is none, or it is too great. -/
structure Scan (S : ByteArray) (at_ most : Nat) (d : List UInt8) : Prop where
  cut : ∃ left, S.data.toList.drop at_ = d ++ left ∧ (left = [] ∨ (∃ c l, left = c :: l ∧ ¬ isDig c) ∨ most < worth d)
  dig : ∀ b ∈ d, isDig b
  small : worth d ≤ 10 * most + 9
/-- While a number is read. -/
structure ScanS (W : World) (g : Nat) (S : ByteArray) (at_ most : Nat) (bad : Bool) (d left : List UInt8) (wr : World) : Prop where
  cut : S.data.toList.drop at_ = d ++ left
  dig : ∀ b ∈ d, isDig b
  small : worth d ≤ 10 * most + 9
  rd : Rf wr g S (at_ + d.length) bad
  only : Only g W wr
theorem Rf.lt {W : World} {g at_ : Nat} {S : ByteArray} {bad : Bool} (h : Rf W g S at_ bad) : g < W.heap.size := cell_lt h.c0
theorem Scan.len {S : ByteArray} {at_ most : Nat} {d : List UInt8} (h : Scan S at_ most d) : d.length ≤ S.size := by
  obtain ⟨left, e, _⟩ := h.cut
  have h1 := congrArg List.length e
  rw [List.length_drop, List.length_append] at h1
  have h2 : S.data.toList.length = S.size := Array.length_toList
  omega
theorem ScanS.at {W : World} {g : Nat} {S : ByteArray} {at_ most : Nat} {bad : Bool} {d left : List UInt8} {wr : World} (h : ScanS W g S at_ most bad d left wr) (hl : left ≠ []) : at_ + d.length < S.size ∧ left = byteAt S (at_ + d.length) :: left.tail := by
  have h1 := congrArg List.length h.cut
  rw [List.length_drop, List.length_append] at h1
  have h2 : S.data.toList.length = S.size := Array.length_toList
  have h3 : 0 < left.length := List.length_pos_iff.2 hl
  have h4 : at_ + d.length < S.size := by omega
  refine ⟨h4, ?_⟩
  have h5 := drop_at S (at_ + d.length) h4
  have h6 : S.data.toList.drop (at_ + d.length) = left := by
    rw [← List.drop_drop, h.cut, List.drop_left]
  rw [h6] at h5
  rw [h5]; rfl
theorem ScanS.gone {W : World} {g : Nat} {S : ByteArray} {at_ most : Nat} {bad : Bool} {d : List UInt8} {wr : World} (h : ScanS W g S at_ most bad d [] wr) : S.size ≤ at_ + d.length := by
  have h1 := congrArg List.length h.cut
  rw [List.length_drop, List.length_append] at h1
  have h2 : S.data.toList.length = S.size := Array.length_toList
  simp at h1
  omega
theorem ScanS.next {W : World} {g : Nat} {S : ByteArray} {at_ most : Nat} {bad : Bool} {d left : List UInt8} {c : UInt8} {wr : World} (h : ScanS W g S at_ most bad d (c :: left) wr) (hc : isDig c) (hm : worth d ≤ most) (n : Nat) : ScanS W g S at_ most bad (d ++ [c]) left ((wr.drewN n).setCell ⟨g, 1, none⟩ (.int .i64 ((at_ + d.length + 1 : Nat) : Int))) := by
  refine ⟨by rw [h.cut]; simp, fun b hb => ?_, ?_, ?_, ?_⟩
  · rcases List.mem_append.1 hb with hb | hb
    · exact h.dig b hb
    · rw [List.mem_singleton.1 hb]; exact hc
  · rw [worth_snoc]; unfold isDig at hc; omega
  · have := Rf.set1 (W := wr.drewN n) (g := g) (at_ := at_ + d.length) (S := S) (bad := bad) h.rd (at_ + d.length + 1)
    rw [List.length_append]
    exact this
  · exact (h.only.trans (Only.drewN _ n)).set 1 _
/-- What number leaves behind. -/
def NumPost (W : World) (g : Nat) (S : ByteArray) (at_ most : Nat) (bad : Bool) (c : UInt8) (e : Ending) (w' : World) : Prop := ∃ d, Scan S at_ most d ∧ e = .returned (.int .i64 (worth d)) ∧ Rf w' g S (at_ + d.length + 1) (offAt S (at_ + d.length) (bad || d.isEmpty || decide (most < worth d)) c) ∧ Only g W w'
theorem num_end {W : World} {g : Nat} {S : ByteArray} {at_ most : Nat} {bad : Bool} {d left : List UInt8} {wr : World} (h : ScanS W g S at_ most bad d left wr) (hx : left = [] ∨ (∃ c l, left = c :: l ∧ ¬ isDig c) ∨ most < worth d) : Scan S at_ most d := ⟨⟨left, h.cut, hx⟩, h.dig, h.small⟩
theorem sign_any {W : World} {g at_ : Nat} {S : ByteArray} {bad : Bool} {c : UInt8} (hr : Rf W g S at_ bad) (hS : S.size ≤ 100000000) (hat : at_ ≤ 200000000) :
    Calls Tryd.prog 50 #[.pointer (some ⟨g, 0, none⟩), .int .u8 c.toNat] W fun e w' => (∃ u, e = .returned u) ∧ Rf w' g S (at_ + 1) (offAt S at_ bad c) ∧ Only g W w' := by
  have key : ∀ {b e w'}, offAt S at_ bad c = b → Signed W g S at_ b e w' → (∃ u, e = .returned u) ∧ Rf w' g S (at_ + 1) (offAt S at_ bad c) ∧ Only g W w' := by
    rintro b e w' hb ⟨hu, n, rfl⟩
    rw [hb]
    refine ⟨hu, ?_, ((Only.drewN W n).set 2 _).set 1 _⟩
    have := Rf.set1 (Rf.set2 (W := W.drewN n) (g := g) (at_ := at_) (S := S) (bad := bad) hr b) (at_ + 1)
    have e1 : ((at_ + 1 : Nat) : Int) = (at_ : Int) + 1 := by omega
    rw [e1] at this
    exact this
  rcases bad with _ | _
  · by_cases hlt : at_ < S.size
    · exact (sign_n hr hS hat hlt).mono fun e w' h => key (by unfold offAt isNext; rw [decide_eq_true hlt]; simp) h
    · exact (sign_o hr hS hat hlt).mono fun e w' h => key (by unfold offAt isNext; rw [decide_eq_false hlt]; simp) h
  · exact (sign_t hr hS hat).mono fun e w' h => key (by unfold offAt; simp) h
theorem num_fin {W : World} {g p n : Nat} {S : ByteArray} {at_ most : Nat} {bad b : Bool} {c : UInt8} {d left : List UInt8} {wr w' : World} (h : Scan S at_ most d ∧ ScanS W g S at_ most bad d left wr ∧ n = worth d ∧ p = at_ + d.length ∧ d.length ≤ S.size) (hr : Rf w' g S (p + 1) (offAt S p b c) ∧ Only g wr w') (hb : b = (bad || d.isEmpty || decide (most < n))) : NumPost W g S at_ most bad c (.returned (.int .i64 n)) w' := by
  obtain ⟨h1, h2, rfl, rfl, _⟩ := h
  subst hb
  exact ⟨d, h1, rfl, hr.1, h2.only.trans hr.2⟩
set_option maxRecDepth 100000 in
set_option maxHeartbeats 6400000 in
theorem number_r {W : World} {g at_ most : Nat} {S : ByteArray} {bad : Bool} {c : UInt8} (hr : Rf W g S at_ bad) (hS : S.size ≤ 100000000) (hat : at_ ≤ 100000010) (hm : most ≤ 4294967295) :
    Calls Tryd.prog 49 #[.pointer (some ⟨g, 0, none⟩), .int .i64 most, .int .u8 c.toNat] W (NumPost W g S at_ most bad c) := by
  have c1 := hr.c1
  have H0 := hid (show ScanS W g S at_ most bad [] (S.data.toList.drop at_) W from ⟨rfl, (fun b hb => by cases hb), by simp [worth], hr, Only.refl _ _⟩)
  have HH := hid (show _ ∧ _ from ⟨hS, hat⟩)
  clear hr hS hat
  go_enter Tryd.func49, Tryd.ntmps49
  go_wp2
  go_loopg [7] (S.data.toList.drop at_).length (fun k nv wr => ∃ (d left : List UInt8) (n : Nat), nv = .int .i64 n ∧ Hid (n = worth d ∧ k = left.length ∧ ScanS W g S at_ most bad d left wr))
  case atStart => exact ⟨[], _, 0, rfl, hid ⟨rfl, rfl, H0.out⟩⟩
  case round =>
    obtain ⟨d, left, n, rfl, HI⟩ := hrel
    rename_i J KK hJ hKK
    obtain ⟨hn, hk, hs⟩ := HI.out
    have w0 := hs.rd.c0
    have w1 := hs.rd.c1
    have w2 := hs.rd.c2
    have hlen : d.length ≤ S.size := by
      have h1 := congrArg List.length hs.cut
      rw [List.length_drop, List.length_append] at h1
      have h2 : S.data.toList.length = S.size := Array.length_toList
      omega
    have hns := hs.small
    obtain ⟨p, hp⟩ : ∃ p, p = at_ + d.length := ⟨_, rfl⟩
    rw [← hp] at w1
    have wz1 : wr.frozen? ⟨g, 1, none⟩ = false := hs.rd.f
    have wz2 : wr.frozen? ⟨g, 2, none⟩ = false := hs.rd.f
    have hp1 : p ≤ 100000010 := by
      have h0 := HH.out
      have h1 := congrArg List.length hs.cut
      rw [List.length_drop, List.length_append] at h1
      have h2 : S.data.toList.length = S.size := Array.length_toList
      omega
    by_cases hgo : left ≠ [] ∧ isDig (byteAt S p) ∧ n ≤ most
    · obtain ⟨h1, h2, h3⟩ := hgo
      obtain ⟨hlt, hcons⟩ := hs.at h1
      rw [← hp] at hlt hcons
      rw [hcons] at hs hk
      have HN := hid (fun m => hs.next h2 (hn ▸ h3) m)
      have hx : S[p].toNat = (byteAt S p).toNat := by rw [byte_at S p hlt]
      have ew : worth (d ++ [byteAt S p]) = n * 10 + ((byteAt S p).toNat - 48) := by rw [worth_snoc, hn]
      unfold isDig at h2
      obtain ⟨h4, h5⟩ := h2
      obtain ⟨x, hxe⟩ : ∃ x, x = (byteAt S p).toNat := ⟨_, rfl⟩
      rw [← hxe] at hx h4 h5 ew
      have hlt' : (p : Int) < (S.size : Int) := by omega
      have h4' : (48 : Int) ≤ (x : Int) := by omega
      have h5' : (x : Int) ≤ (57 : Int) := by omega
      have h3' : (n : Int) ≤ (most : Int) := by omega
      have HE := hid (show _ ∧ _ ∧ _ ∧ _ ∧ _ from ⟨hk, ew, hp, h4, h5⟩)
      clear hcons hxe hk hs hn h1 ew hp HI hns
      go_wp2_with fail
      go_quiet (fail)
      go_wp2_with fail
      go_quiet (fail)
      go_wp2
      go_roundg left.tail.length
      case rel =>
        refine ⟨d ++ [byteAt S p], left.tail, n * 10 + (x - 48), ?_, ?_⟩
        · have := HE.out
          congr 1
          omega
        · refine hid ⟨HE.out.2.1.symm, rfl, ?_⟩
          have h := HN.out
          have e1 : ((p + 1 : Nat) : Int) = (p : Int) + 1 := by omega
          simp only [← HE.out.2.2.1, e1] at h
          exact h _
      case measure =>
        have := HE.out.1
        rw [List.length_cons] at this
        omega
    · have hx : left = [] ∨ (∃ c l, left = c :: l ∧ ¬ isDig c) ∨ most < worth d := by
        by_cases h1 : left = []
        · exact .inl h1
        · obtain ⟨hlt, hcons⟩ := hs.at h1
          rw [← hp] at hlt hcons
          by_cases h2 : isDig (byteAt S p)
          · exact .inr (.inr (by rw [← hn]; exact Nat.lt_of_not_le fun h3 => hgo ⟨h1, h2, h3⟩))
          · exact .inr (.inl ⟨_, _, hcons, h2⟩)
      have HF := hid (show _ ∧ _ ∧ _ ∧ _ ∧ _ from ⟨num_end hs hx, hs, hn, hp, hlen⟩)
      have HQ := hid (show ((p : Int) == (at_ : Int)) = d.isEmpty from by
        cases d with
        | nil => simp [hp]
        | cons a l =>
          refine beq_eq_false_iff_ne.2 fun e => ?_
          rw [List.length_cons] at hp
          omega)
      have HS := hid (fun (m : Nat) (b : Bool) => sign_any (c := c) (Rf.set2 (W := wr.drewN m) (g := g) (at_ := p) (S := S) (bad := bad) (by rw [hp]; exact hs.rd) b) HH.out.1 (by have := HH.out; omega))
      have HO := hid (fun (m : Nat) (b : Bool) => (Only.drewN (g := g) wr m).set 2 (.bool b))
      have h4 : left = [] ∨ (left ≠ [] ∧ ((byteAt S p).toNat < 48 ∨ (57 < (byteAt S p).toNat ∧ 48 ≤ (byteAt S p).toNat) ∨ (most < n ∧ 48 ≤ (byteAt S p).toNat ∧ (byteAt S p).toNat ≤ 57))) := by
        by_cases h1 : left = []
        · exact .inl h1
        · refine .inr ⟨h1, ?_⟩
          unfold isDig at hgo
          by_cases h5 : (byteAt S p).toNat < 48
          · exact .inl h5
          · by_cases h6 : 57 < (byteAt S p).toNat
            · exact .inr (.inl ⟨h6, by omega⟩)
            · exact .inr (.inr ⟨Nat.lt_of_not_le fun h3 => hgo ⟨h1, ⟨by omega, by omega⟩, h3⟩, by omega, by omega⟩)
      clear hgo hx hk
      rcases h4 with h1 | ⟨h1, h4⟩
      · subst h1
        have hge := hs.gone
        rw [← hp] at hge
        have d1 : decide ((p : Int) < (S.size : Int)) = false := decide_eq_false (by omega)
        have d2 : decide (p < S.size) = false := decide_eq_false (by omega)
        clear hs hn hp HI hns hge
        go_wp2_with fail
        go_quiet (fail)
        go_wp2_with fail
        all_goals
          refine (HS.out _ _).mono ?_
          rintro e w' ⟨⟨u, rfl⟩, r, o⟩
          have HR := hid (show _ ∧ _ from ⟨r, (HO.out _ _).trans o⟩)
          clear r o
          go_wp2
          go_ret
          exact num_fin HF.out HR.out (by rw [← HQ.out]; simp [*])
      · obtain ⟨hlt, _⟩ := hs.at h1
        rw [← hp] at hlt
        have hx : S[p].toNat = (byteAt S p).toNat := by rw [byte_at S p hlt]
        obtain ⟨x, hxe⟩ : ∃ x, x = (byteAt S p).toNat := ⟨_, rfl⟩
        rw [← hxe] at hx h4
        have hlt' : (p : Int) < (S.size : Int) := by omega
        rcases h4 with h4 | ⟨h4, h5⟩ | ⟨h4, h5, h6⟩
        · have d1 : decide ((48 : Int) ≤ (x : Int)) = false := decide_eq_false (by omega)
          have d2 : decide (48 ≤ x) = false := decide_eq_false (by omega)
          clear hs hn hp HI hns h1 hxe
          go_wp2_with fail
          go_quiet (fail)
          go_wp2_with fail
          all_goals
            refine (HS.out _ _).mono ?_
            rintro e w' ⟨⟨u, rfl⟩, r, o⟩
            have HR := hid (show _ ∧ _ from ⟨r, (HO.out _ _).trans o⟩)
            clear r o
            go_wp2
            go_ret
            exact num_fin HF.out HR.out (by rw [← HQ.out]; simp [*])
        · have h5' : (48 : Int) ≤ (x : Int) := by omega
          have d1 : decide ((x : Int) ≤ (57 : Int)) = false := decide_eq_false (by omega)
          have d2 : decide (x ≤ 57) = false := decide_eq_false (by omega)
          clear hs hn hp HI hns h1 hxe
          go_wp2_with fail
          go_quiet (fail)
          go_wp2_with fail
          all_goals
            refine (HS.out _ _).mono ?_
            rintro e w' ⟨⟨u, rfl⟩, r, o⟩
            have HR := hid (show _ ∧ _ from ⟨r, (HO.out _ _).trans o⟩)
            clear r o
            go_wp2
            go_ret
            exact num_fin HF.out HR.out (by rw [← HQ.out]; simp [*])
        · have h5' : (48 : Int) ≤ (x : Int) := by omega
          have h6' : (x : Int) ≤ (57 : Int) := by omega
          have d1 : decide ((n : Int) ≤ (most : Int)) = false := decide_eq_false (by omega)
          have d2 : decide (n ≤ most) = false := decide_eq_false (by omega)
          clear hs hn hp HI hns h1 hxe
          go_wp2_with fail
          go_quiet (fail)
          go_wp2_with fail
          all_goals
            refine (HS.out _ _).mono ?_
            rintro e w' ⟨⟨u, rfl⟩, r, o⟩
            have HR := hid (show _ ∧ _ from ⟨r, (HO.out _ _).trans o⟩)
            clear r o
            go_wp2
            go_ret
            exact num_fin HF.out HR.out (by rw [← HQ.out]; simp [*])
end Go.Proofs.YtdkgpnkcdnfniaaDoor

namespace Go.Proofs.YtdkgpnkcdnfniaaDoor
open Go.RowKit Go.Lib

def txt (S : ByteArray) (k : Nat) : List UInt8 := S.data.toList.drop k
theorem txt_len (S : ByteArray) (k : Nat) : (txt S k).length = S.size - k := by
  unfold txt
  rw [List.length_drop, Array.length_toList]; rfl
theorem txt_cons {S : ByteArray} {k : Nat} {c : UInt8} {r : List UInt8} (h : txt S k = c :: r) : k < S.size ∧ byteAt S k = c ∧ txt S (k + 1) = r := by
  have h1 := txt_len S k
  rw [h] at h1
  simp at h1
  have hk : k < S.size := by omega
  have h2 := drop_at S k hk
  unfold txt at h ⊢
  rw [h] at h2
  injection h2 with h3 h4
  exact ⟨hk, h3.symm, h4.symm⟩
theorem txt_app {S : ByteArray} {k : Nat} {a r : List UInt8} (h : txt S k = a ++ r) : txt S (k + a.length) = r := by
  unfold txt at h ⊢
  rw [← List.drop_drop, h, List.drop_left]
theorem off_false {S : ByteArray} {k : Nat} {bad : Bool} {c : UInt8} (h : offAt S k bad c = false) : bad = false ∧ k < S.size := by
  unfold offAt isNext at h
  simp at h
  exact ⟨h.1, h.2.1⟩
theorem off_next {S : ByteArray} {k : Nat} {c : UInt8} {r : List UInt8} (h : txt S k = c :: r) : offAt S k false c = false ∧ isNext S k c = true := by
  obtain ⟨h1, h2, _⟩ := txt_cons h
  unfold offAt isNext
  simp [h1, h2]
theorem next_no {S : ByteArray} {k : Nat} {c d : UInt8} {r : List UInt8} (h : txt S k = d :: r) (hd : d ≠ c) : isNext S k c = false := by
  obtain ⟨h1, h2, _⟩ := txt_cons h
  unfold isNext
  simp [h2, hd]
theorem scan_right {S : ByteArray} {at_ most m : Nat} {d rest : List UInt8} {c : UInt8} (h : Scan S at_ most d) (e : txt S at_ = decDigits m ++ c :: rest) (hc : ¬ isDig c) (hm : m ≤ most) : d = decDigits m := by
  obtain ⟨left, e2, hx⟩ := h.cut
  have e3 : d ++ left = decDigits m ++ c :: rest := by rw [← e2]; exact e
  rcases List.append_eq_append_iff.1 e3 with ⟨a, h1, h2⟩ | ⟨a, h1, h2⟩
  · cases a with
    | nil => rw [h1, List.append_nil]
    | cons x a =>
      exfalso
      have hxd : isDig x := decDigits_dig m x (by rw [h1]; simp)
      rw [h2, List.cons_append] at hx
      rcases hx with hx | ⟨c', l', e', hc'⟩ | hx
      · cases hx
      · injection e' with e' _
        exact hc' (e' ▸ hxd)
      · have := worth_le d (x :: a)
        rw [← h1, worth_dec] at this
        omega
  · cases a with
    | nil => rw [h1, List.append_nil]
    | cons x a =>
      exfalso
      rw [List.cons_append] at h2
      injection h2 with h2 _
      exact hc (h2 ▸ h.dig x (by rw [h1]; simp))
theorem num_step {W w' : World} {g at_ most : Nat} {S : ByteArray} {bad : Bool} {c : UInt8} {e : Ending} (h : NumPost W g S at_ most bad c e w') : ∃ (n at' : Nat) (b' : Bool), e = .returned (.int .i64 (n : Int)) ∧ Rf w' g S at' b' ∧ Only g W w' ∧ n ≤ 10 * most + 9 ∧ at' ≤ max at_ S.size + 1 ∧ at_ < at' ∧ (b' = false → bad = false ∧ at_ + 2 ≤ at' ∧ at' ≤ S.size ∧ n ≤ most) ∧ (∀ m rest, bad = false → m ≤ most → ¬ isDig c → txt S at_ = decDigits m ++ c :: rest → b' = false ∧ n = m ∧ txt S at' = rest) := by
  obtain ⟨d, hs, rfl, hr, ho⟩ := h
  have hl : d.length ≤ S.size - at_ := by
    obtain ⟨left, e, _⟩ := hs.cut
    have h1 := congrArg List.length e
    rw [List.length_append] at h1
    have h2 := txt_len S at_
    unfold txt at h2
    omega
  refine ⟨worth d, _, _, rfl, hr, ho, hs.small, by omega, by omega, fun hb => ?_, fun m rest hbad hm hc e => ?_⟩
  · obtain ⟨h1, h2⟩ := off_false hb
    simp at h1
    have : d.length ≠ 0 := fun e => h1.1.2 (List.length_eq_zero_iff.1 e)
    exact ⟨h1.1.1, by omega, by omega, by omega⟩
  · have hd := scan_right hs e hc hm
    subst hd
    have h1 := txt_app e
    obtain ⟨h2, h3, h4⟩ := txt_cons h1
    refine ⟨?_, worth_dec m, h4⟩
    rw [hbad, worth_dec]
    have e1 : (decDigits m).isEmpty = false := by
      cases hh : decDigits m with
      | nil => exact absurd hh (dec_ne m)
      | cons _ _ => rfl
    rw [e1, decide_eq_false (by omega)]
    exact (off_next h1).1
/-- The answer's number, at a place of the text. -/
theorem number_s {W : World} {g at_ most : Nat} {S : ByteArray} {bad : Bool} {c : UInt8} (hr : Rf W g S at_ bad) (hS : S.size ≤ 1000000) (hat : at_ ≤ 1000100) (hm : most ≤ 4294967295) :
    Calls Tryd.prog 49 #[.pointer (some ⟨g, 0, none⟩), .int .i64 most, .int .u8 c.toNat] W fun e w' => ∃ (n at' : Nat) (b' : Bool), e = .returned (.int .i64 (n : Int)) ∧ Rf w' g S at' b' ∧ Only g W w' ∧ n ≤ 10 * most + 9 ∧ at' ≤ max at_ S.size + 1 ∧ at_ < at' ∧ (b' = false → bad = false ∧ at_ + 2 ≤ at' ∧ at' ≤ S.size ∧ n ≤ most) ∧ (∀ m rest, bad = false → m ≤ most → ¬ isDig c → txt S at_ = decDigits m ++ c :: rest → b' = false ∧ n = m ∧ txt S at' = rest) :=
  (number_r hr (by omega) (by omega) hm).mono fun e w' h => num_step h
theorem sign_s {W : World} {g at_ : Nat} {S : ByteArray} {bad : Bool} {c : UInt8} (hr : Rf W g S at_ bad) (hS : S.size ≤ 1000000) (hat : at_ ≤ 1000100) :
    Calls Tryd.prog 50 #[.pointer (some ⟨g, 0, none⟩), .int .u8 c.toNat] W fun e w' => (∃ u, e = .returned u) ∧ ∃ b', Rf w' g S (at_ + 1) b' ∧ Only g W w' ∧ (b' = false → bad = false ∧ at_ + 1 ≤ S.size) ∧ (∀ rest, bad = false → txt S at_ = c :: rest → b' = false ∧ txt S (at_ + 1) = rest) :=
  (sign_any hr (by omega) (by omega)).mono fun e w' ⟨hu, h1, h2⟩ => ⟨hu, _, h1, h2, fun hb => (by obtain ⟨q1, q2⟩ := off_false hb; exact ⟨q1, q2⟩), fun rest hb e => by
    subst hb
    exact ⟨(off_next e).1, (txt_cons e).2.2⟩⟩
/-- What a Key has from its name's length on, from the name on, from its sign on, from its digits on, from its kids on. -/
def tl5 (t : Tm) (rest : List UInt8) : List UInt8 := keyK (preL t.kids) ++ rest
def tl4k (t : Tm) (rest : List UInt8) : List UInt8 := decDigits t.kids.length ++ 59 :: tl5 t rest
def tl4 (t : Tm) (rest : List UInt8) : List UInt8 := digsK t.ds ++ 32 :: tl4k t rest
def tl3 (t : Tm) (rest : List UInt8) : List UInt8 := (if t.neg then [45] else []) ++ tl4 t rest
def tl2 (t : Tm) (rest : List UInt8) : List UInt8 := t.name.data.toList ++ 32 :: tl3 t rest
def tl1 (t : Tm) (rest : List UInt8) : List UInt8 := decDigits t.name.size ++ 58 :: tl2 t rest
theorem key_tl (t : Tm) (rest : List UInt8) : keyK (preT t) ++ rest = decDigits t.kind.toNat ++ 32 :: tl1 t rest := by
  have e : keyK (preT t) = headK t ++ keyK (preL t.kids) := by rw [preT_eq]; rfl
  rw [e]
  unfold headK tl1 tl2 tl3 tl4 tl4k tl5
  simp
/-- Of each right text that is ahead at a0. -/
def Rem (S : ByteArray) (a0 : Nat) (P : Tm → List UInt8 → Prop) : Prop := ∀ t rest, (∀ p ∈ preT t, Good p) → txt S a0 = keyK (preT t) ++ rest → P t rest
theorem tl4_head (t : Tm) (rest : List UInt8) : ∃ c l, tl4 t rest = c :: l ∧ c ≠ 45 := by
  unfold tl4
  cases t.ds with
  | nil => exact ⟨32, _, rfl, by decide⟩
  | cons d ds =>
    obtain ⟨c, l, e, hc⟩ := dec_head d
    unfold digsK
    rw [e]
    exact ⟨c, _, rfl, fun e => by rw [e] at hc; exact absurd hc (by unfold isDig; decide)⟩
end Go.Proofs.YtdkgpnkcdnfniaaDoor

namespace Go.Proofs.YtdkgpnkcdnfniaaDoor
open Go.RowKit Go.Lib

/-- While a term is read: its own variable's block T. -/
structure TR (W : World) (g T : Nat) (S : ByteArray) (at_ : Nat) (bad : Bool) (cs : Array Value) (wr : World) : Prop where
  rd : Rf wr g S at_ bad
  blk : wr.heap[T]? = some (.cells cs 28 (0, 0))
  res : wr.heap[W.heap.size]? = some (.cells #[.int .u8 0, .string ⟨#[]⟩, .bool false, .slice none 0 0, .slice none 0 0] 28 (0, 0))
  only : Only g W wr
  lo : g < W.heap.size ∧ W.heap.size < T
theorem TR.ltT {W : World} {g T at_ : Nat} {S : ByteArray} {bad : Bool} {cs : Array Value} {wr : World} (h : TR W g T S at_ bad cs wr) : T < wr.heap.size := Own.lt.cell_lt' h.blk
theorem TR.call {W : World} {g T at_ at' : Nat} {S : ByteArray} {bad b' : Bool} {cs : Array Value} {wr w' : World} (h : TR W g T S at_ bad cs wr) (r : Rf w' g S at' b') (o : Only g wr w') : TR W g T S at' b' cs w' := by
  have h1 := h.lo
  have h2 := h.ltT
  exact ⟨r, (o.block T h2 (by omega)).trans h.blk, (o.block _ (by omega) (by omega)).trans h.res, h.only.trans o, h.lo⟩
theorem TR.drew {W : World} {g T at_ : Nat} {S : ByteArray} {bad : Bool} {cs : Array Value} {wr : World} (h : TR W g T S at_ bad cs wr) (n : Nat) : TR W g T S at_ bad cs (wr.drewN n) := h.call h.rd (Only.drewN wr n)
theorem TR.setT {W : World} {g T at_ : Nat} {S : ByteArray} {bad : Bool} {cs : Array Value} {wr : World} (h : TR W g T S at_ bad cs wr) (j : Nat) (v : Value) : TR W g T S at_ bad (cs.setIfInBounds j v) (wr.setCell ⟨T, j, none⟩ v) := by
  have h1 := h.lo
  refine ⟨h.rd.to (Below.heap_setCell _ _ _ _ (by show g ≠ T; omega)), blk_set h.blk, (Below.heap_setCell _ _ _ _ (by show W.heap.size ≠ T; omega)).trans h.res, ⟨h.only.os, h.only.tape, h.only.output, by simpa using h.only.size, fun k hk hg => (Below.heap_setCell _ _ _ _ (by show k ≠ T; omega)).trans (h.only.block k hk hg)⟩, h.lo⟩
theorem TR.setAt {W : World} {g T at_ : Nat} {S : ByteArray} {bad : Bool} {cs : Array Value} {wr : World} (h : TR W g T S at_ bad cs wr) (n : Nat) : TR W g T S n bad cs (wr.setCell ⟨g, 1, none⟩ (.int .i64 (n : Int))) := h.call (h.rd.set1 n) ((Only.refl g wr).set 1 _)
theorem TR.setBad {W : World} {g T at_ : Nat} {S : ByteArray} {bad : Bool} {cs : Array Value} {wr : World} (h : TR W g T S at_ bad cs wr) (b : Bool) : TR W g T S at_ b cs (wr.setCell ⟨g, 2, none⟩ (.bool b)) := h.call (h.rd.set2 b) ((Only.refl g wr).set 2 _)
theorem TR.start {W w1 : World} {g at_ : Nat} {S : ByteArray} {bad : Bool} {cs : Array Value} (hg : g < W.heap.size) (r : Rf w1 g S at_ bad) (o : Only g (W.alloc (.cells #[.int .u8 0, .string ⟨#[]⟩, .bool false, .slice none 0 0, .slice none 0 0] 28)) w1) : TR W g w1.heap.size S at_ bad cs (w1.alloc (.cells cs 28)) := by
  have h1 : (W.alloc (.cells #[.int .u8 0, .string ⟨#[]⟩, .bool false, .slice none 0 0, .slice none 0 0] 28)).heap.size = W.heap.size + 1 := World.size_alloc ..
  have h2 := o.size
  have h3 := heap_alloc_new W (.cells #[.int .u8 0, .string ⟨#[]⟩, .bool false, .slice none 0 0, .slice none 0 0] 28)
  refine ⟨r.to (Below.heap_alloc _ _ _ (by omega)), heap_alloc_new w1 _, (Below.heap_alloc _ _ _ (by omega)).trans ((o.block _ (by omega) (by omega)).trans h3), ⟨o.os, o.tape, o.output, by simp; omega, fun k hk hne => (Below.heap_alloc _ _ _ (by omega)).trans ((o.block k (by omega) hne).trans (Below.heap_alloc _ _ _ hk))⟩, hg, by omega⟩
theorem TR.cell {W : World} {g T at_ : Nat} {S : ByteArray} {bad : Bool} {cs : Array Value} {wr : World} (h : TR W g T S at_ bad cs wr) (j : Nat) {v : Value} (hv : cs[j]? = some v) : wr.cell? ⟨T, j, none⟩ = some v := by
  rw [cell_of_row wr T j _ _ _ h.blk]; exact hv
theorem TR.fz {W : World} {g T at_ : Nat} {S : ByteArray} {bad : Bool} {cs : Array Value} {wr : World} (h : TR W g T S at_ bad cs wr) (j : Nat) : wr.frozen? ⟨T, j, none⟩ = false := by
  have := h.blk
  simp [World.frozen?, this]
theorem name_le {S : ByteArray} {k : Nat} {t : Tm} {rest : List UInt8} (e : txt S k = tl1 t rest) : t.name.size ≤ S.size := by
  have h1 := txt_len S k
  rw [e] at h1
  unfold tl1 tl2 at h1
  have h2 : t.name.data.toList.length = t.name.size := Array.length_toList
  simp only [List.length_append, List.length_cons, h2] at h1
  omega
structure NameIs (S nm : ByteArray) (k n : Nat) : Prop where
  size : nm.size = n
  out : ∀ (s : ByteArray) (rest : List UInt8), n = s.size → txt S k = s.data.toList ++ rest → nm = s ∧ txt S (k + n) = rest
theorem name_is {S nm : ByteArray} {k n : Nat} (h : nm = S.extract k (k + n)) (hle : k + n ≤ S.size) : NameIs S nm k n := by
  have e : nm.data.toList = (txt S k).take n := by
    rw [h, ByteArray.data_extract, Array.toList_extract]
    unfold txt
    simp [List.extract]
  have e1 : nm.size = n := by
    have h1 := congrArg List.length e
    rw [List.length_take, txt_len] at h1
    have h2 : nm.data.toList.length = nm.size := Array.length_toList
    omega
  refine ⟨e1, fun s rest hn ht => ?_⟩
  have h3 : s.data.toList.length = n := by rw [hn]; exact Array.length_toList
  have h4 : nm.data.toList = s.data.toList := by rw [e, ht, ← h3, List.take_left]
  refine ⟨?_, ?_⟩
  · apply ByteArray.ext
    exact Array.ext' h4
  · rw [← h3]; exact txt_app ht
/-- While digits are read: what is known of the text. -/
def DigP (S : ByteArray) (a0 at_ : Nat) (bad : Bool) (kd : Nat) (nm : ByteArray) (ng : Bool) (ds : List Nat) : Prop :=
  (Rem S a0 fun t rest => bad = false ∧ kd = t.kind.toNat ∧ nm = t.name ∧ ng = t.neg ∧ ∃ todo, t.ds = ds ++ todo ∧ txt S at_ = digsK todo ++ 32 :: tl4k t rest) ∧
  (bad = false → a0 + 1 + nm.size / 8 + ds.length ≤ at_ ∧ at_ ≤ S.size) ∧ at_ ≤ S.size + 5 ∧ kd ≤ 255 ∧ nm.size ≤ S.size ∧ ds.length ≤ S.size + 1 ∧ small 4294967296 ds ∧ (bad = false → ds.length ≤ at_)
theorem dig_start_no {S : ByteArray} {a0 at3 n1 : Nat} {b3 : Bool} {nm : ByteArray} (hM : Rem S a0 fun t rest => b3 = false ∧ n1 = t.kind.toNat ∧ nm = t.name ∧ txt S at3 = tl3 t rest) (hH : at3 ≤ S.size + 1 ∧ n1 ≤ 255 ∧ nm.size ≤ S.size ∧ (b3 = false → a0 + 5 + nm.size ≤ at3 ∧ at3 ≤ S.size)) (hx : isNext S at3 45 = false) : DigP S a0 at3 b3 n1 nm false [] := by
  obtain ⟨h1, h2, h3, h4⟩ := hH
  refine ⟨fun t rest hg e => ?_, fun hb => ?_, by omega, h2, h3, Nat.zero_le _, small_nil _, fun _ => Nat.zero_le _⟩
  · obtain ⟨f1, f2, f3, f4⟩ := hM t rest hg e
    unfold tl3 at f4
    cases hn : t.neg with
    | true =>
      rw [hn] at f4
      simp only [if_true, List.cons_append] at f4
      rw [(off_next f4).2] at hx; cases hx
    | false =>
      rw [hn] at f4
      exact ⟨f1, f2, f3, rfl, t.ds, rfl, by simpa [tl4] using f4⟩
  · obtain ⟨q1, q2⟩ := h4 hb
    simp only [List.length_nil]
    omega
theorem dig_start_yes {S : ByteArray} {a0 at3 n1 : Nat} {b3 : Bool} {nm : ByteArray} (hM : Rem S a0 fun t rest => b3 = false ∧ n1 = t.kind.toNat ∧ nm = t.name ∧ txt S at3 = tl3 t rest) (hH : at3 ≤ S.size + 1 ∧ n1 ≤ 255 ∧ nm.size ≤ S.size ∧ (b3 = false → a0 + 5 + nm.size ≤ at3 ∧ at3 ≤ S.size)) (hx : isNext S at3 45 = true) : DigP S a0 (at3 + 1) b3 n1 nm true [] := by
  obtain ⟨h1, h2, h3, h4⟩ := hH
  have hx1 : at3 < S.size := by unfold isNext at hx; simp at hx; exact hx.1
  refine ⟨fun t rest hg e => ?_, fun hb => ?_, by omega, h2, h3, Nat.zero_le _, small_nil _, fun _ => Nat.zero_le _⟩
  · obtain ⟨f1, f2, f3, f4⟩ := hM t rest hg e
    unfold tl3 at f4
    cases hn : t.neg with
    | false =>
      rw [hn] at f4
      simp only [Bool.false_eq_true, if_false, List.nil_append] at f4
      obtain ⟨c, l, e4, hc⟩ := tl4_head t rest
      rw [e4] at f4
      rw [next_no f4 hc] at hx; cases hx
    | true =>
      rw [hn] at f4
      simp only [if_true, List.cons_append, List.nil_append] at f4
      exact ⟨f1, f2, f3, rfl, t.ds, rfl, (txt_cons f4).2.2⟩
  · obtain ⟨q1, q2⟩ := h4 hb
    simp only [List.length_nil]
    omega
theorem dig_exit {S : ByteArray} {a0 at_ kd : Nat} {b ng : Bool} {nm : ByteArray} {ds : List Nat} (h : DigP S a0 at_ b kd nm ng ds) (hx : b = true ∨ isNext S at_ 32 = true) : Rem S a0 fun t rest => b = false ∧ kd = t.kind.toNat ∧ nm = t.name ∧ ng = t.neg ∧ ds = t.ds ∧ txt S at_ = 32 :: tl4k t rest := fun t rest hg e => by
  obtain ⟨f1, f2, f3, f4, todo, f5, f6⟩ := h.1 t rest hg e
  rcases hx with hx | hx
  · rw [f1] at hx; cases hx
  · cases todo with
    | nil =>
      rw [List.append_nil] at f5
      exact ⟨f1, f2, f3, f4, f5.symm, by simpa [digsK] using f6⟩
    | cons d todo =>
      exfalso
      obtain ⟨c, l, e2, hc⟩ := dec_head d
      unfold digsK at f6
      rw [e2] at f6
      rw [next_no f6 (fun e => by rw [e] at hc; exact absurd hc (by unfold isDig; decide))] at hx
      cases hx
theorem dig_step {S : ByteArray} {a0 at_ at' kd n : Nat} {b' ng : Bool} {nm : ByteArray} {ds : List Nat} (h : DigP S a0 at_ false kd nm ng ds) (hx : isNext S at_ 32 = false) (h1 : at' ≤ max at_ S.size + 1) (h2 : b' = false → at_ + 2 ≤ at' ∧ at' ≤ S.size) (h3 : ∀ m rest, m ≤ 4294967295 → txt S at_ = decDigits m ++ 46 :: rest → b' = false ∧ n = m ∧ txt S at' = rest) : DigP S a0 at' b' kd nm ng (ds ++ [n % 4294967296]) := by
  obtain ⟨q1, q2, q3, q4, q5, q6, q7, q8⟩ := h
  have hq := q2 rfl
  have hq8 := q8 rfl
  refine ⟨fun t rest hg e => ?_, fun hb => ?_, by omega, q4, q5, ?_, small_snoc q7 (Nat.mod_lt _ (by decide)), fun hb => ?_⟩
  · obtain ⟨f1, f2, f3, f4, todo, f5, f6⟩ := q1 t rest hg e
    cases todo with
    | nil =>
      exfalso
      rw [(off_next (c := 32) (by simpa [digsK] using f6)).2] at hx
      cases hx
    | cons d todo =>
      have hd : d < 4294967296 := (hg t (by rw [preT_eq]; exact List.mem_cons_self ..)).ds d (by rw [f5]; simp)
      obtain ⟨g1, g2, g3⟩ := h3 d (digsK todo ++ 32 :: tl4k t rest) (by omega) (by rw [f6]; show (decDigits d ++ 46 :: digsK todo) ++ _ = _; simp)
      refine ⟨g1, f2, f3, f4, todo, ?_, g3⟩
      rw [f5, g2, Nat.mod_eq_of_lt hd]; simp
  · have := h2 hb
    rw [List.length_append]
    simp only [List.length_cons, List.length_nil]
    omega
  · rw [List.length_append]
    simp only [List.length_cons, List.length_nil]
    omega
  · have := h2 hb
    rw [List.length_append]
    simp only [List.length_cons, List.length_nil]
    omega
/-- While digits are read. -/
structure DigS (W : World) (g T : Nat) (S : ByteArray) (a0 n1 : Nat) (nm : ByteArray) (ng : Bool) (at_ : Nat) (b : Bool) (dv : Value) (ds : List Nat) (wr : World) : Prop where
  tr : TR W g T S at_ b #[.int .u8 ((n1 : Int) % 256), .string nm, .bool ng, dv, .slice none 0 0] wr
  row : U32s wr (T + 1) dv ds
  p : DigP S a0 at_ b n1 nm ng ds
theorem DigS.call {W : World} {g T a0 n1 at_ at' : Nat} {S nm : ByteArray} {ng b b' : Bool} {dv : Value} {ds : List Nat} {wr w' : World} (h : DigS W g T S a0 n1 nm ng at_ b dv ds wr) (r : Rf w' g S at' b') (o : Only g wr w') : TR W g T S at' b' #[.int .u8 ((n1 : Int) % 256), .string nm, .bool ng, dv, .slice none 0 0] w' ∧ U32s w' (T + 1) dv ds := by
  refine ⟨h.tr.call r o, h.row.kept fun k hk hkl => o.block k hkl ?_⟩
  have := (World.ownsRow.lt h.row k hk).1
  have := h.tr.lo
  omega
theorem DigS.drew {W : World} {g T a0 n1 at_ : Nat} {S nm : ByteArray} {ng b : Bool} {dv : Value} {ds : List Nat} {wr : World} (h : DigS W g T S a0 n1 nm ng at_ b dv ds wr) (m : Nat) : DigS W g T S a0 n1 nm ng at_ b dv ds (wr.drewN m) := by
  obtain ⟨h1, h2⟩ := h.call (w' := wr.drewN m) h.tr.rd (Only.drewN wr m)
  exact ⟨h1, h2, h.p⟩
theorem TR.grown {W : World} {g T at_ : Nat} {S : ByteArray} {bad : Bool} {cs : Array Value} {wr w' : World} {o : Obj} {v : Value} (h : TR W g T S at_ bad cs wr) (hg : (wr.alloc o).grownBy w' v.ownBlock) (hv : ∀ k, v.ownBlock = some k → T + 1 ≤ k) : TR W g T S at_ bad cs w' := by
  have h1 := h.lo
  have h2 := h.ltT
  have h3 : (wr.alloc o).heap.size = wr.heap.size + 1 := World.size_alloc ..
  have kk : ∀ k, k ≤ T → w'.heap[k]? = wr.heap[k]? := fun k hk => (hg.block k (by omega) (fun e => by have := hv k e.symm; omega)).trans (Below.heap_alloc _ _ _ (by omega))
  have h4 := hg.size
  exact ⟨h.rd.to (kk g (by omega)), (kk T (Nat.le_refl _)).trans h.blk, (kk _ (by omega)).trans h.res, ⟨hg.os.trans h.only.os, hg.tape.trans h.only.tape, hg.output.trans h.only.output, by have := h.only.size; omega, fun k hk hne => (kk k (by omega)).trans (h.only.block k hk hne)⟩, h.lo⟩
def left1 (S : ByteArray) (at_ : Nat) (b : Bool) : Nat := if b then 0 else S.size + 1 - at_
theorem left1_less {S : ByteArray} {at_ at' gk : Nat} {b' : Bool} {P Q : Prop} (hk : gk = left1 S at_ false) (hat : at_ ≤ S.size) (h : b' = false → P ∧ at_ + 2 ≤ at' ∧ at' ≤ S.size ∧ Q) : left1 S at' b' < gk := by
  subst hk
  unfold left1
  cases b' with
  | true => simp; omega
  | false =>
    have := (h rfl).2
    simp
    omega
theorem CT.moreO {B : Nat} {l : List Tm} {wr w1 w2 w3 : World} {ov ov' : Value} {k : Nat} {E : List Value} {t : Tm} {v0 v1 v2 v3 v4 : Value} (h : CT B l wr ov k E) (ht : l[k]? = some t) (hB : B ≤ wr.heap.size) (hd : DepTm (fun m => wr.heap.size ≤ m) w1 (.agg #[v0, v1, v2, v3, v4]) t) (s1 : wr.heap.size ≤ w1.heap.size) (hb1 : ∀ m, B ≤ m → m < wr.heap.size → w1.heap[m]? = wr.heap[m]?) (hb2 : Below w1.heap.size w1 w2) (hr : w3.ownsRow B 28 5 ov' (k + 1) (E ++ [v0, v1, v2, v3, v4])) (hg : w2.grownBy w3 ov.ownBlock) (hw : ov'.ownBlock = ov.ownBlock ∨ ov'.ownBlock = some w2.heap.size) : CT B l w3 ov' (k + 1) (E ++ [v0, v1, v2, v3, v4]) := by
  have hEl : E.length = k * 5 := h.row.1
  have hown : ∀ m, ov.ownBlock = some m → m < wr.heap.size := fun m hm => (World.ownsRow.lt h.row m hm).2
  have s2 := hb2.size
  have keep : ∀ a u, w1.cell? a = some u → ov.ownBlock ≠ some a.block → w3.cell? a = some u := fun a u hu hne => (cell_congr ((hg.block _ (by have := cell_lt hu; omega) (fun e => hne e.symm)).trans (hb2.block _ (cell_lt hu)))).trans hu
  have newb : ∀ m, m < w1.heap.size → ov.ownBlock ≠ some m → ov'.ownBlock ≠ some m := fun m hm hne e => by
    rcases hw with hw | hw
    · rw [hw] at e; exact hne e
    · rw [hw] at e; injection e with e; omega
  refine ⟨hr, fun j t' hj hjk => ?_⟩
  by_cases hjk2 : j < k
  · obtain ⟨u0, u1, u2, u3, u4, e0, e1, e2, e3, e4, hdj⟩ := h.dep j t' hj hjk2
    refine ⟨u0, u1, u2, u3, u4, ?_, ?_, ?_, ?_, ?_, hdj.to fun a u hu hD => ?_⟩
    · rw [List.getElem?_append_left (by omega)]; exact e0
    · rw [List.getElem?_append_left (by omega)]; exact e1
    · rw [List.getElem?_append_left (by omega)]; exact e2
    · rw [List.getElem?_append_left (by omega)]; exact e3
    · rw [List.getElem?_append_left (by omega)]; exact e4
    · exact ⟨keep a u ((cell_congr (hb1 _ hD.1 (cell_lt hu))).trans hu) hD.2, hD.1, newb _ (by have := cell_lt hu; omega) hD.2⟩
  · have : j = k := by omega
    subst this
    rw [ht] at hj
    obtain rfl := Option.some.inj hj
    refine ⟨v0, v1, v2, v3, v4, ?_, ?_, ?_, ?_, ?_, hd.to fun a u hu hD => ?_⟩
    · rw [List.getElem?_append_right (by omega), hEl, Nat.sub_self]; rfl
    · rw [List.getElem?_append_right (by omega), hEl, show j * 5 + 1 - j * 5 = 1 by omega]; rfl
    · rw [List.getElem?_append_right (by omega), hEl, show j * 5 + 2 - j * 5 = 2 by omega]; rfl
    · rw [List.getElem?_append_right (by omega), hEl, show j * 5 + 3 - j * 5 = 3 by omega]; rfl
    · rw [List.getElem?_append_right (by omega), hEl, show j * 5 + 4 - j * 5 = 4 by omega]; rfl
    · have hne : ov.ownBlock ≠ some a.block := fun e => by have := hown _ e; omega
      exact ⟨keep a u hu hne, by omega, newb _ (cell_lt hu) hne⟩
/-- What holds of a longer list. -/
theorem CT.wider {B : Nat} {l : List Tm} {t : Tm} {wr : World} {ov : Value} {E : List Value} (h : CT B l wr ov l.length E) : CT B (l ++ [t]) wr ov l.length E := ⟨h.row, fun j t' hj hjk => h.dep j t' (by rw [List.getElem?_append_left hjk] at hj; exact hj) hjk⟩
theorem CT.keep {B : Nat} {l : List Tm} {wr w' : World} {ov : Value} {k : Nat} {E : List Value} (h : CT B l wr ov k E) (hk : ∀ m, B ≤ m → m < wr.heap.size → w'.heap[m]? = wr.heap[m]?) : CT B l w' ov k E := by
  refine ⟨⟨h.row.1, ?_⟩, fun j t hj hjk => ?_⟩
  · rcases h.row.2 with h0 | ⟨g, cap, cur, e, hB, hg, r⟩
    · exact .inl h0
    · exact .inr ⟨g, cap, cur, e, hB, (hk g hB (Own.lt.cell_lt' hg)).trans hg, r⟩
  · obtain ⟨u0, u1, u2, u3, u4, e0, e1, e2, e3, e4, hdj⟩ := h.dep j t hj hjk
    exact ⟨u0, u1, u2, u3, u4, e0, e1, e2, e3, e4, hdj.to fun a u hu hD => ⟨(cell_congr (hk _ hD.1 (cell_lt hu))).trans hu, hD⟩⟩
theorem TR.keep {W : World} {g T at_ : Nat} {S : ByteArray} {bad : Bool} {cs : Array Value} {wr w' : World} (h : TR W g T S at_ bad cs wr) (kk : ∀ k, k ≤ T → w'.heap[k]? = wr.heap[k]?) (h1 : w'.os = wr.os) (h2 : w'.tape = wr.tape) (h3 : w'.output = wr.output) (h4 : wr.heap.size ≤ w'.heap.size) : TR W g T S at_ bad cs w' := by
  have hl := h.lo
  exact ⟨h.rd.to (kk g (by omega)), (kk T (Nat.le_refl _)).trans h.blk, (kk _ (by omega)).trans h.res, ⟨h1.trans h.only.os, h2.trans h.only.tape, h3.trans h.only.output, Nat.le_trans h.only.size h4, fun k hk hne => (kk k (by omega)).trans (h.only.block k hk hne)⟩, hl⟩
/-- While kids are read: what is known of the text. -/
def KidP (S : ByteArray) (a0 at_ : Nat) (bad : Bool) (kd : Nat) (nm : ByteArray) (ng : Bool) (ds : List Nat) (n : Nat) (kids : List Tm) : Prop :=
  (Rem S a0 fun t rest => bad = false ∧ kd = t.kind.toNat ∧ nm = t.name ∧ ng = t.neg ∧ ds = t.ds ∧ n = t.kids.length ∧ ∃ todo, t.kids = kids ++ todo ∧ txt S at_ = keyK (preL todo) ++ rest) ∧
  (bad = false → a0 + 1 + nm.size / 8 + ds.length + wtL kids ≤ at_ ∧ at_ ≤ S.size) ∧ at_ ≤ S.size + 20 ∧ kd ≤ 255 ∧ nm.size ≤ S.size ∧ ds.length ≤ S.size + 1 ∧ small 4294967296 ds ∧ kids.length ≤ n ∧ n ≤ 10 * S.size + 9
/-- While kids are read. -/
structure KidS (W : World) (g T Bk : Nat) (S : ByteArray) (a0 n1 : Nat) (nm : ByteArray) (ng : Bool) (A : Option Addr) (c : Nat) (ds : List Nat) (n at_ : Nat) (b : Bool) (kv : Value) (kids : List Tm) (E : List Value) (wr : World) : Prop where
  tr : TR W g T S at_ b #[.int .u8 ((n1 : Int) % 256), .string nm, .bool ng, .slice A ds.length c, kv] wr
  digs : ∀ j v, (u32s ds)[j]? = some v → ∃ a, A = some a ∧ wr.cell? (a.add j) = some v ∧ T + 1 ≤ a.block ∧ a.block < Bk
  ct : CT Bk kids wr kv kids.length E
  size : Bk ≤ wr.heap.size
  lo : T < Bk
  p : KidP S a0 at_ b n1 nm ng ds n kids
theorem KidS.slice {W : World} {g T Bk a0 n1 c n at_ : Nat} {S nm : ByteArray} {ng b : Bool} {A : Option Addr} {ds : List Nat} {kv : Value} {kids : List Tm} {E : List Value} {wr : World} (h : KidS W g T Bk S a0 n1 nm ng A c ds n at_ b kv kids E wr) : ∃ K d, kv = .slice K kids.length d := by
  rcases h.ct.row.2 with ⟨e, h0⟩ | ⟨g, cap, cur, e, _⟩
  · rw [h0]; exact ⟨_, _, e⟩
  · exact ⟨_, _, e⟩
theorem kid_start {S : ByteArray} {a0 at4 at6 n1 n6 : Nat} {b4 b5 b6 ng : Bool} {nm : ByteArray} {ds : List Nat} (h : DigP S a0 at4 b4 n1 nm ng ds) (hx : b4 = true ∨ isNext S at4 32 = true) (h1 : b5 = false → b4 = false ∧ at4 + 1 ≤ S.size) (h2 : ∀ rest, b4 = false → txt S at4 = 32 :: rest → b5 = false ∧ txt S (at4 + 1) = rest) (h3 : b6 = false → b5 = false ∧ at4 + 1 + 2 ≤ at6 ∧ at6 ≤ S.size ∧ n6 ≤ S.size) (h4 : ∀ m rest, b5 = false → m ≤ S.size → txt S (at4 + 1) = decDigits m ++ 59 :: rest → b6 = false ∧ n6 = m ∧ txt S at6 = rest) (h5 : at6 ≤ max (at4 + 1) S.size + 1) (h6 : n6 ≤ 10 * S.size + 9) : KidP S a0 at6 b6 n1 nm ng ds n6 [] := by
  have he := dig_exit h hx
  obtain ⟨q1, q2, q3, q4, q5, q6, q7, q8⟩ := h
  refine ⟨fun t rest hg e => ?_, fun hb => ?_, by omega, q4, q5, q6, q7, Nat.zero_le _, h6⟩
  · obtain ⟨f1, f2, f3, f4, f5, f6⟩ := he t rest hg e
    obtain ⟨g1, g2⟩ := h2 _ f1 f6
    have hkl : t.kids.length ≤ S.size := by
      have e1 := txt_len S (at4 + 1)
      rw [g2] at e1
      unfold tl4k tl5 at e1
      have e2 := keyK_min t.kids
      simp only [List.length_append, List.length_cons] at e1
      omega
    obtain ⟨g3, g4, g5⟩ := h4 t.kids.length (tl5 t rest) g1 hkl g2
    exact ⟨g3, f2, f3, f4, f5, g4, t.kids, rfl, g5⟩
  · obtain ⟨e1, e2, e3, e4⟩ := h3 hb
    obtain ⟨e5, _⟩ := h1 e1
    have := q2 e5
    rw [wtL_nil]
    omega
theorem kid_step {S : ByteArray} {a0 at_ at' kd n : Nat} {b' ng : Bool} {nm : ByteArray} {ds : List Nat} {kids : List Tm} {t' : Tm} (h : KidP S a0 at_ false kd nm ng ds n kids) (hn : kids.length < n) (h1 : at' ≤ S.size + 20) (h2 : b' = false → at_ < at' ∧ at' ≤ S.size ∧ wtT t' ≤ at' - at_) (h3 : Rem S at_ fun t rest => b' = false ∧ txt S at' = rest ∧ t' = t) : KidP S a0 at' b' kd nm ng ds n (kids ++ [t']) := by
  obtain ⟨q1, q2, q3, q4, q5, q6, q7, q8, q9⟩ := h
  have hq := q2 rfl
  refine ⟨fun t rest hg e => ?_, fun hb => ?_, h1, q4, q5, q6, q7, by rw [List.length_append]; exact hn, q9⟩
  · obtain ⟨f1, f2, f3, f4, f5, f6, todo, f7, f8⟩ := q1 t rest hg e
    cases todo with
    | nil =>
      exfalso
      rw [List.append_nil] at f7
      rw [f7] at f6
      omega
    | cons x todo =>
      have e8 : keyK (preL (x :: todo)) = keyK (preT x) ++ keyK (preL todo) := by rw [preL_cons, preT_eq]; unfold keyK; simp
      have hgx : ∀ p ∈ preT x, Good p := fun p hp => hg p (by
        rw [preT_eq t, f7, preL_append, preL_cons]
        rw [preT_eq x] at hp
        simp only [List.mem_cons, List.mem_append] at hp ⊢
        rcases hp with hp | hp
        · exact .inr (.inr (.inl hp))
        · exact .inr (.inr (.inr (.inl hp))))
      obtain ⟨g1, g2, g3⟩ := h3 x (keyK (preL todo) ++ rest) hgx (by rw [f8, e8, List.append_assoc])
      refine ⟨g1, f2, f3, f4, f5, f6, todo, ?_, g2⟩
      rw [f7, g3]; simp
  · obtain ⟨e1, e2, e3⟩ := h2 hb
    rw [wtL_append, wtL_cons, wtL_nil]
    omega
/-- What term leaves behind. -/
def TermPost (S : ByteArray) (W : World) (g a0 : Nat) (e : Ending) (w' : World) : Prop := ∃ (kd : Int) (nm : ByteArray) (ng : Bool) (ds : List Nat) (kids : List Tm) (A K : Option Addr) (c c' : Nat) (at' : Nat) (b' : Bool), e = .returned (.agg #[.int .u8 kd, .string nm, .bool ng, .slice A ds.length c, .slice K kids.length c']) ∧ DepTm (fun m => W.heap.size ≤ m) w' (.agg #[.int .u8 kd, .string nm, .bool ng, .slice A ds.length c, .slice K kids.length c']) (.mk kd nm ng ds kids) ∧ Rf w' g S at' b' ∧ Only g W w' ∧ at' ≤ S.size + 20 ∧
  (b' = false → a0 < at' ∧ at' ≤ S.size ∧ wtT (.mk kd nm ng ds kids) ≤ at' - a0) ∧ Rem S a0 fun t rest => b' = false ∧ txt S at' = rest ∧ Tm.mk kd nm ng ds kids = t
/-- One kid more. -/
theorem kid_next {W wr w13 w14 : World} {g T Bk a0 n1 c n at_ at' d d2 : Nat} {S nm : ByteArray} {ng b' : Bool} {A K K2 : Option Addr} {ds : List Nat} {kids : List Tm} {E : List Value} {t' : Tm} {v0 v1 v2 v3 v4 : Value} (hs : KidS W g T Bk S a0 n1 nm ng A c ds n at_ false (.slice K kids.length d) kids E wr) (hdep : DepTm (fun m => wr.heap.size ≤ m) w13 (.agg #[v0, v1, v2, v3, v4]) t') (o13 : Only g wr w13) (hp : KidP S a0 at' b' n1 nm ng ds n (kids ++ [t'])) (T13 : TR W g T S at' b' #[.int .u8 ((n1 : Int) % 256), .string nm, .bool ng, .slice A ds.length c, .slice K kids.length d] w13)
    (r14 : w14.ownsRow Bk 28 5 (.slice K2 (kids.length + 1) d2) (kids.length + 1) (E ++ [v0, v1, v2, v3, v4])) (g14 : ((w13.alloc (.cells #[v0, v1, v2, v3, v4] 28)).alloc (.cells #[v0, v1, v2, v3, v4] 28)).grownBy w14 (Value.slice K kids.length d).ownBlock) (hw : (Value.slice K2 (kids.length + 1) d2).ownBlock = (Value.slice K kids.length d).ownBlock ∨ (Value.slice K2 (kids.length + 1) d2).ownBlock = some (w13.heap.size + 1 + 1)) :
    KidS W g T Bk S a0 n1 nm ng A c ds n at' b' (.slice K2 (kids.length + 1) d2) (kids ++ [t']) (E ++ [v0, v1, v2, v3, v4]) (w14.setCell ⟨T, 4, none⟩ (.slice K2 (kids.length + 1) d2)) ∧ w14.cell? ⟨T, 4, none⟩ = some (.slice K kids.length d) ∧ w14.frozen? ⟨T, 4, none⟩ = false := by
  have lo := hs.lo
  have lo2 := hs.tr.lo
  have hbk := hs.size
  have s13 := o13.size
  have sz : ((w13.alloc (.cells #[v0, v1, v2, v3, v4] 28)).alloc (.cells #[v0, v1, v2, v3, v4] 28)).heap.size = w13.heap.size + 2 := by rw [World.size_alloc, World.size_alloc]
  have s14 := g14.size
  rw [sz] at s14
  have hown : ∀ m, (Value.slice K kids.length d).ownBlock = some m → Bk ≤ m := fun m hm => (World.ownsRow.lt hs.ct.row m hm).1
  have al : ∀ m, m < w13.heap.size → ((w13.alloc (.cells #[v0, v1, v2, v3, v4] 28)).alloc (.cells #[v0, v1, v2, v3, v4] 28)).heap[m]? = w13.heap[m]? := fun m hm => (Below.heap_alloc _ _ _ (by rw [World.size_alloc]; omega)).trans (Below.heap_alloc _ _ _ hm)
  have k14 : ∀ m, m < Bk → w14.heap[m]? = w13.heap[m]? := fun m hm => (g14.block m (by omega) (fun e => by have := hown m e.symm; omega)).trans (al m (by omega))
  have T14 := T13.keep (w' := w14) (fun m hm => k14 m (by omega)) g14.os g14.tape g14.output (by omega)
  have hb2 : Below w13.heap.size w13 ((w13.alloc (.cells #[v0, v1, v2, v3, v4] 28)).alloc (.cells #[v0, v1, v2, v3, v4] 28)) := ((Below.refl _ _).alloc (Nat.le_refl _) _).alloc (by rw [World.size_alloc]; omega) _
  have hc := hs.ct.wider (t := t') |>.moreO (k := kids.length) (by simp) hbk hdep s13 (fun m h1 h2 => o13.block m h2 (by omega)) hb2 r14 g14 (by rw [sz]; exact hw)
  refine ⟨⟨T14.setT 4 _, fun j v hj => ?_, ?_, by simp; omega, lo, hp⟩, T14.cell 4 rfl, T14.fz 4⟩
  · obtain ⟨a, ha, hcell, h1, h2⟩ := hs.digs j v hj
    refine ⟨a, ha, (cell_congr ?_).trans hcell, h1, h2⟩
    rw [add_block]
    exact (Below.heap_setCell _ _ _ _ (by show a.block ≠ T; omega)).trans ((k14 _ h2).trans (o13.block _ (by omega) (by omega)))
  · have e : (kids ++ [t']).length = kids.length + 1 := by simp
    rw [e]
    exact hc.keep fun m h1 h2 => Below.heap_setCell _ _ _ _ (by show m ≠ T; omega)
theorem Only.setNew {g N : Nat} {a b : World} (h : Only g a b) (o : Nat) (v : Value) (hN : a.heap.size ≤ N) : Only g a (b.setCell ⟨N, o, none⟩ v) := ⟨h.os, h.tape, h.output, by simpa using h.size, fun k hk hg => (Below.heap_setCell _ _ _ _ (by show k ≠ N; omega)).trans (h.block k hk hg)⟩
/-- At the end of a term. -/
theorem kid_end {W wr wf : World} {g T Bk a0 n1 c n at_ d : Nat} {S nm : ByteArray} {ng b : Bool} {A K : Option Addr} {ds : List Nat} {kids : List Tm} {E : List Value} (hs : KidS W g T Bk S a0 n1 nm ng A c ds n at_ b (.slice K kids.length d) kids E wr) (hx : ¬ (kids.length < n ∧ b = false)) (hwf : wf = ((((wr.setCell ⟨W.heap.size, 0, none⟩ (.int .u8 ((n1 : Int) % 256))).setCell ⟨W.heap.size, 1, none⟩ (.string nm)).setCell ⟨W.heap.size, 2, none⟩ (.bool ng)).setCell ⟨W.heap.size, 3, none⟩ (.slice A ds.length c)).setCell ⟨W.heap.size, 4, none⟩ (.slice K kids.length d)) (hS : S.size ≤ 1000000) :
    wf.heap[W.heap.size]? = some (.cells #[.int .u8 ((n1 : Int) % 256), .string nm, .bool ng, .slice A ds.length c, .slice K kids.length d] 28 (0, 0)) ∧ TermPost S W g a0 (.returned (.agg #[.int .u8 ((n1 : Int) % 256), .string nm, .bool ng, .slice A ds.length c, .slice K kids.length d])) wf := by
  have lo := hs.lo
  have lo2 := hs.tr.lo
  have hoff : ∀ k, k ≠ W.heap.size → wf.heap[k]? = wr.heap[k]? := fun k hk => by rw [hwf]; exact five_off hk
  obtain ⟨q1, q2, q3, q4, q5, q6, q7, q8, q9⟩ := hs.p
  refine ⟨by rw [hwf]; exact five_set hs.tr.res, (n1 : Int) % 256, nm, ng, ds, kids, A, K, c, d, at_, b, rfl, ?_, hs.tr.rd.to (hoff g (by omega)), ?_, q3, fun hb => ?_, fun t rest hg e => ?_⟩
  · refine dep_of (t := .mk ((n1 : Int) % 256) nm ng ds kids) ⟨⟨by show 0 ≤ (n1 : Int) % 256; omega, by show (n1 : Int) % 256 < 256; omega⟩, by show nm.size ≤ _; omega, q7, by show ds.length ≤ _; omega, by show kids.length ≤ _; omega⟩ (fun j v hj => ?_) (hs.ct.end.to fun a u hu hD => ?_)
    · obtain ⟨a, ha, hcell, h1, h2⟩ := hs.digs j v hj
      refine ⟨a, ha, (cell_congr ?_).trans hcell, by omega⟩
      rw [add_block]
      exact hoff _ (by omega)
    · have hD' : Bk ≤ a.block := hD
      exact ⟨(cell_congr (hoff _ (by omega))).trans hu, (by omega : W.heap.size ≤ a.block)⟩
  · rw [hwf]
    exact ((((hs.tr.only.setNew 0 _ (Nat.le_refl _)).setNew 1 _ (Nat.le_refl _)).setNew 2 _ (Nat.le_refl _)).setNew 3 _ (Nat.le_refl _)).setNew 4 _ (Nat.le_refl _)
  · have := q2 hb
    rw [wtT_eq]
    simp only [Tm.name, Tm.ds, Tm.kids]
    omega
  · obtain ⟨f1, f2, f3, f4, f5, f6, todo, f7, f8⟩ := q1 t rest hg e
    have hl : todo = [] := by
      have h1 := congrArg List.length f7
      rw [List.length_append] at h1
      have h2 : ¬ kids.length < n := fun h => hx ⟨h, f1⟩
      exact List.length_eq_zero_iff.1 (by omega)
    rw [hl, List.append_nil] at f7
    rw [hl, preL_nil] at f8
    refine ⟨f1, by simpa [keyK] using f8, ?_⟩
    have hk := (hg t (by rw [preT_eq]; exact List.mem_cons_self ..)).kind
    have e1 : (n1 : Int) % 256 = t.kind := by omega
    rw [e1, f3, f4, f5, ← f7]
    exact (Tm.eta t).symm
def TermR (S : ByteArray) (k : Nat) : Prop := ∀ (W : World) (g a0 : Nat), Rf W g S a0 false → a0 ≤ S.size → S.size - a0 < k → Calls Tryd.prog 26 #[.pointer (some ⟨g, 0, none⟩)] W (TermPost S W g a0)
/-- At the end of a term whose head is none. -/
theorem bad_end {W wr wf : World} {g T a0 n1 n2 at2 : Nat} {S : ByteArray} {b2 : Bool} (hs : TR W g T S at2 true #[.int .u8 ((n1 : Int) % 256), .string ⟨#[]⟩, .bool false, .slice none 0 0, .slice none 0 0] wr) (hM : Rem S a0 fun t rest => b2 = false ∧ n1 = t.kind.toNat ∧ n2 = t.name.size ∧ txt S at2 = tl2 t rest) (hat : at2 ≤ S.size + 2) (hx : b2 = true ∨ S.size < n2 + at2) (hwf : wf = ((((wr.setCell ⟨W.heap.size, 0, none⟩ (.int .u8 ((n1 : Int) % 256))).setCell ⟨W.heap.size, 1, none⟩ (.string ⟨#[]⟩)).setCell ⟨W.heap.size, 2, none⟩ (.bool false)).setCell ⟨W.heap.size, 3, none⟩ (.slice none 0 0)).setCell ⟨W.heap.size, 4, none⟩ (.slice none 0 0)) :
    wf.heap[W.heap.size]? = some (.cells #[.int .u8 ((n1 : Int) % 256), .string ⟨#[]⟩, .bool false, .slice none 0 0, .slice none 0 0] 28 (0, 0)) ∧ TermPost S W g a0 (.returned (.agg #[.int .u8 ((n1 : Int) % 256), .string ⟨#[]⟩, .bool false, .slice none 0 0, .slice none 0 0])) wf := by
  have lo2 := hs.lo
  have hoff : ∀ k, k ≠ W.heap.size → wf.heap[k]? = wr.heap[k]? := fun k hk => by rw [hwf]; exact five_off hk
  refine ⟨by rw [hwf]; exact five_set hs.res, (n1 : Int) % 256, ⟨#[]⟩, false, [], [], none, none, 0, 0, at2, true, rfl, ?_, hs.rd.to (hoff g (by omega)), ?_, by omega, (fun hb => by cases hb), fun t rest hg e => ?_⟩
  · refine dep_of (t := .mk ((n1 : Int) % 256) ⟨#[]⟩ false [] []) ⟨⟨by show 0 ≤ (n1 : Int) % 256; omega, by show (n1 : Int) % 256 < 256; omega⟩, Nat.zero_le _, small_nil _, Nat.zero_le _, Nat.zero_le _⟩ (fun j v hj => by simp [u32s, Tm.ds] at hj) (fun W' _ j t hj => by simp [Tm.kids] at hj)
  · rw [hwf]
    exact ((((hs.only.setNew 0 _ (Nat.le_refl _)).setNew 1 _ (Nat.le_refl _)).setNew 2 _ (Nat.le_refl _)).setNew 3 _ (Nat.le_refl _)).setNew 4 _ (Nat.le_refl _)
  · exfalso
    obtain ⟨f1, f2, f3, f4⟩ := hM t rest hg e
    rcases hx with hx | hx
    · rw [f1] at hx; cases hx
    · have h1 := txt_len S at2
      rw [f4] at h1
      unfold tl2 at h1
      have h2 : t.name.data.toList.length = t.name.size := Array.length_toList
      simp only [List.length_append, List.length_cons, h2] at h1
      omega
end Go.Proofs.YtdkgpnkcdnfniaaDoor

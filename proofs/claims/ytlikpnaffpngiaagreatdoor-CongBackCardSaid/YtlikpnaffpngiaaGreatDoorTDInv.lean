/- Package term's reader: what holds while one digit is read. -/
import Derived.Test.YtlikpnaffpngiaaGreatDoorTRead
import Derived.Test.YtlikpnaffpngiaaGreatDoorGrowA
import Derived.Test.YtlikpnaffpngiaaGreatDoorStepT
import Derived.Deep.RegionLaw
set_option linter.unusedVariables false
set_option linter.unusedSimpArgs false
namespace Go.Proofs.YtlikpnaffpngiaaGreatDoor
open Go.RowKit Go.Lib

/-- A row of digits of the call's own, in blocks from B on. -/
def U32s (W : World) (B : Nat) (v : Value) (ds : List Nat) : Prop := W.ownsRow B 91 1 v ds.length (u32s ds)
theorem info_u32 : (Tryz.prog.info? 91).map (fun i => (i.zero, i.size, i.bytes)) = some (some (.int .u32 0), 1, 4) := by kernel_rfl
theorem U32s.slice {W : World} {B : Nat} {v : Value} {ds : List Nat} (h : U32s W B v ds) : ∃ A c, v = .slice A ds.length c := by
  rcases h.2 with ⟨e, h0⟩ | ⟨g, cap, cur, e, _⟩
  · rw [h0]; exact ⟨_, _, e⟩
  · exact ⟨_, _, e⟩
theorem U32s.kept {W W' : World} {B : Nat} {v : Value} {ds : List Nat} (h : U32s W B v ds) (hb : ∀ k, v.ownBlock = some k → k < W.heap.size → W'.heap[k]? = W.heap[k]?) : U32s W' B v ds := by
  have hh : W.ownsRow B 91 1 v ds.length (u32s ds) := h
  refine ⟨hh.1, ?_⟩
  rcases hh.2 with h0 | ⟨g, cap, cur, e, hB, hg, r⟩
  · exact .inl h0
  · refine .inr ⟨g, cap, cur, e, hB, ?_, r⟩
    rw [hb g (by rw [e]; rfl) (Own.lt.cell_lt' hg)]; exact hg
theorem U32s.row {W : World} {B : Nat} {A : Option Addr} {c : Nat} {ds : List Nat} (h : U32s W B (.slice A ds.length c) ds) : Row W A (u32s ds) ∧ ∀ a, A = some a → B ≤ a.block := by
  have hh : W.ownsRow B 91 1 (.slice A ds.length c) ds.length (u32s ds) := h
  rcases hh.2 with ⟨e, h0⟩ | ⟨g, cap, cur, e, hB, _⟩
  · have e1 : ds = [] := List.length_eq_zero_iff.1 h0
    subst e1
    injection e with e _ _
    subst e
    exact ⟨Row.nil _ _, fun a e => by cases e⟩
  · injection e with e1 _ e3
    subst e1; subst e3
    refine ⟨fun j v hj => ⟨_, rfl, ?_⟩, fun a e => by injection e with e; rw [← e]; exact hB⟩
    have hjl : j < ds.length := by
      have := (List.getElem?_eq_some_iff.1 hj).1
      rw [show (u32s ds).length = ds.length from by unfold u32s; simp] at this
      exact this
    have := World.ownsRow.cellAt hh j (by rw [Nat.mul_one]; exact hjl)
    rw [hj] at this
    have e9 : (⟨g, 0, none⟩ : Addr).add j = ⟨g, j, none⟩ := by
      rcases Nat.eq_zero_or_pos j with rfl | hj0
      · rfl
      · unfold Addr.add; rw [if_neg (by omega), Nat.zero_add]
    rw [e9]; exact this
/-- 'append(row, x)' of one digit, at the operation. -/
theorem wpList_u32 {ops : Array Oper} {rest : List Oper} {o : Oper} {a : Act} {Q : Exit → Act → World → Prop} (w1 : World) (hgd : o.guard = none) (s x : Operand) (d : Nat)
    (ho : o.op = .call { callee := .builtin .append, args := #[s, x], argTypes := #[ 24, 24 ] }) {B : Nat} {v : Value} {ds : List Nat} (hs : a.eval s = v) (hown : U32s w1 B v ds) (hB : B ≤ w1.heap.size)
    (hx : a.eval x = .slice (some ⟨w1.heap.size, 0, none⟩) 1 1) (hn : ds.length ≤ 10000000)
    (h : ∀ v' w', U32s w' B v' (ds ++ [d]) → (w1.alloc (.cells #[.int .u32 d] 91)).grownBy w' v.ownBlock → wpList Tryz.prog ops Q rest (a.put o.dst v') w') :
    wpList Tryz.prog ops Q (o :: rest) a (w1.alloc (.cells #[.int .u32 d] 91)) := by
  obtain ⟨i0, hi, hz0, hz1, hz2⟩ := info_parts info_u32
  have hB1 : B ≤ (w1.alloc (.cells #[.int .u32 d] 91)).heap.size := by rw [World.size_alloc]; omega
  refine wpList_append_own_at _ hgd s x 24 ho B 91 i0 _ 1 4 Tryz.underlying24 hi hz0 hz1 hz2 rfl (by decide) v ds.length _ hs (World.ownsRow.alloc hown _) ⟨w1.heap.size, 0, none⟩ 1 1 [.int .u32 d] hx rfl (cell_one_new _ _ _) ?_ ?_ ?_ hB1 ?_
  · intro u' hu
    rw [List.mem_singleton.1 hu]; rfl
  · unfold maxLen; omega
  · omega
  · intro v' w' hr hg _ _
    refine h v' w' ?_ hg
    have e1 : (ds ++ [d]).length = ds.length + 1 := by simp
    have e2 : u32s (ds ++ [d]) = u32s ds ++ [.int .u32 d] := by unfold u32s; simp
    unfold U32s
    rw [e1, e2]; exact hr
/-- What has been read of the digits: n's own variable lies at N + 1, what is told at N. -/
structure DigR (W : World) (g : Nat) (neg : Bool) (rest : List UInt8) (due : Int) (wr : World) (v : Value) (done todo : List Nat) : Prop where
  left : RdC wr g (digsK todo ++ 32 :: rest) due
  row : U32s wr (W.heap.size + 2) v done
  num : wr.heap[W.heap.size + 1]? = some (.cells #[.bool neg, v] 26 (0, 0))
  res : wr.heap[W.heap.size]? = some (.cells #[.bool false, .slice none 0 0] 26 (0, 0))
  only : Only g W wr
theorem two_alloc (w : World) (o0 o1 : Obj) : ((w.alloc o0).alloc o1).heap[w.heap.size]? = some o0 ∧ ((w.alloc o0).alloc o1).heap[w.heap.size + 1]? = some o1 ∧ ((w.alloc o0).alloc o1).heap.size = w.heap.size + 2 ∧ Below w.heap.size w ((w.alloc o0).alloc o1) := by
  have s1 : (w.alloc o0).heap.size = w.heap.size + 1 := World.size_alloc ..
  have a0 : (w.alloc o0).heap[w.heap.size]? = some o0 := heap_alloc_new w _
  have a1 : ((w.alloc o0).alloc o1).heap[w.heap.size + 1]? = some o1 := by rw [← s1]; exact heap_alloc_new _ _
  exact ⟨(Below.heap_alloc _ _ _ (by omega)).trans a0, a1, by rw [World.size_alloc, s1], ((Below.refl _ _).alloc (Nat.le_refl _) _).alloc (by omega) _⟩
theorem two_set {w : World} {b : Nat} {x y x' y' : Value} {T : TypeId} {fz : Nat × Nat} (h : w.heap[b]? = some (.cells #[x, y] T fz)) : ((w.setCell ⟨b, 0, none⟩ x').setCell ⟨b, 1, none⟩ y').heap[b]? = some (.cells #[x', y'] T fz) := by
  simp [World.setCell, Array.getElem?_modify, h]
theorem dig_start {W : World} {g : Nat} {neg : Bool} {ds : List Nat} {rest l : List UInt8} {due : Int} (hr : RdC W g l due) {R : ByteArray} (hR : R = ⟨(digsK ds ++ 32 :: rest).toArray⟩) :
    DigR W g neg rest due (((W.setCell ⟨g, 0, none⟩ (.string R)).alloc (.cells #[.bool false, .slice none 0 0] 26)).alloc (.cells #[.bool neg, .slice none 0 0] 26)) (.slice none 0 0) [] ds := by
  subst hR
  have hgW : g < W.heap.size := cell_lt hr.c0
  obtain ⟨a0, a1, asz, ab⟩ := two_alloc (W.setCell ⟨g, 0, none⟩ (.string ⟨(digsK ds ++ 32 :: rest).toArray⟩)) (.cells #[.bool false, .slice none 0 0] 26) (.cells #[.bool neg, .slice none 0 0] 26)
  have hsz : (W.setCell ⟨g, 0, none⟩ (.string ⟨(digsK ds ++ 32 :: rest).toArray⟩)).heap.size = W.heap.size := by simp
  rw [hsz] at a0 a1
  exact ⟨(hr.set0 _).to ab, World.ownsRow_nil _ _ _ _, a1, a0, ((Only.refl g W).set 0 _).trans (Only.of ab)⟩
/-- A call by its contract, at a step of a region that draws its order. -/
theorem step_calls {P : Program} {ops : Array Oper} {o : Oper} {a : Act} {w : World} {K : Act → World → Prop} {Q : Exit → Act → World → Prop} {E : Prop} {F : FuncId} {xs : Array Operand} {ts : Array TypeId} (hgd : o.guard = none) (ho : o.op = .call { callee := .value (.func F), args := xs, argTypes := ts }) (hF : enters P F = true) (args : Array Value) (ha : xs.map a.eval = args)
    (hc : Calls P F args w fun e w' => ∃ v, e = .returned v ∧ K (a.put o.dst v) w') : if Region.wanted o (yielded ops a.tmps) = true then Oper.wp P o a w K Q else E := by
  have hw : Region.wanted o (yielded ops a.tmps) = true := by simp [Region.wanted, hgd]
  rw [if_pos hw]
  unfold Oper.wp
  have h : (execOp a.eval o).run P w = .ok (.enter F args) w := by
    rw [← ha]
    unfold execOp
    rw [ho]
    simp [go_sem, run_enters hF]
  rw [h]
  refine Calls.mono hc fun e w' hh => ?_
  obtain ⟨v, rfl, hk⟩ := hh
  exact hk
theorem keep_cell {wr w3 : World} {g N o : Nat} {v : Value} (hg : g < N) (m1 : wr.cell? ⟨N + 1, o, none⟩ = some v) (h : Only g wr.drew w3) : w3.cell? ⟨N + 1, o, none⟩ = some v := (cell_congr (h.block _ (cell_lt m1) (by show N + 1 ≠ g; omega))).trans m1
theorem one_u32 (d : Nat) : ∀ u ∈ [Value.int .u32 (d : Int)], u.oneCell' = true := fun u hu => by rw [List.mem_singleton.1 hu]; rfl
theorem app_63 {n : Nat} (h : n ≤ 1000000) : n + 1 ≤ maxLen := by unfold maxLen; omega
theorem app_by {n : Nat} (h : n ≤ 1000000) : (n + 1) * 4 ≤ 140737488355328 := by omega
theorem app_B {B g : Nat} {wr w3 : World} {o : Obj} (h : B ≤ wr.heap.size) (k : Only g wr.drew w3) : B ≤ (w3.alloc o).heap.size := by
  rw [World.size_alloc]; have : wr.heap.size ≤ w3.heap.size := k.size; omega
theorem keep_row {wr w3 : World} {g N : Nat} {v : Value} {ds : List Nat} (hg : g < N) (hr : U32s wr (N + 2) v ds) (h : Only g wr.drew w3) : U32s w3 (N + 2) v ds := hr.kept fun k hk hkl => h.block k hkl (by have := (World.ownsRow.lt hr k hk).1; omega)
/-- What holds while the region of one digit is on its way: L tells which of its operations are done, x what they told. -/
structure DInv (wr : World) (N g : Nat) (d : Nat) (v : Value) (done : List Nat) (rest : List UInt8) (due : Int) (L : Nat → Bool) (x : Nat → Value) (w : World) : Prop where
  v0 : L 0 = true → x 0 = .pointer (some ⟨N + 1, 1, none⟩)
  v1 : L 1 = true → x 1 = v
  v2 : L 2 = true → x 2 = .pointer (some ⟨g, 0, none⟩)
  v3 : L 3 = true → x 3 = .int .u64 d
  v4 : L 4 = true → x 4 = .int .u32 d
  v7 : L 7 = true → x 7 = .pointer (some ⟨N + 1, 1, none⟩)
  o4 : L 4 = true → L 3 = true
  o5 : L 5 = true → L 3 = true
  o6 : L 6 = true → L 5 = true ∧ L 1 = true
  o8 : L 8 = true → L 6 = true
  a : L 3 = false → w = wr ∨ w = wr.drew
  b : L 3 = true → L 5 = false → RdC w g rest due ∧ Only g wr w
  c : L 5 = true → L 6 = false → ∃ w3, RdC w3 g rest due ∧ Only g wr w3 ∧ w = w3.alloc (.cells #[.int .u32 d] 91) ∧ x 5 = .slice (some ⟨w3.heap.size, 0, none⟩) 1 1
  e : L 6 = true → L 8 = false → ∃ w3, RdC w3 g rest due ∧ Only g wr w3 ∧ U32s w (N + 2) (x 6) (done ++ [d]) ∧ (w3.alloc (.cells #[.int .u32 d] 91)).grownBy w v.ownBlock
  f : L 8 = true → ∃ w3 w4, RdC w3 g rest due ∧ Only g wr w3 ∧ U32s w4 (N + 2) (x 6) (done ++ [d]) ∧ (w3.alloc (.cells #[.int .u32 d] 91)).grownBy w4 v.ownBlock ∧ w = w4.setCell ⟨N + 1, 1, none⟩ (x 6)
section
variable {wr : World} {N g d M : Nat} {v : Value} {done : List Nat} {rest : List UInt8} {due : Int} {a0 : Act} {T : TypeId} {pos : String} {af : Array Edge}
theorem DInv.start {W' : World} (h : W' = wr ∨ W' = wr.drew) : DInv wr N g d v done rest due (fun i => decide (9 ≤ i)) (fun _ => undef) W' := by
  constructor <;> first | (intro h1; exact absurd h1 (by decide)) | (intro _; exact h)
/-- An operation that moves nothing: 0, 1, 2, 4, 7. -/
theorem DInv.quiet {L : Nat → Bool} {x : Nat → Value} {w : World} (h : DInv wr N g d v done rest due L x w) {i : Nat} {u : Value} (hi : (i = 0 ∧ u = .pointer (some ⟨N + 1, 1, none⟩)) ∨ (i = 1 ∧ u = v) ∨ (i = 2 ∧ u = .pointer (some ⟨g, 0, none⟩)) ∨ (i = 4 ∧ u = .int .u32 d ∧ L 3 = true) ∨ (i = 7 ∧ u = .pointer (some ⟨N + 1, 1, none⟩))) : DInv wr N g d v done rest due (upd L i true) (upd x i u) w := by
  obtain ⟨v0, v1, v2, v3, v4, v7, o4, o5, o6, o8, a, b, c, e, f⟩ := h
  rcases hi with ⟨rfl, rfl⟩ | ⟨rfl, rfl⟩ | ⟨rfl, rfl⟩ | ⟨rfl, rfl, h30⟩ | ⟨rfl, rfl⟩ <;> constructor <;> simp only [upd] <;> simp_all
theorem DInv.d3 {L : Nat → Bool} {x : Nat → Value} {w w' : World} (h : DInv wr N g d v done rest due L x w) (hL : L 3 = false) (h1 : RdC w' g rest due) (h2 : Only g wr w') : DInv wr N g d v done rest due (upd L 3 true) (upd x 3 (.int .u64 d)) w' := by
  obtain ⟨v0, v1, v2, v3, v4, v7, o4, o5, o6, o8, a, b, c, e, f⟩ := h
  have h5 : L 5 = false := by cases h : L 5 with | false => rfl | true => rw [o5 h] at hL; cases hL
  have h6 : L 6 = false := by cases h : L 6 with | false => rfl | true => rw [(o6 h).1] at h5; cases h5
  have h8 : L 8 = false := by cases h : L 8 with | false => rfl | true => rw [o8 h] at h6; cases h6
  constructor <;> simp only [upd] <;> simp_all
theorem DInv.d5 {L : Nat → Bool} {x : Nat → Value} {w : World} (h : DInv wr N g d v done rest due L x w) (hL : L 5 = false) (h3 : L 3 = true) : DInv wr N g d v done rest due (upd L 5 true) (upd x 5 (.slice (some ⟨w.heap.size, 0, none⟩) 1 1)) (w.alloc (.cells #[.int .u32 d] 91)) := by
  obtain ⟨v0, v1, v2, v3, v4, v7, o4, o5, o6, o8, a, b, c, e, f⟩ := h
  have h6 : L 6 = false := by cases h : L 6 with | false => rfl | true => rw [(o6 h).1] at hL; cases hL
  have h8 : L 8 = false := by cases h : L 8 with | false => rfl | true => rw [o8 h] at h6; cases h6
  have hb := b h3 hL
  constructor <;> simp only [upd]
  case c => exact fun _ _ => ⟨w, hb.1, hb.2, rfl, by simp⟩
  all_goals simp_all
theorem DInv.d6 {L : Nat → Bool} {x : Nat → Value} {w w3 w' : World} {u : Value} (h : DInv wr N g d v done rest due L x w) (hL : L 6 = false) (h5 : L 5 = true) (h1 : L 1 = true) (r : RdC w3 g rest due) (o : Only g wr w3) (hu : U32s w' (N + 2) u (done ++ [d])) (hg : (w3.alloc (.cells #[.int .u32 d] 91)).grownBy w' v.ownBlock) : DInv wr N g d v done rest due (upd L 6 true) (upd x 6 u) w' := by
  obtain ⟨v0, v1, v2, v3, v4, v7, o4, o5, o6, o8, a, b, c, e, f⟩ := h
  have h8 : L 8 = false := by cases h : L 8 with | false => rfl | true => rw [o8 h] at hL; cases hL
  have h3 := o5 h5
  constructor <;> simp only [upd]
  case e => exact fun _ _ => ⟨w3, r, o, by simpa using hu, hg⟩
  all_goals simp_all
theorem DInv.d8 {L : Nat → Bool} {x : Nat → Value} {w : World} (h : DInv wr N g d v done rest due L x w) (hL : L 8 = false) (h6 : L 6 = true) : DInv wr N g d v done rest due (upd L 8 true) (upd x 8 undef) (w.setCell ⟨N + 1, 1, none⟩ (x 6)) := by
  obtain ⟨v0, v1, v2, v3, v4, v7, o4, o5, o6, o8, a, b, c, e, f⟩ := h
  have h5 := (o6 h6).1
  have h3 := o5 h5
  obtain ⟨w3, q1, q2, q3, q4⟩ := e h6 hL
  constructor <;> simp only [upd]
  case f => exact fun _ => ⟨w3, w, q1, q2, by simpa using q3, q4, by simp⟩
  all_goals simp_all
end
end Go.Proofs.YtlikpnaffpngiaaGreatDoor

/- Package term's reader: the operations by which one digit is read, each as a step of a region that draws its order. -/
import Derived.Test.YtlikpnaffpngiaaGreatDoorTDInv
set_option linter.unusedVariables false
set_option linter.unusedSimpArgs false
namespace Go.Proofs.YtlikpnaffpngiaaGreatDoor
open Go.RowKit Go.Lib

theorem put_ret1 {a : Act} {w' : World} {K : Value → World → Prop} {d N : Nat} {v : Value} (hN : a.tmps.size = N) (hs : decide (d < N) = true) (hk : K v w') : (a.put (some d) v).defers = a.defers ∧ K (retOf (some d) (a.put (some d) v)) w' := by
  refine ⟨put_defers _ _ _, ?_⟩
  show K ((a.put (some d) v).eval (.tmp d)) w'
  rw [put_eval a d v (by rw [hN]; exact of_decide_eq_true hs)]
  exact hk
section
variable {wr : World} {N g d M : Nat} {v : Value} {done : List Nat} {rest : List UInt8} {due : Int} {a0 : Act} {T : TypeId} {pos : String} {af : Array Edge}
def DI (wr : World) (N g d : Nat) (v : Value) (done : List Nat) (rest : List UInt8) (due : Int) := DInv wr N g d v done rest due
set_option maxRecDepth 100000 in
theorem g_addr {L : Nat → Bool} {x : Nat → Value} {i t : Nat} (hi : (i = 0 ∧ t = 22) ∨ (i = 7 ∧ t = 29)) (hN : a0.tmps.size = 33) (h3 : a0.eval (.tmp 3) = .pointer (some ⟨N + 1, 0, none⟩)) :
    GrowStep Tryz.prog (DInv wr N g d v done rest due) a0 i { dst := some t, op := .fieldAddr 26 (.tmp 3) 1, type := T, pos := pos, after := af, guard := none } [] := by
  intro L x w hI hL hdep K hK
  have hr : (execOp (putE x a0 []).eval { dst := some t, op := .fieldAddr 26 (.tmp 3) 1, type := T, pos := pos, after := af, guard := none }).run Tryz.prog w = .ok (.value (.pointer (some ⟨N + 1, 1, none⟩))) w := by
    show (execOp a0.eval _).run Tryz.prog w = _
    unfold execOp
    simp only [h3]
    go_simp
  rcases hi with ⟨rfl, rfl⟩ | ⟨rfl, rfl⟩
  · exact wp_val (N := 33) rfl hN (by decide) hr (hK _ _ (hI.quiet (.inl ⟨rfl, rfl⟩)))
  · exact wp_val (N := 33) rfl hN (by decide) hr (hK _ _ (hI.quiet (.inr (.inr (.inr (.inr ⟨rfl, rfl⟩))))))
theorem g_load (hN : a0.tmps.size = 33) (hg : g < N) (m1 : wr.cell? ⟨N + 1, 1, none⟩ = some v) :
    GrowStep Tryz.prog (DInv wr N g d v done rest due) a0 1 { dst := some 23, op := .load 24 (.tmp 22), type := T, pos := pos, after := af, guard := none } [(0, some 22)] := by
  intro L x w hI hL hdep K hK
  have h0 : L 0 = true := hdep _ (List.mem_cons_self ..)
  have hc : w.cell? ⟨N + 1, 1, none⟩ = some v := by
    have hno : ∀ w3, Only g wr w3 → w3.cell? ⟨N + 1, 1, none⟩ = some v := fun w3 o => (cell_congr (o.block _ (cell_lt m1) (by show N + 1 ≠ g; omega))).trans m1
    have h6 : L 6 = false := by cases h : L 6 with | false => rfl | true => rw [(hI.o6 h).2] at hL; cases hL
    cases h3 : L 3 with
    | false =>
      rcases hI.a h3 with rfl | rfl
      · exact m1
      · exact m1
    | true =>
      cases h5 : L 5 with
      | false => exact hno w (hI.b h3 h5).2
      | true =>
        obtain ⟨w3, _, o, rfl, _⟩ := hI.c h5 h6
        exact (cell_congr (Below.heap_alloc _ _ _ (cell_lt (hno w3 o)))).trans (hno w3 o)
  refine wp_val (N := 33) rfl (by rw [putE_size]; exact hN) (by decide) (ex_load (p := .pointer (some ⟨N + 1, 1, none⟩)) ?_ (run_ldD hc)) (hK _ _ (hI.quiet (.inr (.inl ⟨rfl, rfl⟩))))
  rw [putE_new (i := 0) _ _ (by rw [hN]; decide) rfl]
  exact hI.v0 h0
set_option maxRecDepth 100000 in
theorem g_move (hN : a0.tmps.size = 33) (h0 : a0.eval (.tmp 0) = .pointer (some ⟨g, 0, none⟩)) :
    GrowStep Tryz.prog (DInv wr N g d v done rest due) a0 2 { dst := some 24, op := .move (.tmp 0), type := T, pos := pos, after := af, guard := none } [] := by
  intro L x w hI hL hdep K hK
  have hr : (execOp (putE x a0 []).eval { dst := some 24, op := .move (.tmp 0), type := T, pos := pos, after := af, guard := none }).run Tryz.prog w = .ok (.value (.pointer (some ⟨g, 0, none⟩))) w := by
    show (execOp a0.eval _).run Tryz.prog w = _
    unfold execOp
    simp only [h0]
    go_simp
  exact wp_val (N := 33) rfl hN (by decide) hr (hK _ _ (hI.quiet (.inr (.inr (.inl ⟨rfl, rfl⟩)))))
set_option maxRecDepth 100000 in
theorem g_call {ats : Array TypeId} (hN : a0.tmps.size = 33) (hcall : ∀ w, w = wr ∨ w = wr.drew → Calls Tryz.prog 55 #[.pointer (some ⟨g, 0, none⟩), .string ⟨#[46]⟩, .int .i64 32] w fun e w' => e = .returned (.int .u64 d) ∧ RdC w' g rest due ∧ Only g w w') :
    GrowStep Tryz.prog (DInv wr N g d v done rest due) a0 3 { dst := some 25, op := .call { callee := .value (.func 55), args := #[.tmp 24, .const (.string ⟨#[46]⟩), .const (.int .i64 32)], argTypes := ats }, type := T, pos := pos, after := af, guard := none } [(2, some 24)] := by
  intro L x w hI hL hdep K hK
  have h2 : L 2 = true := hdep _ (List.mem_cons_self ..)
  have e1 : (putE x a0 [(2, some 24)]).eval (.tmp 24) = .pointer (some ⟨g, 0, none⟩) := by
    rw [putE_new (i := 2) _ _ (by rw [hN]; decide) rfl]
    exact hI.v2 h2
  have hw := hI.a hL
  refine wp_ent (N := 33) (F := 55) (args := #[.pointer (some ⟨g, 0, none⟩), .string ⟨#[46]⟩, .int .i64 32]) rfl (by rw [putE_size]; exact hN) (by decide) ?_ ((hcall w hw).mono ?_)
  · have hF : enters Tryz.prog 55 = true := by kernel_rfl
    unfold execOp
    have e1' := e1
    simp only [Act.eval, Array.getD_eq_getD_getElem?] at e1'
    simp [go_sem, run_enters hF, e1', Act.eval]
  · rintro e w' ⟨rfl, r, o⟩
    refine ⟨_, rfl, hK _ _ (hI.d3 hL r ?_)⟩
    rcases hw with rfl | rfl
    · exact o
    · exact ⟨o.os, o.tape, o.output, o.size, o.block⟩
set_option maxRecDepth 100000 in
theorem g_conv (hN : a0.tmps.size = 33) (hd : d < 4294967296) :
    GrowStep Tryz.prog (DInv wr N g d v done rest due) a0 4 { dst := some 26, op := .convert 110 91 (.tmp 25), type := T, pos := pos, after := af, guard := none } [(3, some 25)] := by
  intro L x w hI hL hdep K hK
  have h3 : L 3 = true := hdep _ (List.mem_cons_self ..)
  have e1 : (putE x a0 [(3, some 25)]).eval (.tmp 25) = .int .u64 d := by
    rw [putE_new (i := 3) _ _ (by rw [hN]; decide) rfl]
    exact hI.v3 h3
  have ew : IntKind.u32.wrap (d : Int) = d := by rw [IntKind.wrap_u32]; omega
  refine wp_val (N := 33) (v := .int .u32 d) rfl (by rw [putE_size]; exact hN) (by decide) ?_ (hK _ _ (hI.quiet (.inr (.inr (.inr (.inl ⟨rfl, rfl, h3⟩))))))
  unfold execOp
  simp only [e1]
  go_simp
set_option maxRecDepth 100000 in
theorem g_slice (hN : a0.tmps.size = 33) :
    GrowStep Tryz.prog (DInv wr N g d v done rest due) a0 5 { dst := some 27, op := .buildSlice 24 1 #[(0, .tmp 26)], type := T, pos := pos, after := af, guard := none } [(4, some 26)] := by
  intro L x w hI hL hdep K hK
  have h4 : L 4 = true := hdep _ (List.mem_cons_self ..)
  have e1 : (putE x a0 [(4, some 26)]).eval (.tmp 26) = .int .u32 d := by
    rw [putE_new (i := 4) _ _ (by rw [hN]; decide) rfl]
    exact hI.v4 h4
  refine wp_val (N := 33) (v := .slice (some ⟨w.heap.size, 0, none⟩) 1 1) (w' := w.alloc (.cells #[.int .u32 d] 91)) rfl (by rw [putE_size]; exact hN) (by decide) ?_ (hK _ _ (hI.d5 hL (hI.o4 h4)))
  refine ex_slice1 e1 ?_
  go_simp
set_option maxRecDepth 100000 in
theorem g_append {A : Option Addr} {c : Nat} (hN : a0.tmps.size = 33) (hg : g < N) (hr : U32s wr (N + 2) (.slice A done.length c) done) (hs : N + 2 ≤ wr.heap.size) (hl : done.length ≤ 1000000) :
    GrowStep Tryz.prog (DInv wr N g d (.slice A done.length c) done rest due) a0 6 { dst := some 28, op := .call { callee := .builtin .append, args := #[.tmp 23, .tmp 27], argTypes := #[ 24, 24 ] }, type := T, pos := pos, after := af, guard := none } [(1, some 23), (5, some 27)] := by
  intro L x w hI hL hdep K hK
  have h1 : L 1 = true := hdep (1, some 23) (List.mem_cons_self ..)
  have h5 : L 5 = true := hdep (5, some 27) (List.mem_cons_of_mem _ (List.mem_cons_self ..))
  obtain ⟨w3, r, o, rfl, hx5⟩ := hI.c h5 hL
  have e1 : (putE x a0 [(1, some 23), (5, some 27)]).eval (.tmp 23) = .slice A done.length c := by
    rw [putE_new (i := 1) _ _ (by rw [hN]; decide) rfl]
    exact hI.v1 h1
  have e5 : (putE x a0 [(1, some 23), (5, some 27)]).eval (.tmp 27) = .slice (some ⟨w3.heap.size, 0, none⟩) 1 1 := by
    rw [putE_new (i := 5) _ _ (by rw [hN]; decide) rfl]
    exact hx5
  obtain ⟨i0, hi, hz0, hz1, hz2⟩ := info_parts info_u32
  have hrow : U32s w3 (N + 2) (.slice A done.length c) done := hr.kept fun k hk hkl => o.block k hkl (by have := (World.ownsRow.lt hr k hk).1; omega)
  have hB : N + 2 ≤ (w3.alloc (.cells #[.int .u32 d] 91)).heap.size := by rw [World.size_alloc]; have := o.size; omega
  refine wp_append_lies _ (.tmp 23) (.tmp 27) 24 rfl (N + 2) 91 i0 _ 1 4 Tryz.underlying24 hi hz0 hz1 hz2 rfl (by decide) (.slice A done.length c) done.length (u32s done) e1 (World.ownsRow.alloc hrow _) ⟨w3.heap.size, 0, none⟩ 1 1 [.int .u32 d] e5 rfl (cell_one_new _ _ _) (one_u32 d) (by decide) (app_63 hl) (app_by hl) hB _ rfl ?_
  intro g4 c4 w4 r4 q4 _ _
  refine put_ret1 (N := 33) (by rw [putE_size]; exact hN) (by decide) (hK _ _ (hI.d6 hL h5 h1 r o ?_ q4))
  have e6 : (done ++ [d]).length = done.length + 1 := by simp
  unfold U32s
  rw [e6, ← u32s_snoc]
  exact r4
set_option maxRecDepth 100000 in
theorem g_store {A : Option Addr} {c : Nat} {neg : Bool} (hN : a0.tmps.size = 33) (hg : g < N) (hr : U32s wr (N + 2) (.slice A done.length c) done) (hnum : wr.heap[N + 1]? = some (.cells #[.bool neg, .slice A done.length c] 26 (0, 0))) :
    GrowStep Tryz.prog (DInv wr N g d (.slice A done.length c) done rest due) a0 8 { dst := none, op := .store 24 (.tmp 29) (.tmp 28), type := T, pos := pos, after := af, guard := none } [(7, some 29), (6, some 28)] := by
  intro L x w hI hL hdep K hK
  have h7 : L 7 = true := hdep (7, some 29) (List.mem_cons_self ..)
  have h6 : L 6 = true := hdep (6, some 28) (List.mem_cons_of_mem _ (List.mem_cons_self ..))
  obtain ⟨w3, r, o, hu, hgr⟩ := hI.e h6 hL
  have e7 : (putE x a0 [(7, some 29), (6, some 28)]).eval (.tmp 29) = .pointer (some ⟨N + 1, 1, none⟩) := by
    rw [putE_new (i := 7) _ _ (by rw [hN]; decide) rfl]
    exact hI.v7 h7
  have e6 : (putE x a0 [(7, some 29), (6, some 28)]).eval (.tmp 28) = x 6 := putE_new (i := 6) _ _ (by rw [hN]; decide) rfl
  have hlt : N + 1 < wr.heap.size := cell_lt (cell_of_row wr (N + 1) 0 _ _ _ hnum)
  have n3 : w3.heap[N + 1]? = some (.cells #[.bool neg, .slice A done.length c] 26 (0, 0)) := (o.block _ hlt (by omega)).trans hnum
  have nw : w.heap[N + 1]? = some (.cells #[.bool neg, .slice A done.length c] 26 (0, 0)) := by
    refine (hgr.block _ ?_ fun e => ?_).trans ((Below.heap_alloc _ _ _ ?_).trans n3)
    · rw [World.size_alloc]; have := o.size; omega
    · have := (World.ownsRow.lt hr (N + 1) e.symm).1; omega
    · have := o.size; omega
  obtain ⟨A6, c6, hx6⟩ := hu.slice
  have c1 : w.cell? ⟨N + 1, 1, none⟩ = some (.slice A done.length c) := cell_of_row w _ 1 _ _ _ nw
  have f1 : w.frozen? ⟨N + 1, 1, none⟩ = false := by simp [World.frozen?, nw]
  refine wp_skp (w' := w.setCell ⟨N + 1, 1, none⟩ (x 6)) rfl (ex_store e7 e6 ?_) (hK _ _ (hI.d8 hL h6))
  rw [hx6]
  go_simp
end
end Go.Proofs.YtlikpnaffpngiaaGreatDoor

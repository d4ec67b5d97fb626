/- Package term's variable: the last sort of a name, or what is thrown. No condition but of sizes. -/
import Derived.Test.YtlikpnaffpngiaaGreatDoorSFence
import Derived.RangeFuncOwn
import Derived.RangeFuncCalls
set_option linter.unusedVariables false
set_option linter.unusedSimpArgs false
namespace Go.Proofs.YtlikpnaffpngiaaGreatDoor
open Go.RowKit Go.Shelf
attribute [local go_sem] Oper.semAt_some

theorem putObj_cell {W : World} {l : Nat} {o o' : Obj} {a : Addr} {v : Value} (h : W.cell? a = some v) (hl : W.heap[l]? = some o) (ho : ∀ b, o.isCells = b → b = false) : (W.putObj l o').cell? a = some v := by
  have hne : a.block ≠ l := fun e => by
    obtain ⟨o2, h2, h3⟩ := cells_of_cell h
    rw [e, hl] at h2
    injection h2 with h2
    subst h2
    exact absurd (ho _ h3) (by decide)
  exact (cell_congr (World.putObj_heap_other hne)).trans h
theorem putObj_below {W : World} {B l : Nat} {o : Obj} (h : B ≤ l) : Below B W (W.putObj l o) := ⟨rfl, rfl, rfl, Nat.le_of_eq (World.putObj_size).symm, fun k hk => World.putObj_heap_other (by omega)⟩
/-- A range over a function, at an outermost loop: the record is laid; the one call. -/
theorem range_at {F : Fence} {n : Nat} {P : Program} {g : Operand} {ps : Array Tmp} {assign body : Code} {Q : Exit → Act → World → Prop} {a : Act} {w : World} (hro : F.round = none) (h1 : 1 ≤ n) {gf : Nat} {lb : Array Value} (hg : a.eval g = .func (.func gf) #[] lb) (hFg : F.fn gf) (eg : ∀ args w, (callFunc gf args).run P w = .ok (.enter gf args) w)
    (hcall : ∀ fn, F.fn fn → ∀ rec : LoopState → Option Code → Loop, rec = (fun st pe => { state := st, pending := pe, fn := fn, tmps := a.tmps, params := ps, assign := assign, body := body, defers := w.heap.size }) →
      CallsIn F (n - 1) P gf (#[.func (.yield (w.heap.size + 1)) #[] #[]] ++ lb) ((w.alloc (.deferred (some []))).alloc (.loop (rec .ready none))) (rangePost F n P (w.heap.size + 1) Q { a with defers := [{ target := .collected w.heap.size, args := #[] }] ++ a.defers })) :
    (Code.rangeFunc g ps assign body).wpIn F n P Q a w := by
  refine wpIn_rangeFunc fun fn hfn => ?_
  rw [hro]
  refine ⟨w.heap.size + 1, [{ target := .collected w.heap.size, args := #[] }], _, { target := .fn (.func gf) lb, args := #[.func (.yield (w.heap.size + 1)) #[] #[]] }, (w.alloc (.deferred (some []))).alloc (.loop { state := .ready, pending := none, fn := fn, tmps := a.tmps, params := ps, assign := assign, body := body, defers := w.heap.size }), gf, _, _, run_enterLoop_outer _ _ _ _ _, ?_, fun f' hf' => ?_, ?_, fun _ => h1, hcall fn hfn _ rfl⟩
  · simp only [resolve, hg]
    simp [go_sem]
  · simp [Target.leads] at hf'
    subst hf'
    exact hFg
  · simp [invoke, go_sem, eg]
/-- What stands of the loop's variables; B: the world's size where the loop begins. -/
structure VB (w : World) (B gs : Nat) (x r : ByteArray) (W : World) : Prop where
  below : Below w.heap.size w W
  s : W.cell? ⟨w.heap.size, 0, none⟩ = some (.pointer (some ⟨gs, 0, none⟩))
  nm : W.cell? ⟨w.heap.size + 1, 0, none⟩ = some (.string x)
  res : W.heap[w.heap.size + 1 + 1]? = some (.cells #[.string r] 9 (0, 0))
  dfr : W.heap[B]? = some (.deferred (some []))
/-- What holds while the first k are still to come. -/
structure VJ (w : World) (B gs : Nat) (x : ByteArray) (S : List (ByteArray × ByteArray)) (rec : LoopState → Option Code → Loop) (k : Nat) (W : World) : Prop where
  b : VB w B gs x ⟨#[]⟩ W
  loop : W.heap[B + 1]? = some (.loop (rec .ready none))
  none : ∀ j y, k ≤ j → S[j]? = some y → y.1 ≠ x
theorem VB.put {w : World} {B gs : Nat} {x r : ByteArray} {W : World} {o o' : Obj} (hB : w.heap.size + 4 ≤ B) (h : VB w B gs x r W) (hl : W.heap[B + 1]? = some o) (ho : ∀ b, o.isCells = b → b = false) : VB w B gs x r (W.putObj (B + 1) o') :=
  ⟨h.below.trans (putObj_below (by omega)), putObj_cell h.s hl ho, putObj_cell h.nm hl ho, (World.putObj_heap_other (by omega)).trans h.res, (World.putObj_heap_other (by omega)).trans h.dfr⟩
theorem VB.bel {w : World} {B gs : Nat} {x r : ByteArray} {W W' : World} (h : VB w B gs x r W) (hb : Below W.heap.size W W') : VB w B gs x r W' :=
  ⟨h.below.trans (hb.mono h.below.size), (hb.cell (cell_lt h.s)).trans h.s, (hb.cell (cell_lt h.nm)).trans h.nm, (hb.block _ (Own.lt.cell_lt' h.res)).trans h.res, (hb.block _ (Array.getElem?_eq_some_iff.1 h.dfr).1).trans h.dfr⟩
theorem varK_hit {D : List DtT} {S : List (ByteArray × ByteArray)} {x : ByteArray} {k : Nat} {y : ByteArray × ByteArray} (hy : S[k]? = some y) (hx : y.1 = x) (hn : ∀ j y, k + 1 ≤ j → S[j]? = some y → y.1 ≠ x) : varK D S x = if isSortK D y.2 then some y.2 else none := by
  have hk := (List.getElem?_eq_some_iff.1 hy).1
  have hf : (S.reverse.find? fun p => decide (p.1 = x)) = some y := by
    rw [← List.take_append_drop (k + 1) S, List.reverse_append, List.find?_append]
    have h1 : ((S.drop (k + 1)).reverse.find? fun p => decide (p.1 = x)) = none := by
      rw [List.find?_eq_none]
      intro p hp
      obtain ⟨j, hj⟩ := List.mem_iff_getElem?.1 (List.mem_reverse.1 hp)
      rw [List.getElem?_drop] at hj
      have := hn _ _ (by omega) hj
      simp [this]
    rw [h1, List.take_add_one, hy]
    simp [hx]
  unfold varK
  rw [hf]
theorem varK_none {D : List DtT} {S : List (ByteArray × ByteArray)} {x : ByteArray} (hn : ∀ j y, 0 ≤ j → S[j]? = some y → y.1 ≠ x) : varK D S x = none := by
  have hf : (S.reverse.find? fun p => decide (p.1 = x)) = none := by
    rw [List.find?_eq_none]
    intro p hp
    obtain ⟨j, hj⟩ := List.mem_iff_getElem?.1 (List.mem_reverse.1 hp)
    have := hn j p (Nat.zero_le _) hj
    simp [this]
  unfold varK
  rw [hf]
set_option maxRecDepth 100000 in
set_option maxHeartbeats 6400000 in
theorem variable_in {F : Fence} (hro : F.round = none) (hF : OwnF F) (hval : ∀ f, F.fn f → ∃ fn, Tryz.prog.funcs[f]? = some fn) {n : Nat} (hn : 20 ≤ n) {w : World} {gs : Nat} {v vS : Value} {D : List DtT} {S : List (ByteArray × ByteArray)} {x : ByteArray} (hg : w.cell? ⟨gs, 2, none⟩ = some v) (hv : DatasV w v D) (hs : w.cell? ⟨gs, 3, none⟩ = some vS) (hS : ScopeV w vS S) (hf : D.length ≤ 1000000) (hl : S.length ≤ 1000000) :
    CallsIn F n Tryz.prog 77 #[.pointer (some ⟨gs, 0, none⟩), .string x] w fun e w' => SortRet (varK D S x) e ∧ Below w.heap.size w w' := by
  have hx1 : 1 ≤ n := by omega
  have hx2 : 1 ≤ n - 1 := by omega
  have hx3 : 1 ≤ n - 1 - 1 := by omega
  have hx4 := hF _ _ Tryz.func91
  have hx5 := hF _ _ Tryz.func107
  have hx6 := hF _ _ Tryz.func92
  have hx7 := hF _ _ Tryz.func75
  obtain ⟨A, cap, rfl, hSr⟩ := hS
  have q3 : (((w.alloc (.cells #[.pointer (some ⟨gs, 0, none⟩)] 117)).alloc (.cells #[.string x] 9)).alloc (.cells #[.string ⟨#[]⟩] 9)).cell? ⟨gs, 3, none⟩ = some (.slice A S.length cap) :=
    (Below.cell ((((Below.refl w.heap.size w).alloc (Nat.le_refl _) _).alloc (by simp) _).alloc (by simp; omega) _) (cell_lt hs)).trans hs
  refine callsIn_of_wp_marks Tryz.func77 rfl (hF _ _ Tryz.func77) ?_ hro
  simp only [ Tryz.ntmps77, List.size_toArray, List.length_cons, List.length_nil, Nat.reduceAdd, Nat.reduceSub, Array.replicate_succ, Array.replicate_zero, List.push_toArray, List.append_toArray, List.nil_append, List.cons_append]
  gi_wp2_with (gi_at_call 91; refine (back_in hro hF rfl).mono ?_; rintro e w' ⟨rfl, rfl⟩)
  rename_i KK hKK
  have HKK := Lib.hid hKK
  clear hKK
  obtain ⟨g0, g1, g2, g3, gsz, gb⟩ := four_alloc w (.cells #[.pointer (some ⟨gs, 0, none⟩)] 117) (.cells #[.string x] 9) (.cells #[.string ⟨#[]⟩] 9) (.cells #[.slice A S.length cap] 42)
  obtain ⟨w0, hw0⟩ : ∃ w0, w0 = ((((w.alloc (.cells #[.pointer (some ⟨gs, 0, none⟩)] 117)).alloc (.cells #[.string x] 9)).alloc (.cells #[.string ⟨#[]⟩] 9)).alloc (.cells #[.slice A S.length cap] 42)) := ⟨_, rfl⟩
  rw [← hw0] at g0 g1 g2 g3 gsz gb ⊢
  clear hw0 q3
  refine range_at hro hx1 (gf := 107) (lb := #[.pointer (some ⟨w.heap.size + 1 + 1 + 1, 0, none⟩)]) rfl hx5 (run_enters (by kernel_rfl)) fun fn hfn rec hrec => ?_
  obtain ⟨W1, hW1⟩ : ∃ W1, W1 = (w0.alloc (.deferred (some []))).alloc (.loop (rec .ready none)) := ⟨_, rfl⟩
  have k1 : ∀ k, k < w0.heap.size → W1.heap[k]? = w0.heap[k]? := fun k hk => by rw [hW1]; exact (Below.heap_alloc _ _ _ (by simp; omega)).trans (Below.heap_alloc _ _ _ hk)
  have kD : W1.heap[w0.heap.size]? = some (.deferred (some [])) := by rw [hW1]; exact (Below.heap_alloc _ _ _ (by simp)).trans (heap_alloc_new _ _)
  have kL : W1.heap[w0.heap.size + 1]? = some (.loop (rec .ready none)) := by
    rw [hW1]; have := heap_alloc_new (w0.alloc (.deferred (some []))) (.loop (rec .ready none)); rwa [World.size_alloc] at this
  have hb1 : Below w.heap.size w W1 := by rw [hW1]; exact (gb.alloc (by omega) _).alloc (by simp; omega) _
  have hVB : VB w w0.heap.size gs x ⟨#[]⟩ W1 := ⟨hb1, cell_one0 ((k1 _ (by omega)).trans g0), cell_one0 ((k1 _ (by omega)).trans g1), (k1 _ (by omega)).trans g2, kD⟩
  rw [← hW1, show (#[.func (.yield (w0.heap.size + 1)) #[] #[]] ++ #[.pointer (some ⟨w.heap.size + 1 + 1 + 1, 0, none⟩)] : Array Value) = #[.func (.yield (w0.heap.size + 1)) #[] #[], .pointer (some ⟨w.heap.size + 1 + 1 + 1, 0, none⟩)] from rfl]
  have HSO := Lib.hid (fun W (hW : Below w.heap.size w W) (m : Nat) (hm : 10 ≤ m) (s : ByteArray) => isSort_in hro hF (n := m) hm (name := s) ((hW.cell (cell_lt hg)).trans hg) (hv.sub (sub_below hW)) hf)
  refine (back1_in hro hF (n := n - 1) (by omega) (l := w0.heap.size + 1) (Bs := w.heap.size + 1 + 1 + 1) (n0 := w.heap.size + 4) (K := A) (cap := cap) (S := S) (J := VJ w w0.heap.size gs x S rec)
    (Jr := fun W => ∃ s, varK D S x = some s ∧ VB w w0.heap.size gs x s W ∧ W.heap[w0.heap.size + 1]? = some (.loop (rec .done (some .ret)))) (Jp := fun ch W => ch = [{ v := .iface 32 (.int .i64 23), recovered := false }] ∧ varK D S x = none ∧ VB w w0.heap.size gs x ⟨#[]⟩ W) hl ?round
    (cell_one0 ((k1 _ (by omega)).trans g3)) (by omega) (fun j y hj => ?_) ⟨hVB, kL, fun j y hj hy => absurd (List.getElem?_eq_some_iff.1 hy).1 (by omega)⟩).mono ?_
  case round =>
    intro k y W hy hJ
    have hy2 := run_yield (P := Tryz.prog) (args := #[.int .i64 (k : Int), .agg #[.string y.1, .string y.2]]) hJ.loop (by rw [hrec]; rfl)
    have hrd : rec .ready none = rec .ready none := rfl
    have HR := Lib.hid hrec
    simp only [hrec] at hy2
    refine ⟨_, _, _, _, hy2, round_ends hfn (hval fn hfn) ?_⟩
    have hB4 : w.heap.size + 4 ≤ w0.heap.size := by omega
    clear gsz
    have HJ := Lib.hid hJ
    have HHY := Lib.hid hy
    clear hy2 hrec hrd hy hJ hVB kL kD k1 hb1 hW1 g0 g1 g2 g3 hg hs hv hSr
    gi_wp2
    obtain ⟨w1, hw1⟩ : ∃ w1, w1 = W.alloc (.cells #[.string y.1, .string y.2] 70) := ⟨_, rfl⟩
    rw [← hw1]
    have hbw : Below W.heap.size W w1 := by rw [hw1]; exact (Below.refl _ _).alloc (Nat.le_refl _) _
    have hl1 : w1.heap[w0.heap.size + 1]? = some (.loop (rec .ready none)) := (hbw.block _ (Array.getElem?_eq_some_iff.1 HJ.out.loop).1).trans HJ.out.loop
    have hn1 : w1.heap[W.heap.size]? = some (.cells #[.string y.1, .string y.2] 70 (0, 0)) := by rw [hw1]; exact heap_alloc_new _ _
    have hv1 := HJ.out.b.bel hbw
    have hlW : w0.heap.size + 1 < W.heap.size := (Array.getElem?_eq_some_iff.1 HJ.out.loop).1
    refine ⟨_, run_beginRound hl1 (by rw [HR.out]), ?_⟩
    obtain ⟨w2, hw2⟩ : ∃ w2, w2 = w1.putObj (w0.heap.size + 1) (.loop { rec .ready none with state := .busy }) := ⟨_, rfl⟩
    rw [← hw2]
    have hv2 : VB w w0.heap.size gs x ⟨#[]⟩ w2 := by rw [hw2]; exact hv1.put (by omega) hl1 (fun b h => by cases h; rfl)
    have hl2 : w2.heap[w0.heap.size + 1]? = some (.loop (rec .busy none)) := by
      rw [hw2, World.putObj_heap_same (Array.getElem?_eq_some_iff.1 hl1).1, HR.out]
    have hn2 : w2.heap[W.heap.size]? = some (.cells #[.string y.1, .string y.2] 70 (0, 0)) := by rw [hw2]; exact (World.putObj_heap_other (by omega)).trans hn1
    have hbn : Below (w.heap.size + 4) W w2 := by rw [hw2]; exact (hbw.mono (by omega)).trans (putObj_below (by omega))
    have e0 : w2.cell? ⟨W.heap.size, 0, none⟩ = some (.string y.1) := cell_blk hn2
    have e1 : w2.cell? ⟨W.heap.size, 1, none⟩ = some (.string y.2) := cell_blk hn2
    have e2 : w2.cell? ⟨w.heap.size + 1, 0, none⟩ = some (.string x) := hv2.nm
    have e3 : w2.cell? ⟨w.heap.size, 0, none⟩ = some (.pointer (some ⟨gs, 0, none⟩)) := hv2.s
    have HF := Lib.hid (show _ ∧ _ ∧ _ ∧ _ from ⟨hv2, hl2, hbn, hn2⟩)
    -- what endRound does
    have HEnd := Lib.hid (show ∀ (jump : Option Code) (W3 : World), W3.heap[w0.heap.size + 1]? = some (.loop (rec .busy none)) → (Instr.endRound (w0.heap.size + 1) jump).run Tryz.prog W3 = .ok (.bool jump.isNone) (W3.putObj (w0.heap.size + 1) (.loop (rec (if jump.isNone then .ready else .done) jump))) from fun jump W3 h3 => by
      have := run_endRound (P := Tryz.prog) jump h3
      rw [this, HR.out])
    clear hw2 hw1 hbw hl1 hn1 hv1 hv2 hl2 hn2 hbn
    by_cases hxy : y.1 = x
    · have hq : (y.1.toList == x.toList) = true := by rw [hxy]; exact beq_self_eq_true _
      have HK := Lib.hid (varK_hit (D := D) HHY.out hxy HJ.out.none)
      clear hxy
      have HI := Lib.hid (HSO.out w2 HF.out.1.below (n - 1 - 1 - 1) (by omega) y.2)
      obtain ⟨sb, hsb⟩ : ∃ sb, sb = isSortK D y.2 := ⟨_, rfl⟩
      rw [← hsb] at HK HI
      clear hsb HSO
      gi_wp2_with fail
      refine (CallsIn.inRound (w0.heap.size + 1) HI.out).mono ?_
      rintro e w3 ⟨rfl, hb3⟩
      have HB3 := Lib.hid hb3
      have k2 : w3.heap[W.heap.size]? = some (.cells #[.string y.1, .string y.2] 70 (0, 0)) := (hb3.block _ (Own.lt.cell_lt' HF.out.2.2.2)).trans HF.out.2.2.2
      have k3 := HF.out.1.bel hb3
      have k4 : w3.heap[w0.heap.size + 1]? = some (.loop (rec .busy none)) := (hb3.block _ (Array.getElem?_eq_some_iff.1 HF.out.2.1).1).trans HF.out.2.1
      have f1 : w3.cell? ⟨W.heap.size, 1, none⟩ = some (.string y.2) := cell_blk k2
      have f2 : w3.cell? ⟨w.heap.size + 1 + 1, 0, none⟩ = some (.string ⟨#[]⟩) := cell_one0 k3.res
      have f3 : w3.frozen? ⟨w.heap.size + 1 + 1, 0, none⟩ = false := frozen_blk k3.res
      have HG := Lib.hid (show _ ∧ _ from ⟨k3, k4⟩)
      clear k2 k3 k4 hb3 HI
      cases sb with
      | false =>
        have HN := Lib.hid (need_in (n := n - 1 - 1 - 1) hro hF (w := w3) (b := false))
        gi_wp2_with fail
        refine (CallsIn.inRound (w0.heap.size + 1) HN.out).mono ?_
        rintro e w4 ⟨rfl, ⟨h, _⟩ | ⟨_, rfl⟩⟩
        · cases h
        clear HN
        gi_wp2
        exact ⟨rfl, .inr (.inr ⟨_, rfl, rfl, HK.out, HG.out.1⟩)⟩
      | true =>
        have HN := Lib.hid (need_in (n := n - 1 - 1 - 1) hro hF (w := w3) (b := true))
        gi_wp2_with fail
        refine (CallsIn.inRound (w0.heap.size + 1) HN.out).mono ?_
        rintro e w4 ⟨rfl, he⟩
        obtain rfl : e = .returned (.tuple #[]) := by
          rcases he with ⟨_, h⟩ | ⟨h, _⟩
          · exact h
          · cases h
        clear he
        clear HN
        gi_wp2
        have k5 : (w4.setCell ⟨w.heap.size + 1 + 1, 0, none⟩ (.string y.2)).heap[w0.heap.size + 1]? = some (.loop (rec .busy none)) := (Below.heap_setCell _ _ _ _ (by show w0.heap.size + 1 ≠ w.heap.size + 1 + 1; omega)).trans HG.out.2
        have hv5 : VB w w0.heap.size gs x y.2 (w4.setCell ⟨w.heap.size + 1 + 1, 0, none⟩ (.string y.2)) := by
          have h := HG.out.1
          refine ⟨h.below.trans ((Below.refl _ _).setCell (p := ⟨w.heap.size + 1 + 1, 0, none⟩) (by show w.heap.size ≤ w.heap.size + 1 + 1; omega) _), (cell_other (fun e => by injection e with e; omega)).trans h.s, (cell_other (fun e => by injection e with e; omega)).trans h.nm, one_set h.res, (Below.heap_setCell _ _ _ _ (by show w0.heap.size ≠ w.heap.size + 1 + 1; omega)).trans h.dfr⟩
        refine ⟨_, _, HEnd.out (some .ret) _ k5, .inr (.inl ⟨rfl, y.2, HK.out, hv5.put (by omega) k5 (fun b h => by cases h; rfl), World.putObj_heap_same (Array.getElem?_eq_some_iff.1 k5).1⟩)⟩
    · have hq := bytes_no hxy
      have HN := Lib.hid hxy
      clear hxy
      gi_wp2
      refine ⟨_, _, HEnd.out none _ HF.out.2.1, .inl ⟨rfl, ⟨HF.out.1.put (by omega) HF.out.2.1 (fun b h => by cases h; rfl), World.putObj_heap_same (Array.getElem?_eq_some_iff.1 HF.out.2.1).1, fun j z hj hz => ?_⟩, HF.out.2.2.1.trans (putObj_below (by omega))⟩⟩
      rcases Nat.eq_or_lt_of_le hj with e | hj
      · subst e
        rw [HHY.out] at hz
        injection hz with hz
        subst hz
        exact HN.out
      · exact HJ.out.none j z hj hz
  · obtain ⟨ad, e, h0, h1⟩ := hSr j y hj
    have hlt := cell_lt h0
    rw [add_block] at hlt
    exact ⟨ad, e, by omega, (hb1.cell (cell_lt h0)).trans h0, (hb1.cell (cell_lt h1)).trans h1⟩
  · rintro e W2 (⟨⟨u, rfl⟩, hJ | ⟨s, hs2, hVB2, hl2⟩⟩ | ⟨ch, rfl, rfl, hn2, hVB2⟩)
    · refine ⟨none, _, by have := run_endLoop (P := Tryz.prog) hJ.loop (by rw [hrec]; simp); rw [hrec] at this; exact this, ?_⟩
      have hv3 := hJ.b.put (o' := .loop { rec .ready none with state := .exhausted }) (by omega) hJ.loop (fun b h => by cases h; rfl)
      have HN := Lib.hid (varK_none (D := D) hJ.none)
      obtain ⟨w4, hw4⟩ : ∃ w4, w4 = W2.putObj (w0.heap.size + 1) (.loop { rec .ready none with state := .exhausted }) := ⟨_, rfl⟩
      rw [← hw4] at hv3
      have HV := Lib.hid hv3
      have hw5 := hw4
      rw [hrec] at hw5
      rw [← hw5]
      have hB4 : w.heap.size + 4 ≤ w0.heap.size := by omega
      clear hw4 hw5 hv3 hJ hrec HSO gsz
      show KK _ _
      refine HKK.out _ _ ?_
      gi_wp2
      exact ⟨by simp, .inl ⟨_, _, rfl, run_takeDeferred HV.out.dfr, .inr ⟨HN.out, 21, by decide, rfl⟩, HV.out.below.trans (putObj_below (by omega))⟩⟩
    · refine ⟨some .ret, _, by have := run_endLoop (P := Tryz.prog) hl2 (by rw [hrec]; simp); rw [hrec] at this; exact this, ?_⟩
      have hv3 := hVB2.put (o' := .loop { rec .done (some .ret) with state := .exhausted }) (by omega) hl2 (fun b h => by cases h; rfl)
      obtain ⟨w4, hw4⟩ : ∃ w4, w4 = W2.putObj (w0.heap.size + 1) (.loop { rec .done (some .ret) with state := .exhausted }) := ⟨_, rfl⟩
      rw [← hw4] at hv3
      have hw5 := hw4
      rw [hrec] at hw5
      rw [← hw5]
      have HV := Lib.hid hv3
      have HS2 := Lib.hid hs2
      clear hw4 hw5 hv3 hVB2 hl2 hrec HSO hs2
      show Code.wpIn F n _ Code.ret _ _ w4
      gi_wp2
      have hc5 : (w4.putObj w0.heap.size (.deferred none)).cell? ⟨w.heap.size + 1 + 1, 0, none⟩ = some (.string s) := putObj_cell (cell_one0 HV.out.res) HV.out.dfr (fun b h => by cases h; rfl)
      refine ⟨by simp, .inl ⟨_, _, rfl, run_takeDeferred HV.out.dfr, .string s, ?_, .inl ⟨s, HS2.out, rfl⟩, HV.out.below.trans (putObj_below (by omega))⟩⟩
      simp [results, Tryz.results77, Tryz.f77, go_sem, hc5]
    · have hv := hVB2
      exact ⟨by simp, .inl ⟨_, _, rfl, run_takeDeferred hv.dfr, .inr ⟨hn2, 23, by decide, rfl⟩, hv.below.trans (putObj_below (by omega))⟩⟩
theorem variable_ok {w : World} {gs : Nat} {v vS : Value} {D : List DtT} {S : List (ByteArray × ByteArray)} {x : ByteArray} (hg : w.cell? ⟨gs, 2, none⟩ = some v) (hv : DatasV w v D) (hs : w.cell? ⟨gs, 3, none⟩ = some vS) (hS : ScopeV w vS S) (hf : D.length ≤ 1000000) (hl : S.length ≤ 1000000) :
    Calls Tryz.prog 77 #[.pointer (some ⟨gs, 0, none⟩), .string x] w fun e w' => SortRet (varK D S x) e ∧ Below w.heap.size w w' :=
  fv_calls (n := 20) (variable_in (F := FV) rfl (fun f fn h => ⟨fn, h⟩) (fun f h => h) (Nat.le_refl _) hg hv hs hS hf hl)
end Go.Proofs.YtlikpnaffpngiaaGreatDoor

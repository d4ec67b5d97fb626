/- RatioTexts, its row and its card: for every text the call returns true; the text reads behind the call as it read before. Conditions: those of the given row and card: the three tables of the library are laid as the program's text lays them. Contract of the answer's Parse of stage 3: by where the text's first sign / stands, what its parts are, and whether the text of what they make is that one again. No condition. What num.Parse and the answer's Parse tell of any text of at most 100 bytes: both the same number, and true, just if the text is that number's. What ratio.Parse and the answer's Parse of stage 3 tell of any such text: both the same. Premises (ratio.Parse): the table of powers of ten reads as it is laid; the library's cell internal/bytealg.MaxLen holds some int. Awake of layer 3, and the law RatioField, walked: of any three ratios the call returns true. Premises: the table of powers of ten reads as it is laid; the library's cell internal/bytealg.MaxLen holds some int. A ratio that came in, opened; the wrap of a law's row with the world's shape kept beside the laid tables; the library's cell that its search asks. No condition. -/
import Derived.Deep.Cut
import Derived.Test.YthgclmkhmcfflaaGreatDoorTie
import Derived.Test.YthgclmkhmcfflaaGreatDoorCards
import Derived.SevenTiedAt
import Derived.Shelf.Vars
import Derived.Test.YthgclmkhmcfflaaGreatDoorT1
import Derived.Test.YthgclmkhmcfflaaGreatDoorT2
import Derived.Test.YthgclmkhmcfflaaGreatDoorT3
import Derived.Test.YthgclmkhmcfflaaGreatDoorT4
import Derived.Test.YthgclmkhmcfflaaGreatDoorT5
import Derived.Test.YthgclmkhmcfflaaGreatDoorT6
namespace Go.Proofs.YthgclmkhmcfflaaGreatDoor
open Go.RowKit
section
variable {ρ : Operand → Value} {w : World} {d : Option Tmp} {T E2 : TypeId} {pos : String} {af : Array Edge} {gu : Option (Nat × Bool)} {a b : Operand} {s : ByteArray} {k : Nat}
theorem ex_slLo (ha : ρ a = .string s) (hb : ρ b = .int .i64 (k : Int)) (hk : k ≤ s.size) :
    (execOp ρ { dst := d, op := .slice 9 a none (some b) none, type := T, pos := pos, after := af, guard := gu }).run Tryz.prog w = .ok (.value (.string (s.extract 0 k))) w := by
  show ((Instr.sliceAt 9 (ρ a) none (some (ρ b)) none) >>= fun v => pure (Next.value v)).run Tryz.prog w = _
  rw [ha, hb]
  have e : (Instr.sliceAt 9 (.string s) none (some (.int .i64 (k : Int))) none).run Tryz.prog w = .ok (.string (s.extract 0 k)) w := by go_simp
  rw [run_then e]; rfl
theorem ex_slHi (ha : ρ a = .string s) (hb : ρ b = .int .i64 ((k : Int) + 1)) (hk : k + 1 ≤ s.size) :
    (execOp ρ { dst := d, op := .slice 9 a (some b) none none, type := T, pos := pos, after := af, guard := gu }).run Tryz.prog w = .ok (.value (.string (s.extract (k + 1) s.size))) w := by
  show ((Instr.sliceAt 9 (ρ a) (some (ρ b)) none none) >>= fun v => pure (Next.value v)).run Tryz.prog w = _
  rw [ha, hb]
  have e : (Instr.sliceAt 9 (.string s) (some (.int .i64 ((k : Int) + 1))) none none).run Tryz.prog w = .ok (.string (s.extract (k + 1) s.size)) w := by
    go_simp
    intro h
    have := h (by omega)
    omega
  rw [run_then e]; rfl
theorem ex_add1 (ha : ρ a = .int .i64 (k : Int)) (hb : ρ b = .int .i64 1) (hk : k ≤ 100) :
    (execOp ρ { dst := d, op := .binOp .add 3 a b E2, type := T, pos := pos, after := af, guard := gu }).run Tryz.prog w = .ok (.value (.int .i64 ((k : Int) + 1))) w := by
  show (((do eqGuard .add 3 a b (ρ a) (ρ b); binOp .add 3 (ρ a) (ρ b)) : Sem Value) >>= fun v => pure (Next.value v)).run Tryz.prog w = _
  rw [ha, hb]
  have e : (binOp .add 3 (.int .i64 (k : Int)) (.int .i64 1)).run Tryz.prog w = .ok (.int .i64 ((k : Int) + 1)) w := by
    go_simp
    rw [IntKind.wrap_i64]; omega
  have e2 : ((do eqGuard .add 3 a b (.int .i64 (k : Int)) (.int .i64 1); binOp .add 3 (.int .i64 (k : Int)) (.int .i64 1)) : Sem Value).run Tryz.prog w = .ok (.int .i64 ((k : Int) + 1)) w := by
    rw [run_then (v := ()) (w' := w) rfl]; exact e
  rw [run_then e2]; rfl
end
set_option maxRecDepth 100000 in
set_option maxHeartbeats 8000000 in
theorem refParse_whole_yes {w : World} {s : ByteArray} {k : Nat} (hs : s.size ≤ 100) (hk : k = s.size) (h1 : ∀ j, j < k → (bt s).getD j 0 ≠ 47) {zx : Int} (HA : Hid (∀ (W : World) {S0 : Nat} {x_ : Nat → Value}, Calls Tryz.prog 27 #[.string (s.extract 0 k)] W (Told (kZB 19 (zx) true) S0 x_ W))) :
    Calls Tryz.prog 8 #[.string s] w fun e w' => ∃ v, e = .returned (.tuple #[v, .bool true]) ∧ Pr w' v 19 (zx) (1) ∧ Below w.heap.size w w' := by
  have HP := Lib.hid (show (∀ j, j < k → (bt s).getD j 0 ≠ 47) from h1)
  have hks : k ≤ s.size := by omega
  have hk1 : k ≤ 100 := by omega
  have hwh : ((k : Int) == (s.size : Int)) = true := by rw [hk]; exact beq_self_eq_true _
  have HC := Lib.hid (show k ≤ s.size ∧ k ≤ 100 ∧ ((k : Int) == (s.size : Int)) = true from ⟨hks, hk1, hwh⟩)
  clear h1 hk1 hwh
  go_enter Tryz.func8, Tryz.ntmps8
  go_wp2_with fail
  go_loop [4] (fun i => ∃ q : Nat, q ≤ k ∧ i = .int .i64 q) (fun i => k - (intOf i).toNat)
  case atStart => exact ⟨0, Nat.zero_le _, rfl⟩
  case round =>
    obtain ⟨q, hq, rfl⟩ := hrel
    by_cases hlt : q < k
    · have hqs : q < s.size := by omega
      have hx := bt_at s q hqs
      obtain ⟨x, hxe⟩ : ∃ x, x = (bt s).getD q 0 := ⟨_, rfl⟩
      rw [← hxe] at hx
      have h47 : ((x : Int) == 47) = false := by rw [beq_eq_false_iff_ne]; have := HP.out q hlt; omega
      clear hxe
      go_wp2
      go_round
      case rel => exact ⟨q + 1, by omega, by go_num⟩
      case measure => first | (simp [intOf]; done) | (simp [intOf]; omega)
    · obtain rfl : q = k := by omega
      have hk' := hq
      have hnl : ¬ q < s.size := by omega
      go_upto_region 4 with fail
      rename_i hrest
      clear hk' hlt hq HP hnl
      obtain ⟨W_0, hW⟩ : ∃ W, W = w.alloc (Obj.cells #[Value.bool false, Value.slice none 0 0, Value.bool false, Value.slice none 0 0] 27) := ⟨_, rfl⟩
      have bb_0 : Below w.heap.size w W_0 := by rw [hW]; exact bal (Below.refl _ _) _
      have K0 : W_0.heap[w.heap.size]? = some (Obj.cells #[Value.bool false, Value.slice none 0 0, Value.bool false, Value.slice none 0 0] 27) := by rw [hW]; exact new_at (by simp)
      rw [← hW]
      have R_0 : Holds_ W_0 (w.heap.size) #[Value.bool false, Value.slice none 0 0, Value.bool false, Value.slice none 0 0] := ⟨⟨_, K0⟩, by simp [noDig]⟩
      clear hW K0
      obtain ⟨hks, hk1, hwh⟩ := HC.out
      refine name_frame (G := fun a => Code.wp _ _ _ a _) ?_
      intro a_0 ha
      have hN_0 : a_0.tmps.size = 64 := by subst ha; kernel_rfl
      have hD_0 : a_0.defers = [] := by subst ha; rfl
      have e0_0 : a_0.eval (.tmp 0) = .string s := by subst ha; kernel_rfl
      have e2_0 : a_0.eval (.tmp 2) = .pointer (some ⟨w.heap.size, 0, none⟩) := by subst ha; kernel_rfl
      have e4_0 : a_0.eval (.tmp 4) = .int .i64 ((q : Nat) : Int) := by subst ha; kernel_rfl
      clear ha
      repeat (first | refine wp_seq ?_ | (refine wp_skip ?_; refine then_n ?_))
      refine wp_region_law hN_0 w.heap.size
        [kIs (.string s), kIs (.int .i64 ((q : Nat) : Int)), kIs (.string (s.extract 0 q)), kZB 19 (zx) true, kZB 19 (zx) true, kZ 19 (zx), kIs (.bool true), PK.fresh 2, kPutZ 7 19 (zx), kIs (.bool true)]
        [ [], [], [(0, some 23), (1, some 24)], [(2, some 25)], [(3, some 26)], [(4, some 22)], [(4, some 22)], [], [(7, some 5), (5, some 27)], [(6, some 28)] ]
        [(0, some 23), (1, some 24), (2, some 25), (3, some 26), (4, some 22), (5, some 27), (6, some 28), (7, some 5), (8, none), (9, some 6)] [] [] (by kernel_rfl) (by kernel_rfl) (by kernel_rfl) (by kernel_rfl) (by kernel_rfl) (by kernel_rfl) (by kernel_rfl) bb_0.size ?_ ?_
      ·
        refine pk_cons rfl rfl (st_pure [] [(0, .string s)] (.string s) rfl hN_0 (by kernel_rfl) (by kernel_rfl) (by kernel_rfl) (old1 e0_0) (by kernel_rfl) (by kernel_rfl) (by kernel_rfl) (fun _ => by kernel_rfl)) ?_
        refine pk_cons rfl rfl (st_pure [] [(4, .int .i64 ((q : Nat) : Int))] (.int .i64 ((q : Nat) : Int)) rfl hN_0 (by kernel_rfl) (by kernel_rfl) (by kernel_rfl) (old1 e4_0) (by kernel_rfl) (by kernel_rfl) (by kernel_rfl) (fun _ => by kernel_rfl)) ?_
        refine pk_cons rfl rfl (st_pure [.string s, .int .i64 ((q : Nat) : Int)] [] (.string (s.extract 0 q)) rfl hN_0 (by kernel_rfl) (by kernel_rfl) (by kernel_rfl) old0 (by kernel_rfl) (by kernel_rfl) (by kernel_rfl) (fun _ => ex_slLo (by kernel_rfl) (by kernel_rfl) hks)) ?_
        refine pk_cons rfl rfl (st_call1 hN_0 (by kernel_rfl) (by kernel_rfl) (by kernel_rfl) rfl rfl fun w x v1 hC h1 => called_at h1 (HA.out _)) ?_
        refine pk_cons rfl rfl (st_move hN_0 (by kernel_rfl) (by kernel_rfl) rfl rfl) ?_
        refine pk_cons rfl rfl (st_ext hN_0 (by kernel_rfl) (by kernel_rfl) rfl rfl ext_z) ?_
        refine pk_cons rfl rfl (st_ext hN_0 (by kernel_rfl) (by kernel_rfl) rfl rfl ext_ok) ?_
        refine pk_cons rfl rfl (st_alloc hN_0 (by kernel_rfl) (Nat.le_refl _) rfl) ?_
        refine pk_cons rfl rfl (st_put hN_0 (by kernel_rfl) (by kernel_rfl) (by kernel_rfl) rfl rfl rfl) ?_
        refine pk_cons rfl rfl (st_pure [.bool true] [] (.bool true) rfl hN_0 (by kernel_rfl) (by kernel_rfl) (by kernel_rfl) old0 (by kernel_rfl) (by kernel_rfl) (by kernel_rfl) (fun _ => by kernel_rfl)) ?_
        exact pk_nil rfl
      intro W_1 x_ hC hall
      refine then_n ?_
      obtain ⟨a_1, ha⟩ : ∃ a, a = putE x_ a_0 [(0, some 23), (1, some 24), (2, some 25), (3, some 26), (4, some 22), (5, some 27), (6, some 28), (7, some 5), (8, none), (9, some 6)] := ⟨_, rfl⟩
      rw [← ha]
      have hN_1 := size_behind ha hN_0
      have hD_1 := defers_behind ha hD_0
      have bb_1 := bb_0.trans hC.below
      have e0_1 := slot_old ha (by kernel_rfl) e0_0
      have e2_1 := slot_old ha (by kernel_rfl) e2_0
      have e4_1 := slot_old ha (by kernel_rfl) e4_0
      have R_1 := hC.holds R_0
      obtain ⟨g5, hx, hge, l5_1⟩ := put_locG (show (kPutZ 7 19 (zx)).sem _ _ _ _ from hall 8 (of_decide_eq_true (by kernel_rfl)))
      have d5 := Nat.lt_of_lt_of_le R_0.lt hge
      clear hge
      have e5_1 := (slot_new (t := 5) (i := 7) ha hN_0 (by kernel_rfl) (by kernel_rfl)).trans hx
      clear hx
      have e6_1 := (slot_new (t := 6) (i := 9) ha hN_0 (by kernel_rfl) (by kernel_rfl)).trans (show x_ 9 = .bool true from hall 9 (of_decide_eq_true (by kernel_rfl)))
      clear hall hC ha bb_0 hD_0 e0_0 e2_0 e4_0 R_0
      have q5_1 := l5_1.atR
      clear l5_1
      refine hrest _ _ ?_
      repeat (first | refine wp_seq ?_ | (refine wp_skip ?_; refine then_n ?_))
      refine wp_region_law hN_1 w.heap.size
        [kIs (.bool true), kIs (.bool false)]
        [ [], [(0, some 29)] ]
        [(0, some 29), (1, some 30)] [] [] (by kernel_rfl) (by kernel_rfl) (by kernel_rfl) (by kernel_rfl) (by kernel_rfl) (by kernel_rfl) (by kernel_rfl) bb_1.size ?_ ?_
      ·
        refine pk_cons rfl rfl (st_pure [] [(6, .bool true)] (.bool true) rfl hN_1 (by kernel_rfl) (by kernel_rfl) (by kernel_rfl) (old1 e6_1) (by kernel_rfl) (by kernel_rfl) (by kernel_rfl) (fun _ => by kernel_rfl)) ?_
        refine pk_cons rfl rfl (st_pure [.bool true] [] (.bool false) rfl hN_1 (by kernel_rfl) (by kernel_rfl) (by kernel_rfl) old0 (by kernel_rfl) (by kernel_rfl) (by kernel_rfl) (fun _ => by kernel_rfl)) ?_
        exact pk_nil rfl
      intro W_2 x_ hC hall
      refine then_n ?_
      obtain ⟨a_2, ha⟩ : ∃ a, a = putE x_ a_1 [(0, some 29), (1, some 30)] := ⟨_, rfl⟩
      rw [← ha]
      have hN_2 := size_behind ha hN_1
      have hD_2 := defers_behind ha hD_1
      have bb_2 := bb_1.trans hC.below
      have e0_2 := slot_old ha (by kernel_rfl) e0_1
      have e2_2 := slot_old ha (by kernel_rfl) e2_1
      have e4_2 := slot_old ha (by kernel_rfl) e4_1
      have e5_2 := slot_old ha (by kernel_rfl) e5_1
      have e6_2 := slot_old ha (by kernel_rfl) e6_1
      have R_2 := hC.holds R_1
      have q5_2 := hC.at0 q5_1
      have e30_2 := (slot_new (t := 30) (i := 1) ha hN_1 (by kernel_rfl) (by kernel_rfl)).trans (show x_ 1 = .bool false from hall 1 (of_decide_eq_true (by kernel_rfl)))
      clear hall hC ha bb_1 hD_1 e0_1 e2_1 e4_1 e5_1 e6_1 R_1 q5_1
      refine wp_cond_false e30_2 ?_
      repeat (first | refine wp_seq ?_ | (refine wp_skip ?_; refine then_n ?_))
      refine wp_region_law hN_2 w.heap.size
        [kIs (.int .i64 ((q : Nat) : Int)), kIs (.string s), kIs (.int .i64 (s.size : Int)), kIs (.bool true)]
        [ [], [], [(1, some 33)], [(0, some 32), (2, some 34)] ]
        [(0, some 32), (1, some 33), (2, some 34), (3, some 35)] [] [] (by kernel_rfl) (by kernel_rfl) (by kernel_rfl) (by kernel_rfl) (by kernel_rfl) (by kernel_rfl) (by kernel_rfl) bb_2.size ?_ ?_
      ·
        refine pk_cons rfl rfl (st_pure [] [(4, .int .i64 ((q : Nat) : Int))] (.int .i64 ((q : Nat) : Int)) rfl hN_2 (by kernel_rfl) (by kernel_rfl) (by kernel_rfl) (old1 e4_2) (by kernel_rfl) (by kernel_rfl) (by kernel_rfl) (fun _ => by kernel_rfl)) ?_
        refine pk_cons rfl rfl (st_pure [] [(0, .string s)] (.string s) rfl hN_2 (by kernel_rfl) (by kernel_rfl) (by kernel_rfl) (old1 e0_2) (by kernel_rfl) (by kernel_rfl) (by kernel_rfl) (fun _ => by kernel_rfl)) ?_
        refine pk_cons rfl rfl (st_pure [.string s] [] (.int .i64 (s.size : Int)) rfl hN_2 (by kernel_rfl) (by kernel_rfl) (by kernel_rfl) old0 (by kernel_rfl) (by kernel_rfl) (by kernel_rfl) (fun _ => by kernel_rfl)) ?_
        refine pk_cons rfl rfl (st_pureV [.int .i64 ((q : Nat) : Int), .int .i64 (s.size : Int)] [] (.bool ((q : Int) == (s.size : Int))) (.bool true) (congrArg Value.bool hwh) rfl hN_2 (by kernel_rfl) (by kernel_rfl) (by kernel_rfl) old0 (by kernel_rfl) (by kernel_rfl) (by kernel_rfl) (fun _ => by kernel_rfl)) ?_
        exact pk_nil rfl
      intro W_3 x_ hC hall
      refine then_n ?_
      obtain ⟨a_3, ha⟩ : ∃ a, a = putE x_ a_2 [(0, some 32), (1, some 33), (2, some 34), (3, some 35)] := ⟨_, rfl⟩
      rw [← ha]
      have hN_3 := size_behind ha hN_2
      have hD_3 := defers_behind ha hD_2
      have bb_3 := bb_2.trans hC.below
      have e0_3 := slot_old ha (by kernel_rfl) e0_2
      have e2_3 := slot_old ha (by kernel_rfl) e2_2
      have e4_3 := slot_old ha (by kernel_rfl) e4_2
      have e5_3 := slot_old ha (by kernel_rfl) e5_2
      have e6_3 := slot_old ha (by kernel_rfl) e6_2
      have e30_3 := slot_old ha (by kernel_rfl) e30_2
      have R_3 := hC.holds R_2
      have q5_3 := hC.at0 q5_2
      have e35_3 := (slot_new (t := 35) (i := 3) ha hN_2 (by kernel_rfl) (by kernel_rfl)).trans (show x_ 3 = .bool true from hall 3 (of_decide_eq_true (by kernel_rfl)))
      clear hall hC ha bb_2 hD_2 e0_2 e2_2 e4_2 e5_2 e6_2 e30_2 R_2 q5_2
      refine wp_cond_true e35_3 ?_
      repeat (first | refine wp_seq ?_ | (refine wp_skip ?_; refine then_n ?_))
      refine wp_region_res hN_3 w.heap.size (w.heap.size) R_3 (by omega)
        [kZ 19 (zx), kP 19 (zx) (1), kRes (w.heap.size) 19 (zx) (1), kIs (.bool true)]
        [ [], [(0, some 36)], [(1, some 37)], [] ]
        [(0, some 36), (1, some 37), (2, none), (3, some 3)] [] [] (by kernel_rfl) (by kernel_rfl) (by kernel_rfl) (by kernel_rfl) (by kernel_rfl) (by kernel_rfl) (by kernel_rfl) bb_3.size ?_ ?_
      ·
        refine pk_cons rfl rfl (st_loadB q5_3 (by simp only [List.mem_singleton]; omega) e5_3 hN_3 (by kernel_rfl) rfl) ?_
        refine pk_cons rfl rfl (st_call1 hN_3 (by kernel_rfl) (by kernel_rfl) (by kernel_rfl) rfl rfl fun w x v1 hC h1 => tp (refWhole (rr h1))) ?_
        refine pk_cons rfl rfl (st_resP R_3 rfl (by simp) e2_3 hN_3 (by kernel_rfl) (by kernel_rfl) rfl rfl) ?_
        refine pk_cons rfl rfl (st_pure [] [] (.bool true) rfl hN_3 (by kernel_rfl) (by kernel_rfl) (by kernel_rfl) old0 (by kernel_rfl) (by kernel_rfl) (by kernel_rfl) (fun _ => by kernel_rfl)) ?_
        exact pk_nil rfl
      intro W x_ hC hall
      refine then_n ?_
      obtain ⟨a1, ha⟩ : ∃ a, a = putE x_ a_3 [(0, some 36), (1, some 37), (2, none), (3, some 3)] := ⟨_, rfl⟩
      rw [← ha]
      have hD1 := defers_behind ha hD_3
      have bb1 := bb_3.trans hC.below
      obtain ⟨cs, hg, hP⟩ := (show (kRes (w.heap.size) 19 (zx) (1)).sem _ _ _ _ from hall 2 (of_decide_eq_true (by kernel_rfl)))
      have e1 := slot_old (t := 2) ha (by kernel_rfl) e2_3
      have e2 := (slot_new (t := 3) (i := 3) ha hN_3 (by kernel_rfl) (by kernel_rfl)).trans (show x_ 3 = .bool true from hall 3 (of_decide_eq_true (by kernel_rfl)))
      repeat (first | refine wp_seq ?_ | (refine wp_skip ?_; refine then_n ?_))
      refine wp_ret ?_
      repeat (refine then_r ?_)
      exact ret_cellP2 (t := 2) (u := 3) rfl hD1 e1 e2 hg hP fun v hv => ⟨v, rfl, hv, bb1⟩
set_option maxRecDepth 100000 in
set_option maxHeartbeats 8000000 in
theorem refParse_whole_no {w : World} {s : ByteArray} {k : Nat} (hs : s.size ≤ 100) (hk : k = s.size) (h1 : ∀ j, j < k → (bt s).getD j 0 ≠ 47) {zx : Int} (HA : Hid (∀ (W : World) {S0 : Nat} {x_ : Nat → Value}, Calls Tryz.prog 27 #[.string (s.extract 0 k)] W (Told (kZB 19 (zx) false) S0 x_ W))) :
    Calls Tryz.prog 8 #[.string s] w fun e w' => ∃ v, e = .returned (.tuple #[v, .bool false]) ∧ Pr w' v 1 (0) (1) ∧ Below w.heap.size w w' := by
  have HP := Lib.hid (show (∀ j, j < k → (bt s).getD j 0 ≠ 47) from h1)
  have hks : k ≤ s.size := by omega
  have hk1 : k ≤ 100 := by omega
  have hwh : ((k : Int) == (s.size : Int)) = true := by rw [hk]; exact beq_self_eq_true _
  have HC := Lib.hid (show k ≤ s.size ∧ k ≤ 100 ∧ ((k : Int) == (s.size : Int)) = true from ⟨hks, hk1, hwh⟩)
  clear h1 hk1 hwh
  go_enter Tryz.func8, Tryz.ntmps8
  go_wp2_with fail
  go_loop [4] (fun i => ∃ q : Nat, q ≤ k ∧ i = .int .i64 q) (fun i => k - (intOf i).toNat)
  case atStart => exact ⟨0, Nat.zero_le _, rfl⟩
  case round =>
    obtain ⟨q, hq, rfl⟩ := hrel
    by_cases hlt : q < k
    · have hqs : q < s.size := by omega
      have hx := bt_at s q hqs
      obtain ⟨x, hxe⟩ : ∃ x, x = (bt s).getD q 0 := ⟨_, rfl⟩
      rw [← hxe] at hx
      have h47 : ((x : Int) == 47) = false := by rw [beq_eq_false_iff_ne]; have := HP.out q hlt; omega
      clear hxe
      go_wp2
      go_round
      case rel => exact ⟨q + 1, by omega, by go_num⟩
      case measure => first | (simp [intOf]; done) | (simp [intOf]; omega)
    · obtain rfl : q = k := by omega
      have hk' := hq
      have hnl : ¬ q < s.size := by omega
      go_upto_region 4 with fail
      rename_i hrest
      clear hk' hlt hq HP hnl
      obtain ⟨W_0, hW⟩ : ∃ W, W = w.alloc (Obj.cells #[Value.bool false, Value.slice none 0 0, Value.bool false, Value.slice none 0 0] 27) := ⟨_, rfl⟩
      have bb_0 : Below w.heap.size w W_0 := by rw [hW]; exact bal (Below.refl _ _) _
      have K0 : W_0.heap[w.heap.size]? = some (Obj.cells #[Value.bool false, Value.slice none 0 0, Value.bool false, Value.slice none 0 0] 27) := by rw [hW]; exact new_at (by simp)
      rw [← hW]
      have R_0 : Holds_ W_0 (w.heap.size) #[Value.bool false, Value.slice none 0 0, Value.bool false, Value.slice none 0 0] := ⟨⟨_, K0⟩, by simp [noDig]⟩
      clear hW K0
      obtain ⟨hks, hk1, hwh⟩ := HC.out
      refine name_frame (G := fun a => Code.wp _ _ _ a _) ?_
      intro a_0 ha
      have hN_0 : a_0.tmps.size = 64 := by subst ha; kernel_rfl
      have hD_0 : a_0.defers = [] := by subst ha; rfl
      have e0_0 : a_0.eval (.tmp 0) = .string s := by subst ha; kernel_rfl
      have e2_0 : a_0.eval (.tmp 2) = .pointer (some ⟨w.heap.size, 0, none⟩) := by subst ha; kernel_rfl
      have e4_0 : a_0.eval (.tmp 4) = .int .i64 ((q : Nat) : Int) := by subst ha; kernel_rfl
      clear ha
      repeat (first | refine wp_seq ?_ | (refine wp_skip ?_; refine then_n ?_))
      refine wp_region_law hN_0 w.heap.size
        [kIs (.string s), kIs (.int .i64 ((q : Nat) : Int)), kIs (.string (s.extract 0 q)), kZB 19 (zx) false, kZB 19 (zx) false, kZ 19 (zx), kIs (.bool false), PK.fresh 2, kPutZ 7 19 (zx), kIs (.bool false)]
        [ [], [], [(0, some 23), (1, some 24)], [(2, some 25)], [(3, some 26)], [(4, some 22)], [(4, some 22)], [], [(7, some 5), (5, some 27)], [(6, some 28)] ]
        [(0, some 23), (1, some 24), (2, some 25), (3, some 26), (4, some 22), (5, some 27), (6, some 28), (7, some 5), (8, none), (9, some 6)] [] [] (by kernel_rfl) (by kernel_rfl) (by kernel_rfl) (by kernel_rfl) (by kernel_rfl) (by kernel_rfl) (by kernel_rfl) bb_0.size ?_ ?_
      ·
        refine pk_cons rfl rfl (st_pure [] [(0, .string s)] (.string s) rfl hN_0 (by kernel_rfl) (by kernel_rfl) (by kernel_rfl) (old1 e0_0) (by kernel_rfl) (by kernel_rfl) (by kernel_rfl) (fun _ => by kernel_rfl)) ?_
        refine pk_cons rfl rfl (st_pure [] [(4, .int .i64 ((q : Nat) : Int))] (.int .i64 ((q : Nat) : Int)) rfl hN_0 (by kernel_rfl) (by kernel_rfl) (by kernel_rfl) (old1 e4_0) (by kernel_rfl) (by kernel_rfl) (by kernel_rfl) (fun _ => by kernel_rfl)) ?_
        refine pk_cons rfl rfl (st_pure [.string s, .int .i64 ((q : Nat) : Int)] [] (.string (s.extract 0 q)) rfl hN_0 (by kernel_rfl) (by kernel_rfl) (by kernel_rfl) old0 (by kernel_rfl) (by kernel_rfl) (by kernel_rfl) (fun _ => ex_slLo (by kernel_rfl) (by kernel_rfl) hks)) ?_
        refine pk_cons rfl rfl (st_call1 hN_0 (by kernel_rfl) (by kernel_rfl) (by kernel_rfl) rfl rfl fun w x v1 hC h1 => called_at h1 (HA.out _)) ?_
        refine pk_cons rfl rfl (st_move hN_0 (by kernel_rfl) (by kernel_rfl) rfl rfl) ?_
        refine pk_cons rfl rfl (st_ext hN_0 (by kernel_rfl) (by kernel_rfl) rfl rfl ext_z) ?_
        refine pk_cons rfl rfl (st_ext hN_0 (by kernel_rfl) (by kernel_rfl) rfl rfl ext_ok) ?_
        refine pk_cons rfl rfl (st_alloc hN_0 (by kernel_rfl) (Nat.le_refl _) rfl) ?_
        refine pk_cons rfl rfl (st_put hN_0 (by kernel_rfl) (by kernel_rfl) (by kernel_rfl) rfl rfl rfl) ?_
        refine pk_cons rfl rfl (st_pure [.bool false] [] (.bool false) rfl hN_0 (by kernel_rfl) (by kernel_rfl) (by kernel_rfl) old0 (by kernel_rfl) (by kernel_rfl) (by kernel_rfl) (fun _ => by kernel_rfl)) ?_
        exact pk_nil rfl
      intro W_1 x_ hC hall
      refine then_n ?_
      obtain ⟨a_1, ha⟩ : ∃ a, a = putE x_ a_0 [(0, some 23), (1, some 24), (2, some 25), (3, some 26), (4, some 22), (5, some 27), (6, some 28), (7, some 5), (8, none), (9, some 6)] := ⟨_, rfl⟩
      rw [← ha]
      have hN_1 := size_behind ha hN_0
      have hD_1 := defers_behind ha hD_0
      have bb_1 := bb_0.trans hC.below
      have e0_1 := slot_old ha (by kernel_rfl) e0_0
      have e2_1 := slot_old ha (by kernel_rfl) e2_0
      have e4_1 := slot_old ha (by kernel_rfl) e4_0
      have R_1 := hC.holds R_0
      obtain ⟨g5, hx, hge, l5_1⟩ := put_locG (show (kPutZ 7 19 (zx)).sem _ _ _ _ from hall 8 (of_decide_eq_true (by kernel_rfl)))
      have d5 := Nat.lt_of_lt_of_le R_0.lt hge
      clear hge
      have e5_1 := (slot_new (t := 5) (i := 7) ha hN_0 (by kernel_rfl) (by kernel_rfl)).trans hx
      clear hx
      have e6_1 := (slot_new (t := 6) (i := 9) ha hN_0 (by kernel_rfl) (by kernel_rfl)).trans (show x_ 9 = .bool false from hall 9 (of_decide_eq_true (by kernel_rfl)))
      clear hall hC ha bb_0 hD_0 e0_0 e2_0 e4_0 R_0
      have q5_1 := l5_1.atR
      clear l5_1
      refine hrest _ _ ?_
      repeat (first | refine wp_seq ?_ | (refine wp_skip ?_; refine then_n ?_))
      refine wp_region_law hN_1 w.heap.size
        [kIs (.bool false), kIs (.bool true)]
        [ [], [(0, some 29)] ]
        [(0, some 29), (1, some 30)] [] [] (by kernel_rfl) (by kernel_rfl) (by kernel_rfl) (by kernel_rfl) (by kernel_rfl) (by kernel_rfl) (by kernel_rfl) bb_1.size ?_ ?_
      ·
        refine pk_cons rfl rfl (st_pure [] [(6, .bool false)] (.bool false) rfl hN_1 (by kernel_rfl) (by kernel_rfl) (by kernel_rfl) (old1 e6_1) (by kernel_rfl) (by kernel_rfl) (by kernel_rfl) (fun _ => by kernel_rfl)) ?_
        refine pk_cons rfl rfl (st_pure [.bool false] [] (.bool true) rfl hN_1 (by kernel_rfl) (by kernel_rfl) (by kernel_rfl) old0 (by kernel_rfl) (by kernel_rfl) (by kernel_rfl) (fun _ => by kernel_rfl)) ?_
        exact pk_nil rfl
      intro W_2 x_ hC hall
      refine then_n ?_
      obtain ⟨a_2, ha⟩ : ∃ a, a = putE x_ a_1 [(0, some 29), (1, some 30)] := ⟨_, rfl⟩
      rw [← ha]
      have hN_2 := size_behind ha hN_1
      have hD_2 := defers_behind ha hD_1
      have bb_2 := bb_1.trans hC.below
      have e0_2 := slot_old ha (by kernel_rfl) e0_1
      have e2_2 := slot_old ha (by kernel_rfl) e2_1
      have e4_2 := slot_old ha (by kernel_rfl) e4_1
      have e5_2 := slot_old ha (by kernel_rfl) e5_1
      have e6_2 := slot_old ha (by kernel_rfl) e6_1
      have R_2 := hC.holds R_1
      have q5_2 := hC.at0 q5_1
      have e30_2 := (slot_new (t := 30) (i := 1) ha hN_1 (by kernel_rfl) (by kernel_rfl)).trans (show x_ 1 = .bool true from hall 1 (of_decide_eq_true (by kernel_rfl)))
      clear hall hC ha bb_1 hD_1 e0_1 e2_1 e4_1 e5_1 e6_1 R_1 q5_1
      refine wp_cond_true e30_2 ?_
      repeat (first | refine wp_seq ?_ | (refine wp_skip ?_; refine then_n ?_))
      refine wp_region_res hN_2 w.heap.size (w.heap.size) R_2 (by omega)
        [kP 1 (0) (1), kRes (w.heap.size) 1 (0) (1), kIs (.bool false)]
        [ [], [(0, some 31)], [] ]
        [(0, some 31), (1, none), (2, some 3)] [] [] (by kernel_rfl) (by kernel_rfl) (by kernel_rfl) (by kernel_rfl) (by kernel_rfl) (by kernel_rfl) (by kernel_rfl) bb_2.size ?_ ?_
      ·
        refine pk_cons rfl rfl (st_call0 [] hN_2 (by kernel_rfl) (by kernel_rfl) rfl rfl fun w x hC => tp ref_nought) ?_
        refine pk_cons rfl rfl (st_resP R_2 rfl (by simp) e2_2 hN_2 (by kernel_rfl) (by kernel_rfl) rfl rfl) ?_
        refine pk_cons rfl rfl (st_pure [] [] (.bool false) rfl hN_2 (by kernel_rfl) (by kernel_rfl) (by kernel_rfl) old0 (by kernel_rfl) (by kernel_rfl) (by kernel_rfl) (fun _ => by kernel_rfl)) ?_
        exact pk_nil rfl
      intro W x_ hC hall
      refine then_n ?_
      obtain ⟨a1, ha⟩ : ∃ a, a = putE x_ a_2 [(0, some 31), (1, none), (2, some 3)] := ⟨_, rfl⟩
      rw [← ha]
      have hD1 := defers_behind ha hD_2
      have bb1 := bb_2.trans hC.below
      obtain ⟨cs, hg, hP⟩ := (show (kRes (w.heap.size) 1 (0) (1)).sem _ _ _ _ from hall 1 (of_decide_eq_true (by kernel_rfl)))
      have e1 := slot_old (t := 2) ha (by kernel_rfl) e2_2
      have e2 := (slot_new (t := 3) (i := 2) ha hN_2 (by kernel_rfl) (by kernel_rfl)).trans (show x_ 2 = .bool false from hall 2 (of_decide_eq_true (by kernel_rfl)))
      repeat (first | refine wp_seq ?_ | (refine wp_skip ?_; refine then_n ?_))
      refine wp_ret ?_
      repeat (refine then_r ?_)
      exact ret_cellP2 (t := 2) (u := 3) rfl hD1 e1 e2 hg hP fun v hv => ⟨v, rfl, hv, bb1⟩
set_option maxRecDepth 100000 in
set_option maxHeartbeats 8000000 in
theorem refParse_cut_noA {w : World} {s : ByteArray} {k : Nat} (hs : s.size ≤ 100) (hk : k < s.size) (h1 : ∀ j, j < k → (bt s).getD j 0 ≠ 47) (h2 : (bt s).getD k 0 = 47) {zx : Int} (HA : Hid (∀ (W : World) {S0 : Nat} {x_ : Nat → Value}, Calls Tryz.prog 27 #[.string (s.extract 0 k)] W (Told (kZB 19 (zx) false) S0 x_ W))) :
    Calls Tryz.prog 8 #[.string s] w fun e w' => ∃ v, e = .returned (.tuple #[v, .bool false]) ∧ Pr w' v 1 (0) (1) ∧ Below w.heap.size w w' := by
  have HP := Lib.hid (show (∀ j, j < k → (bt s).getD j 0 ≠ 47) ∧ (bt s).getD k 0 = 47 from ⟨h1, h2⟩)
  have hks : k ≤ s.size := by omega
  have hk1 : k ≤ 100 := by omega
  have hkl : k + 1 ≤ s.size := by omega
  have hwh : ((k : Int) == (s.size : Int)) = false := by rw [beq_eq_false_iff_ne]; omega
  have HC := Lib.hid (show k ≤ s.size ∧ k ≤ 100 ∧ ((k : Int) == (s.size : Int)) = false ∧ k + 1 ≤ s.size from ⟨hks, hk1, hwh, hkl⟩)
  clear h1 h2 hk1 hwh hkl
  go_enter Tryz.func8, Tryz.ntmps8
  go_wp2_with fail
  go_loop [4] (fun i => ∃ q : Nat, q ≤ k ∧ i = .int .i64 q) (fun i => k - (intOf i).toNat)
  case atStart => exact ⟨0, Nat.zero_le _, rfl⟩
  case round =>
    obtain ⟨q, hq, rfl⟩ := hrel
    by_cases hlt : q < k
    · have hqs : q < s.size := by omega
      have hx := bt_at s q hqs
      obtain ⟨x, hxe⟩ : ∃ x, x = (bt s).getD q 0 := ⟨_, rfl⟩
      rw [← hxe] at hx
      have h47 : ((x : Int) == 47) = false := by rw [beq_eq_false_iff_ne]; have := HP.out.1 q hlt; omega
      clear hxe
      go_wp2
      go_round
      case rel => exact ⟨q + 1, by omega, by go_num⟩
      case measure => first | (simp [intOf]; done) | (simp [intOf]; omega)
    · obtain rfl : q = k := by omega
      have hk' := hq
      have he : q < s.size := hk
      have hx := bt_at s q he
      rw [HP.out.2] at hx
      go_upto_region 4 with fail
      rename_i hrest
      clear hk' hlt hq HP he hx
      obtain ⟨W_0, hW⟩ : ∃ W, W = w.alloc (Obj.cells #[Value.bool false, Value.slice none 0 0, Value.bool false, Value.slice none 0 0] 27) := ⟨_, rfl⟩
      have bb_0 : Below w.heap.size w W_0 := by rw [hW]; exact bal (Below.refl _ _) _
      have K0 : W_0.heap[w.heap.size]? = some (Obj.cells #[Value.bool false, Value.slice none 0 0, Value.bool false, Value.slice none 0 0] 27) := by rw [hW]; exact new_at (by simp)
      rw [← hW]
      have R_0 : Holds_ W_0 (w.heap.size) #[Value.bool false, Value.slice none 0 0, Value.bool false, Value.slice none 0 0] := ⟨⟨_, K0⟩, by simp [noDig]⟩
      clear hW K0
      obtain ⟨hks, hk1, hwh, hkl⟩ := HC.out
      refine name_frame (G := fun a => Code.wp _ _ _ a _) ?_
      intro a_0 ha
      have hN_0 : a_0.tmps.size = 64 := by subst ha; kernel_rfl
      have hD_0 : a_0.defers = [] := by subst ha; rfl
      have e0_0 : a_0.eval (.tmp 0) = .string s := by subst ha; kernel_rfl
      have e2_0 : a_0.eval (.tmp 2) = .pointer (some ⟨w.heap.size, 0, none⟩) := by subst ha; kernel_rfl
      have e4_0 : a_0.eval (.tmp 4) = .int .i64 ((q : Nat) : Int) := by subst ha; kernel_rfl
      clear ha
      repeat (first | refine wp_seq ?_ | (refine wp_skip ?_; refine then_n ?_))
      refine wp_region_law hN_0 w.heap.size
        [kIs (.string s), kIs (.int .i64 ((q : Nat) : Int)), kIs (.string (s.extract 0 q)), kZB 19 (zx) false, kZB 19 (zx) false, kZ 19 (zx), kIs (.bool false), PK.fresh 2, kPutZ 7 19 (zx), kIs (.bool false)]
        [ [], [], [(0, some 23), (1, some 24)], [(2, some 25)], [(3, some 26)], [(4, some 22)], [(4, some 22)], [], [(7, some 5), (5, some 27)], [(6, some 28)] ]
        [(0, some 23), (1, some 24), (2, some 25), (3, some 26), (4, some 22), (5, some 27), (6, some 28), (7, some 5), (8, none), (9, some 6)] [] [] (by kernel_rfl) (by kernel_rfl) (by kernel_rfl) (by kernel_rfl) (by kernel_rfl) (by kernel_rfl) (by kernel_rfl) bb_0.size ?_ ?_
      ·
        refine pk_cons rfl rfl (st_pure [] [(0, .string s)] (.string s) rfl hN_0 (by kernel_rfl) (by kernel_rfl) (by kernel_rfl) (old1 e0_0) (by kernel_rfl) (by kernel_rfl) (by kernel_rfl) (fun _ => by kernel_rfl)) ?_
        refine pk_cons rfl rfl (st_pure [] [(4, .int .i64 ((q : Nat) : Int))] (.int .i64 ((q : Nat) : Int)) rfl hN_0 (by kernel_rfl) (by kernel_rfl) (by kernel_rfl) (old1 e4_0) (by kernel_rfl) (by kernel_rfl) (by kernel_rfl) (fun _ => by kernel_rfl)) ?_
        refine pk_cons rfl rfl (st_pure [.string s, .int .i64 ((q : Nat) : Int)] [] (.string (s.extract 0 q)) rfl hN_0 (by kernel_rfl) (by kernel_rfl) (by kernel_rfl) old0 (by kernel_rfl) (by kernel_rfl) (by kernel_rfl) (fun _ => ex_slLo (by kernel_rfl) (by kernel_rfl) hks)) ?_
        refine pk_cons rfl rfl (st_call1 hN_0 (by kernel_rfl) (by kernel_rfl) (by kernel_rfl) rfl rfl fun w x v1 hC h1 => called_at h1 (HA.out _)) ?_
        refine pk_cons rfl rfl (st_move hN_0 (by kernel_rfl) (by kernel_rfl) rfl rfl) ?_
        refine pk_cons rfl rfl (st_ext hN_0 (by kernel_rfl) (by kernel_rfl) rfl rfl ext_z) ?_
        refine pk_cons rfl rfl (st_ext hN_0 (by kernel_rfl) (by kernel_rfl) rfl rfl ext_ok) ?_
        refine pk_cons rfl rfl (st_alloc hN_0 (by kernel_rfl) (Nat.le_refl _) rfl) ?_
        refine pk_cons rfl rfl (st_put hN_0 (by kernel_rfl) (by kernel_rfl) (by kernel_rfl) rfl rfl rfl) ?_
        refine pk_cons rfl rfl (st_pure [.bool false] [] (.bool false) rfl hN_0 (by kernel_rfl) (by kernel_rfl) (by kernel_rfl) old0 (by kernel_rfl) (by kernel_rfl) (by kernel_rfl) (fun _ => by kernel_rfl)) ?_
        exact pk_nil rfl
      intro W_1 x_ hC hall
      refine then_n ?_
      obtain ⟨a_1, ha⟩ : ∃ a, a = putE x_ a_0 [(0, some 23), (1, some 24), (2, some 25), (3, some 26), (4, some 22), (5, some 27), (6, some 28), (7, some 5), (8, none), (9, some 6)] := ⟨_, rfl⟩
      rw [← ha]
      have hN_1 := size_behind ha hN_0
      have hD_1 := defers_behind ha hD_0
      have bb_1 := bb_0.trans hC.below
      have e0_1 := slot_old ha (by kernel_rfl) e0_0
      have e2_1 := slot_old ha (by kernel_rfl) e2_0
      have e4_1 := slot_old ha (by kernel_rfl) e4_0
      have R_1 := hC.holds R_0
      obtain ⟨g5, hx, hge, l5_1⟩ := put_locG (show (kPutZ 7 19 (zx)).sem _ _ _ _ from hall 8 (of_decide_eq_true (by kernel_rfl)))
      have d5 := Nat.lt_of_lt_of_le R_0.lt hge
      clear hge
      have e5_1 := (slot_new (t := 5) (i := 7) ha hN_0 (by kernel_rfl) (by kernel_rfl)).trans hx
      clear hx
      have e6_1 := (slot_new (t := 6) (i := 9) ha hN_0 (by kernel_rfl) (by kernel_rfl)).trans (show x_ 9 = .bool false from hall 9 (of_decide_eq_true (by kernel_rfl)))
      clear hall hC ha bb_0 hD_0 e0_0 e2_0 e4_0 R_0
      have q5_1 := l5_1.atR
      clear l5_1
      refine hrest _ _ ?_
      repeat (first | refine wp_seq ?_ | (refine wp_skip ?_; refine then_n ?_))
      refine wp_region_law hN_1 w.heap.size
        [kIs (.bool false), kIs (.bool true)]
        [ [], [(0, some 29)] ]
        [(0, some 29), (1, some 30)] [] [] (by kernel_rfl) (by kernel_rfl) (by kernel_rfl) (by kernel_rfl) (by kernel_rfl) (by kernel_rfl) (by kernel_rfl) bb_1.size ?_ ?_
      ·
        refine pk_cons rfl rfl (st_pure [] [(6, .bool false)] (.bool false) rfl hN_1 (by kernel_rfl) (by kernel_rfl) (by kernel_rfl) (old1 e6_1) (by kernel_rfl) (by kernel_rfl) (by kernel_rfl) (fun _ => by kernel_rfl)) ?_
        refine pk_cons rfl rfl (st_pure [.bool false] [] (.bool true) rfl hN_1 (by kernel_rfl) (by kernel_rfl) (by kernel_rfl) old0 (by kernel_rfl) (by kernel_rfl) (by kernel_rfl) (fun _ => by kernel_rfl)) ?_
        exact pk_nil rfl
      intro W_2 x_ hC hall
      refine then_n ?_
      obtain ⟨a_2, ha⟩ : ∃ a, a = putE x_ a_1 [(0, some 29), (1, some 30)] := ⟨_, rfl⟩
      rw [← ha]
      have hN_2 := size_behind ha hN_1
      have hD_2 := defers_behind ha hD_1
      have bb_2 := bb_1.trans hC.below
      have e0_2 := slot_old ha (by kernel_rfl) e0_1
      have e2_2 := slot_old ha (by kernel_rfl) e2_1
      have e4_2 := slot_old ha (by kernel_rfl) e4_1
      have e5_2 := slot_old ha (by kernel_rfl) e5_1
      have e6_2 := slot_old ha (by kernel_rfl) e6_1
      have R_2 := hC.holds R_1
      have q5_2 := hC.at0 q5_1
      have e30_2 := (slot_new (t := 30) (i := 1) ha hN_1 (by kernel_rfl) (by kernel_rfl)).trans (show x_ 1 = .bool true from hall 1 (of_decide_eq_true (by kernel_rfl)))
      clear hall hC ha bb_1 hD_1 e0_1 e2_1 e4_1 e5_1 e6_1 R_1 q5_1
      refine wp_cond_true e30_2 ?_
      repeat (first | refine wp_seq ?_ | (refine wp_skip ?_; refine then_n ?_))
      refine wp_region_res hN_2 w.heap.size (w.heap.size) R_2 (by omega)
        [kP 1 (0) (1), kRes (w.heap.size) 1 (0) (1), kIs (.bool false)]
        [ [], [(0, some 31)], [] ]
        [(0, some 31), (1, none), (2, some 3)] [] [] (by kernel_rfl) (by kernel_rfl) (by kernel_rfl) (by kernel_rfl) (by kernel_rfl) (by kernel_rfl) (by kernel_rfl) bb_2.size ?_ ?_
      ·
        refine pk_cons rfl rfl (st_call0 [] hN_2 (by kernel_rfl) (by kernel_rfl) rfl rfl fun w x hC => tp ref_nought) ?_
        refine pk_cons rfl rfl (st_resP R_2 rfl (by simp) e2_2 hN_2 (by kernel_rfl) (by kernel_rfl) rfl rfl) ?_
        refine pk_cons rfl rfl (st_pure [] [] (.bool false) rfl hN_2 (by kernel_rfl) (by kernel_rfl) (by kernel_rfl) old0 (by kernel_rfl) (by kernel_rfl) (by kernel_rfl) (fun _ => by kernel_rfl)) ?_
        exact pk_nil rfl
      intro W x_ hC hall
      refine then_n ?_
      obtain ⟨a1, ha⟩ : ∃ a, a = putE x_ a_2 [(0, some 31), (1, none), (2, some 3)] := ⟨_, rfl⟩
      rw [← ha]
      have hD1 := defers_behind ha hD_2
      have bb1 := bb_2.trans hC.below
      obtain ⟨cs, hg, hP⟩ := (show (kRes (w.heap.size) 1 (0) (1)).sem _ _ _ _ from hall 1 (of_decide_eq_true (by kernel_rfl)))
      have e1 := slot_old (t := 2) ha (by kernel_rfl) e2_2
      have e2 := (slot_new (t := 3) (i := 2) ha hN_2 (by kernel_rfl) (by kernel_rfl)).trans (show x_ 2 = .bool false from hall 2 (of_decide_eq_true (by kernel_rfl)))
      repeat (first | refine wp_seq ?_ | (refine wp_skip ?_; refine then_n ?_))
      refine wp_ret ?_
      repeat (refine then_r ?_)
      exact ret_cellP2 (t := 2) (u := 3) rfl hD1 e1 e2 hg hP fun v hv => ⟨v, rfl, hv, bb1⟩
set_option maxRecDepth 100000 in
set_option maxHeartbeats 8000000 in
theorem refParse_cut_noB {w : World} {s : ByteArray} {k : Nat} (hs : s.size ≤ 100) (hk : k < s.size) (h1 : ∀ j, j < k → (bt s).getD j 0 ≠ 47) (h2 : (bt s).getD k 0 = 47) {zx zy : Int} (HA : Hid (∀ (W : World) {S0 : Nat} {x_ : Nat → Value}, Calls Tryz.prog 27 #[.string (s.extract 0 k)] W (Told (kZB 19 (zx) true) S0 x_ W))) (HB : Hid (∀ (W : World) {S0 : Nat} {x_ : Nat → Value}, Calls Tryz.prog 27 #[.string (s.extract (k + 1) s.size)] W (Told (kZB 19 (zy) false) S0 x_ W))) :
    Calls Tryz.prog 8 #[.string s] w fun e w' => ∃ v, e = .returned (.tuple #[v, .bool false]) ∧ Pr w' v 1 (0) (1) ∧ Below w.heap.size w w' := by
  have HP := Lib.hid (show (∀ j, j < k → (bt s).getD j 0 ≠ 47) ∧ (bt s).getD k 0 = 47 from ⟨h1, h2⟩)
  have hks : k ≤ s.size := by omega
  have hk1 : k ≤ 100 := by omega
  have hkl : k + 1 ≤ s.size := by omega
  have hwh : ((k : Int) == (s.size : Int)) = false := by rw [beq_eq_false_iff_ne]; omega
  have HC := Lib.hid (show k ≤ s.size ∧ k ≤ 100 ∧ ((k : Int) == (s.size : Int)) = false ∧ k + 1 ≤ s.size from ⟨hks, hk1, hwh, hkl⟩)
  clear h1 h2 hk1 hwh hkl
  go_enter Tryz.func8, Tryz.ntmps8
  go_wp2_with fail
  go_loop [4] (fun i => ∃ q : Nat, q ≤ k ∧ i = .int .i64 q) (fun i => k - (intOf i).toNat)
  case atStart => exact ⟨0, Nat.zero_le _, rfl⟩
  case round =>
    obtain ⟨q, hq, rfl⟩ := hrel
    by_cases hlt : q < k
    · have hqs : q < s.size := by omega
      have hx := bt_at s q hqs
      obtain ⟨x, hxe⟩ : ∃ x, x = (bt s).getD q 0 := ⟨_, rfl⟩
      rw [← hxe] at hx
      have h47 : ((x : Int) == 47) = false := by rw [beq_eq_false_iff_ne]; have := HP.out.1 q hlt; omega
      clear hxe
      go_wp2
      go_round
      case rel => exact ⟨q + 1, by omega, by go_num⟩
      case measure => first | (simp [intOf]; done) | (simp [intOf]; omega)
    · obtain rfl : q = k := by omega
      have hk' := hq
      have he : q < s.size := hk
      have hx := bt_at s q he
      rw [HP.out.2] at hx
      go_upto_region 4 with fail
      rename_i hrest
      clear hk' hlt hq HP he hx
      obtain ⟨W_0, hW⟩ : ∃ W, W = w.alloc (Obj.cells #[Value.bool false, Value.slice none 0 0, Value.bool false, Value.slice none 0 0] 27) := ⟨_, rfl⟩
      have bb_0 : Below w.heap.size w W_0 := by rw [hW]; exact bal (Below.refl _ _) _
      have K0 : W_0.heap[w.heap.size]? = some (Obj.cells #[Value.bool false, Value.slice none 0 0, Value.bool false, Value.slice none 0 0] 27) := by rw [hW]; exact new_at (by simp)
      rw [← hW]
      have R_0 : Holds_ W_0 (w.heap.size) #[Value.bool false, Value.slice none 0 0, Value.bool false, Value.slice none 0 0] := ⟨⟨_, K0⟩, by simp [noDig]⟩
      clear hW K0
      obtain ⟨hks, hk1, hwh, hkl⟩ := HC.out
      refine name_frame (G := fun a => Code.wp _ _ _ a _) ?_
      intro a_0 ha
      have hN_0 : a_0.tmps.size = 64 := by subst ha; kernel_rfl
      have hD_0 : a_0.defers = [] := by subst ha; rfl
      have e0_0 : a_0.eval (.tmp 0) = .string s := by subst ha; kernel_rfl
      have e2_0 : a_0.eval (.tmp 2) = .pointer (some ⟨w.heap.size, 0, none⟩) := by subst ha; kernel_rfl
      have e4_0 : a_0.eval (.tmp 4) = .int .i64 ((q : Nat) : Int) := by subst ha; kernel_rfl
      clear ha
      repeat (first | refine wp_seq ?_ | (refine wp_skip ?_; refine then_n ?_))
      refine wp_region_law hN_0 w.heap.size
        [kIs (.string s), kIs (.int .i64 ((q : Nat) : Int)), kIs (.string (s.extract 0 q)), kZB 19 (zx) true, kZB 19 (zx) true, kZ 19 (zx), kIs (.bool true), PK.fresh 2, kPutZ 7 19 (zx), kIs (.bool true)]
        [ [], [], [(0, some 23), (1, some 24)], [(2, some 25)], [(3, some 26)], [(4, some 22)], [(4, some 22)], [], [(7, some 5), (5, some 27)], [(6, some 28)] ]
        [(0, some 23), (1, some 24), (2, some 25), (3, some 26), (4, some 22), (5, some 27), (6, some 28), (7, some 5), (8, none), (9, some 6)] [] [] (by kernel_rfl) (by kernel_rfl) (by kernel_rfl) (by kernel_rfl) (by kernel_rfl) (by kernel_rfl) (by kernel_rfl) bb_0.size ?_ ?_
      ·
        refine pk_cons rfl rfl (st_pure [] [(0, .string s)] (.string s) rfl hN_0 (by kernel_rfl) (by kernel_rfl) (by kernel_rfl) (old1 e0_0) (by kernel_rfl) (by kernel_rfl) (by kernel_rfl) (fun _ => by kernel_rfl)) ?_
        refine pk_cons rfl rfl (st_pure [] [(4, .int .i64 ((q : Nat) : Int))] (.int .i64 ((q : Nat) : Int)) rfl hN_0 (by kernel_rfl) (by kernel_rfl) (by kernel_rfl) (old1 e4_0) (by kernel_rfl) (by kernel_rfl) (by kernel_rfl) (fun _ => by kernel_rfl)) ?_
        refine pk_cons rfl rfl (st_pure [.string s, .int .i64 ((q : Nat) : Int)] [] (.string (s.extract 0 q)) rfl hN_0 (by kernel_rfl) (by kernel_rfl) (by kernel_rfl) old0 (by kernel_rfl) (by kernel_rfl) (by kernel_rfl) (fun _ => ex_slLo (by kernel_rfl) (by kernel_rfl) hks)) ?_
        refine pk_cons rfl rfl (st_call1 hN_0 (by kernel_rfl) (by kernel_rfl) (by kernel_rfl) rfl rfl fun w x v1 hC h1 => called_at h1 (HA.out _)) ?_
        refine pk_cons rfl rfl (st_move hN_0 (by kernel_rfl) (by kernel_rfl) rfl rfl) ?_
        refine pk_cons rfl rfl (st_ext hN_0 (by kernel_rfl) (by kernel_rfl) rfl rfl ext_z) ?_
        refine pk_cons rfl rfl (st_ext hN_0 (by kernel_rfl) (by kernel_rfl) rfl rfl ext_ok) ?_
        refine pk_cons rfl rfl (st_alloc hN_0 (by kernel_rfl) (Nat.le_refl _) rfl) ?_
        refine pk_cons rfl rfl (st_put hN_0 (by kernel_rfl) (by kernel_rfl) (by kernel_rfl) rfl rfl rfl) ?_
        refine pk_cons rfl rfl (st_pure [.bool true] [] (.bool true) rfl hN_0 (by kernel_rfl) (by kernel_rfl) (by kernel_rfl) old0 (by kernel_rfl) (by kernel_rfl) (by kernel_rfl) (fun _ => by kernel_rfl)) ?_
        exact pk_nil rfl
      intro W_1 x_ hC hall
      refine then_n ?_
      obtain ⟨a_1, ha⟩ : ∃ a, a = putE x_ a_0 [(0, some 23), (1, some 24), (2, some 25), (3, some 26), (4, some 22), (5, some 27), (6, some 28), (7, some 5), (8, none), (9, some 6)] := ⟨_, rfl⟩
      rw [← ha]
      have hN_1 := size_behind ha hN_0
      have hD_1 := defers_behind ha hD_0
      have bb_1 := bb_0.trans hC.below
      have e0_1 := slot_old ha (by kernel_rfl) e0_0
      have e2_1 := slot_old ha (by kernel_rfl) e2_0
      have e4_1 := slot_old ha (by kernel_rfl) e4_0
      have R_1 := hC.holds R_0
      obtain ⟨g5, hx, hge, l5_1⟩ := put_locG (show (kPutZ 7 19 (zx)).sem _ _ _ _ from hall 8 (of_decide_eq_true (by kernel_rfl)))
      have d5 := Nat.lt_of_lt_of_le R_0.lt hge
      clear hge
      have e5_1 := (slot_new (t := 5) (i := 7) ha hN_0 (by kernel_rfl) (by kernel_rfl)).trans hx
      clear hx
      have e6_1 := (slot_new (t := 6) (i := 9) ha hN_0 (by kernel_rfl) (by kernel_rfl)).trans (show x_ 9 = .bool true from hall 9 (of_decide_eq_true (by kernel_rfl)))
      clear hall hC ha bb_0 hD_0 e0_0 e2_0 e4_0 R_0
      have q5_1 := l5_1.atR
      clear l5_1
      refine hrest _ _ ?_
      repeat (first | refine wp_seq ?_ | (refine wp_skip ?_; refine then_n ?_))
      refine wp_region_law hN_1 w.heap.size
        [kIs (.bool true), kIs (.bool false)]
        [ [], [(0, some 29)] ]
        [(0, some 29), (1, some 30)] [] [] (by kernel_rfl) (by kernel_rfl) (by kernel_rfl) (by kernel_rfl) (by kernel_rfl) (by kernel_rfl) (by kernel_rfl) bb_1.size ?_ ?_
      ·
        refine pk_cons rfl rfl (st_pure [] [(6, .bool true)] (.bool true) rfl hN_1 (by kernel_rfl) (by kernel_rfl) (by kernel_rfl) (old1 e6_1) (by kernel_rfl) (by kernel_rfl) (by kernel_rfl) (fun _ => by kernel_rfl)) ?_
        refine pk_cons rfl rfl (st_pure [.bool true] [] (.bool false) rfl hN_1 (by kernel_rfl) (by kernel_rfl) (by kernel_rfl) old0 (by kernel_rfl) (by kernel_rfl) (by kernel_rfl) (fun _ => by kernel_rfl)) ?_
        exact pk_nil rfl
      intro W_2 x_ hC hall
      refine then_n ?_
      obtain ⟨a_2, ha⟩ : ∃ a, a = putE x_ a_1 [(0, some 29), (1, some 30)] := ⟨_, rfl⟩
      rw [← ha]
      have hN_2 := size_behind ha hN_1
      have hD_2 := defers_behind ha hD_1
      have bb_2 := bb_1.trans hC.below
      have e0_2 := slot_old ha (by kernel_rfl) e0_1
      have e2_2 := slot_old ha (by kernel_rfl) e2_1
      have e4_2 := slot_old ha (by kernel_rfl) e4_1
      have e5_2 := slot_old ha (by kernel_rfl) e5_1
      have e6_2 := slot_old ha (by kernel_rfl) e6_1
      have R_2 := hC.holds R_1
      have q5_2 := hC.at0 q5_1
      have e30_2 := (slot_new (t := 30) (i := 1) ha hN_1 (by kernel_rfl) (by kernel_rfl)).trans (show x_ 1 = .bool false from hall 1 (of_decide_eq_true (by kernel_rfl)))
      clear hall hC ha bb_1 hD_1 e0_1 e2_1 e4_1 e5_1 e6_1 R_1 q5_1
      refine wp_cond_false e30_2 ?_
      repeat (first | refine wp_seq ?_ | (refine wp_skip ?_; refine then_n ?_))
      refine wp_region_law hN_2 w.heap.size
        [kIs (.int .i64 ((q : Nat) : Int)), kIs (.string s), kIs (.int .i64 (s.size : Int)), kIs (.bool false)]
        [ [], [], [(1, some 33)], [(0, some 32), (2, some 34)] ]
        [(0, some 32), (1, some 33), (2, some 34), (3, some 35)] [] [] (by kernel_rfl) (by kernel_rfl) (by kernel_rfl) (by kernel_rfl) (by kernel_rfl) (by kernel_rfl) (by kernel_rfl) bb_2.size ?_ ?_
      ·
        refine pk_cons rfl rfl (st_pure [] [(4, .int .i64 ((q : Nat) : Int))] (.int .i64 ((q : Nat) : Int)) rfl hN_2 (by kernel_rfl) (by kernel_rfl) (by kernel_rfl) (old1 e4_2) (by kernel_rfl) (by kernel_rfl) (by kernel_rfl) (fun _ => by kernel_rfl)) ?_
        refine pk_cons rfl rfl (st_pure [] [(0, .string s)] (.string s) rfl hN_2 (by kernel_rfl) (by kernel_rfl) (by kernel_rfl) (old1 e0_2) (by kernel_rfl) (by kernel_rfl) (by kernel_rfl) (fun _ => by kernel_rfl)) ?_
        refine pk_cons rfl rfl (st_pure [.string s] [] (.int .i64 (s.size : Int)) rfl hN_2 (by kernel_rfl) (by kernel_rfl) (by kernel_rfl) old0 (by kernel_rfl) (by kernel_rfl) (by kernel_rfl) (fun _ => by kernel_rfl)) ?_
        refine pk_cons rfl rfl (st_pureV [.int .i64 ((q : Nat) : Int), .int .i64 (s.size : Int)] [] (.bool ((q : Int) == (s.size : Int))) (.bool false) (congrArg Value.bool hwh) rfl hN_2 (by kernel_rfl) (by kernel_rfl) (by kernel_rfl) old0 (by kernel_rfl) (by kernel_rfl) (by kernel_rfl) (fun _ => by kernel_rfl)) ?_
        exact pk_nil rfl
      intro W_3 x_ hC hall
      refine then_n ?_
      obtain ⟨a_3, ha⟩ : ∃ a, a = putE x_ a_2 [(0, some 32), (1, some 33), (2, some 34), (3, some 35)] := ⟨_, rfl⟩
      rw [← ha]
      have hN_3 := size_behind ha hN_2
      have hD_3 := defers_behind ha hD_2
      have bb_3 := bb_2.trans hC.below
      have e0_3 := slot_old ha (by kernel_rfl) e0_2
      have e2_3 := slot_old ha (by kernel_rfl) e2_2
      have e4_3 := slot_old ha (by kernel_rfl) e4_2
      have e5_3 := slot_old ha (by kernel_rfl) e5_2
      have e6_3 := slot_old ha (by kernel_rfl) e6_2
      have e30_3 := slot_old ha (by kernel_rfl) e30_2
      have R_3 := hC.holds R_2
      have q5_3 := hC.at0 q5_2
      have e35_3 := (slot_new (t := 35) (i := 3) ha hN_2 (by kernel_rfl) (by kernel_rfl)).trans (show x_ 3 = .bool false from hall 3 (of_decide_eq_true (by kernel_rfl)))
      clear hall hC ha bb_2 hD_2 e0_2 e2_2 e4_2 e5_2 e6_2 e30_2 R_2 q5_2
      refine wp_cond_false e35_3 ?_
      repeat (first | refine wp_seq ?_ | (refine wp_skip ?_; refine then_n ?_))
      refine wp_region_law hN_3 w.heap.size
        [kIs (.string s), kIs (.int .i64 ((q : Nat) : Int)), kIs (.int .i64 ((q : Int) + 1)), kIs (.string (s.extract (q + 1) s.size)), kZB 19 (zy) false, kZB 19 (zy) false, kZ 19 (zy), kIs (.bool false), PK.fresh 2, kPutZ 8 19 (zy), kIs (.bool false)]
        [ [], [], [(1, some 40)], [(0, some 39), (2, some 41)], [(3, some 42)], [(4, some 43)], [(5, some 38)], [(5, some 38)], [], [(8, some 7), (6, some 44)], [(7, some 45)] ]
        [(0, some 39), (1, some 40), (2, some 41), (3, some 42), (4, some 43), (5, some 38), (6, some 44), (7, some 45), (8, some 7), (9, none), (10, some 8)] [] [] (by kernel_rfl) (by kernel_rfl) (by kernel_rfl) (by kernel_rfl) (by kernel_rfl) (by kernel_rfl) (by kernel_rfl) bb_3.size ?_ ?_
      ·
        refine pk_cons rfl rfl (st_pure [] [(0, .string s)] (.string s) rfl hN_3 (by kernel_rfl) (by kernel_rfl) (by kernel_rfl) (old1 e0_3) (by kernel_rfl) (by kernel_rfl) (by kernel_rfl) (fun _ => by kernel_rfl)) ?_
        refine pk_cons rfl rfl (st_pure [] [(4, .int .i64 ((q : Nat) : Int))] (.int .i64 ((q : Nat) : Int)) rfl hN_3 (by kernel_rfl) (by kernel_rfl) (by kernel_rfl) (old1 e4_3) (by kernel_rfl) (by kernel_rfl) (by kernel_rfl) (fun _ => by kernel_rfl)) ?_
        refine pk_cons rfl rfl (st_pure [.int .i64 ((q : Nat) : Int)] [] (.int .i64 ((q : Int) + 1)) rfl hN_3 (by kernel_rfl) (by kernel_rfl) (by kernel_rfl) old0 (by kernel_rfl) (by kernel_rfl) (by kernel_rfl) (fun _ => ex_add1 (by kernel_rfl) (by kernel_rfl) hk1)) ?_
        refine pk_cons rfl rfl (st_pure [.string s, .int .i64 ((q : Int) + 1)] [] (.string (s.extract (q + 1) s.size)) rfl hN_3 (by kernel_rfl) (by kernel_rfl) (by kernel_rfl) old0 (by kernel_rfl) (by kernel_rfl) (by kernel_rfl) (fun _ => ex_slHi (by kernel_rfl) (by kernel_rfl) hkl)) ?_
        refine pk_cons rfl rfl (st_call1 hN_3 (by kernel_rfl) (by kernel_rfl) (by kernel_rfl) rfl rfl fun w x v1 hC h1 => called_at h1 (HB.out _)) ?_
        refine pk_cons rfl rfl (st_move hN_3 (by kernel_rfl) (by kernel_rfl) rfl rfl) ?_
        refine pk_cons rfl rfl (st_ext hN_3 (by kernel_rfl) (by kernel_rfl) rfl rfl ext_z) ?_
        refine pk_cons rfl rfl (st_ext hN_3 (by kernel_rfl) (by kernel_rfl) rfl rfl ext_ok) ?_
        refine pk_cons rfl rfl (st_alloc hN_3 (by kernel_rfl) (Nat.le_refl _) rfl) ?_
        refine pk_cons rfl rfl (st_put hN_3 (by kernel_rfl) (by kernel_rfl) (by kernel_rfl) rfl rfl rfl) ?_
        refine pk_cons rfl rfl (st_pure [.bool false] [] (.bool false) rfl hN_3 (by kernel_rfl) (by kernel_rfl) (by kernel_rfl) old0 (by kernel_rfl) (by kernel_rfl) (by kernel_rfl) (fun _ => by kernel_rfl)) ?_
        exact pk_nil rfl
      intro W_4 x_ hC hall
      refine then_n ?_
      obtain ⟨a_4, ha⟩ : ∃ a, a = putE x_ a_3 [(0, some 39), (1, some 40), (2, some 41), (3, some 42), (4, some 43), (5, some 38), (6, some 44), (7, some 45), (8, some 7), (9, none), (10, some 8)] := ⟨_, rfl⟩
      rw [← ha]
      have hN_4 := size_behind ha hN_3
      have hD_4 := defers_behind ha hD_3
      have bb_4 := bb_3.trans hC.below
      have e0_4 := slot_old ha (by kernel_rfl) e0_3
      have e2_4 := slot_old ha (by kernel_rfl) e2_3
      have e4_4 := slot_old ha (by kernel_rfl) e4_3
      have e5_4 := slot_old ha (by kernel_rfl) e5_3
      have e6_4 := slot_old ha (by kernel_rfl) e6_3
      have e30_4 := slot_old ha (by kernel_rfl) e30_3
      have e35_4 := slot_old ha (by kernel_rfl) e35_3
      have R_4 := hC.holds R_3
      have q5_4 := hC.at0 q5_3
      obtain ⟨g7, hx, hge, l7_4⟩ := put_locG (show (kPutZ 8 19 (zy)).sem _ _ _ _ from hall 9 (of_decide_eq_true (by kernel_rfl)))
      have d7 := Nat.lt_of_lt_of_le R_3.lt hge
      clear hge
      have e7_4 := (slot_new (t := 7) (i := 8) ha hN_3 (by kernel_rfl) (by kernel_rfl)).trans hx
      clear hx
      have e8_4 := (slot_new (t := 8) (i := 10) ha hN_3 (by kernel_rfl) (by kernel_rfl)).trans (show x_ 10 = .bool false from hall 10 (of_decide_eq_true (by kernel_rfl)))
      clear hall hC ha bb_3 hD_3 e0_3 e2_3 e4_3 e5_3 e6_3 e30_3 e35_3 R_3 q5_3
      have q7_4 := l7_4.atR
      clear l7_4
      repeat (first | refine wp_seq ?_ | (refine wp_skip ?_; refine then_n ?_))
      refine wp_region_law hN_4 w.heap.size
        [kZ 19 (zx), kZ 19 (zy), kP 19 (zx) (zy), PK.fresh 4, kPutP 3 19 (zx) (zy)]
        [ [], [], [(0, some 46), (1, some 47)], [], [(3, some 9), (2, some 48)] ]
        [(0, some 46), (1, some 47), (2, some 48), (3, some 9), (4, none)] [] [] (by kernel_rfl) (by kernel_rfl) (by kernel_rfl) (by kernel_rfl) (by kernel_rfl) (by kernel_rfl) (by kernel_rfl) bb_4.size ?_ ?_
      ·
        refine pk_cons rfl rfl (st_loadB q5_4 (by simp) e5_4 hN_4 (by kernel_rfl) rfl) ?_
        refine pk_cons rfl rfl (st_loadB q7_4 (by simp) e7_4 hN_4 (by kernel_rfl) rfl) ?_
        refine pk_cons rfl rfl (st_buildP (k := 19) hN_4 (by kernel_rfl) (by kernel_rfl) (by kernel_rfl) (by kernel_rfl) (by kernel_rfl) (by kernel_rfl) rfl rfl rfl) ?_
        refine pk_cons rfl rfl (st_allocP hN_4 (by kernel_rfl) (Nat.le_refl _) rfl) ?_
        refine pk_cons rfl rfl (st_putP hN_4 (by kernel_rfl) (by kernel_rfl) (by kernel_rfl) rfl rfl rfl) ?_
        exact pk_nil rfl
      intro W_5 x_ hC hall
      refine then_n ?_
      obtain ⟨a_5, ha⟩ : ∃ a, a = putE x_ a_4 [(0, some 46), (1, some 47), (2, some 48), (3, some 9), (4, none)] := ⟨_, rfl⟩
      rw [← ha]
      have hN_5 := size_behind ha hN_4
      have hD_5 := defers_behind ha hD_4
      have bb_5 := bb_4.trans hC.below
      have e0_5 := slot_old ha (by kernel_rfl) e0_4
      have e2_5 := slot_old ha (by kernel_rfl) e2_4
      have e4_5 := slot_old ha (by kernel_rfl) e4_4
      have e5_5 := slot_old ha (by kernel_rfl) e5_4
      have e6_5 := slot_old ha (by kernel_rfl) e6_4
      have e30_5 := slot_old ha (by kernel_rfl) e30_4
      have e35_5 := slot_old ha (by kernel_rfl) e35_4
      have e7_5 := slot_old ha (by kernel_rfl) e7_4
      have e8_5 := slot_old ha (by kernel_rfl) e8_4
      have R_5 := hC.holds R_4
      have q5_5 := hC.at0 q5_4
      have q7_5 := hC.at0 q7_4
      obtain ⟨g9, hx, hge, p9_5, p9'_5⟩ := put_atP (show (kPutP 3 19 (zx) (zy)).sem _ _ _ _ from hall 4 (of_decide_eq_true (by kernel_rfl)))
      have e9_5 := (slot_new (t := 9) (i := 3) ha hN_4 (by kernel_rfl) (by kernel_rfl)).trans hx
      have d9 := Nat.lt_of_lt_of_le R_4.lt hge
      clear hx hge
      clear hall hC ha bb_4 hD_4 e0_4 e2_4 e4_4 e5_4 e6_4 e30_4 e35_4 e7_4 e8_4 R_4 q5_4 q7_4
      repeat (first | refine wp_seq ?_ | (refine wp_skip ?_; refine then_n ?_))
      refine wp_region_law hN_5 w.heap.size
        [kIs (.bool false), kIs (.bool true), kIs (.bool true), kIs undef, kIs undef, kIs undef, kIs (.bool true), kIs (.bool true), kIs undef, kIs undef, kIs undef, kIs undef, kIs (.bool true)]
        [ [], [(0, some 49)], [(1, some 50)], [], [(3, some 52)], [(4, some 53)], [(2, some 51), (5, some 54)], [(6, some 55)], [], [(8, some 57)], [], [(9, some 58), (10, some 59)], [(7, some 56), (11, some 60)] ]
        [(0, some 49), (1, some 50), (2, some 51), (3, some 52), (4, some 53), (5, some 54), (6, some 55), (7, some 56), (8, some 57), (9, some 58), (10, some 59), (11, some 60), (12, some 61)] [(2, true), (7, true)] [3, 4, 5, 8, 9, 10, 11] (by kernel_rfl) (by kernel_rfl) (by kernel_rfl) (by kernel_rfl) (by kernel_rfl) (by kernel_rfl) (by kernel_rfl) bb_5.size ?_ ?_
      ·
        refine pk_cons rfl rfl (st_pure [] [(8, .bool false)] (.bool false) rfl hN_5 (by kernel_rfl) (by kernel_rfl) (by kernel_rfl) (old1 e8_5) (by kernel_rfl) (by kernel_rfl) (by kernel_rfl) (fun _ => by kernel_rfl)) ?_
        refine pk_cons rfl rfl (st_pure [.bool false] [] (.bool true) rfl hN_5 (by kernel_rfl) (by kernel_rfl) (by kernel_rfl) old0 (by kernel_rfl) (by kernel_rfl) (by kernel_rfl) (fun _ => by kernel_rfl)) ?_
        refine pk_cons rfl rfl (st_pure [.bool true] [] (.bool true) rfl hN_5 (by kernel_rfl) (by kernel_rfl) (by kernel_rfl) old0 (by kernel_rfl) (by kernel_rfl) (by kernel_rfl) (fun _ => by kernel_rfl)) ?_
        refine pk_skip rfl ?_
        refine pk_skip rfl ?_
        refine pk_skip rfl ?_
        refine pk_cons rfl rfl (st_pure [.bool true, undef] [] (.bool true) rfl hN_5 (by kernel_rfl) (by kernel_rfl) (by kernel_rfl) old0 (by kernel_rfl) (by kernel_rfl) (by kernel_rfl) (fun _ => by kernel_rfl)) ?_
        refine pk_cons rfl rfl (st_pure [.bool true] [] (.bool true) rfl hN_5 (by kernel_rfl) (by kernel_rfl) (by kernel_rfl) old0 (by kernel_rfl) (by kernel_rfl) (by kernel_rfl) (fun _ => by kernel_rfl)) ?_
        refine pk_skip rfl ?_
        refine pk_skip rfl ?_
        refine pk_skip rfl ?_
        refine pk_skip rfl ?_
        refine pk_cons rfl rfl (st_pure [.bool true, undef] [] (.bool true) rfl hN_5 (by kernel_rfl) (by kernel_rfl) (by kernel_rfl) old0 (by kernel_rfl) (by kernel_rfl) (by kernel_rfl) (fun _ => by kernel_rfl)) ?_
        exact pk_nil rfl
      intro W_6 x_ hC hall
      refine then_n ?_
      obtain ⟨a_6, ha⟩ : ∃ a, a = putE x_ a_5 [(0, some 49), (1, some 50), (2, some 51), (3, some 52), (4, some 53), (5, some 54), (6, some 55), (7, some 56), (8, some 57), (9, some 58), (10, some 59), (11, some 60), (12, some 61)] := ⟨_, rfl⟩
      rw [← ha]
      have hN_6 := size_behind ha hN_5
      have hD_6 := defers_behind ha hD_5
      have bb_6 := bb_5.trans hC.below
      have e0_6 := slot_old ha (by kernel_rfl) e0_5
      have e2_6 := slot_old ha (by kernel_rfl) e2_5
      have e4_6 := slot_old ha (by kernel_rfl) e4_5
      have e5_6 := slot_old ha (by kernel_rfl) e5_5
      have e6_6 := slot_old ha (by kernel_rfl) e6_5
      have e30_6 := slot_old ha (by kernel_rfl) e30_5
      have e35_6 := slot_old ha (by kernel_rfl) e35_5
      have e7_6 := slot_old ha (by kernel_rfl) e7_5
      have e8_6 := slot_old ha (by kernel_rfl) e8_5
      have e9_6 := slot_old ha (by kernel_rfl) e9_5
      have R_6 := hC.holds R_5
      have q5_6 := hC.at0 q5_5
      have q7_6 := hC.at0 q7_5
      have p9_6 := hC.at0 p9_5
      have p9'_6 := hC.at0 p9'_5
      have e61_6 := (slot_new (t := 61) (i := 12) ha hN_5 (by kernel_rfl) (by kernel_rfl)).trans (show x_ 12 = .bool true from hall 12 (of_decide_eq_true (by kernel_rfl)))
      clear hall hC ha bb_5 hD_5 e0_5 e2_5 e4_5 e5_5 e6_5 e30_5 e35_5 e7_5 e8_5 e9_5 R_5 q5_5 q7_5 p9_5 p9'_5
      refine wp_cond_true e61_6 ?_
      repeat (first | refine wp_seq ?_ | (refine wp_skip ?_; refine then_n ?_))
      refine wp_region_res hN_6 w.heap.size (w.heap.size) R_6 (by omega)
        [kP 1 (0) (1), kRes (w.heap.size) 1 (0) (1), kIs (.bool false)]
        [ [], [(0, some 62)], [] ]
        [(0, some 62), (1, none), (2, some 3)] [] [] (by kernel_rfl) (by kernel_rfl) (by kernel_rfl) (by kernel_rfl) (by kernel_rfl) (by kernel_rfl) (by kernel_rfl) bb_6.size ?_ ?_
      ·
        refine pk_cons rfl rfl (st_call0 [] hN_6 (by kernel_rfl) (by kernel_rfl) rfl rfl fun w x hC => tp ref_nought) ?_
        refine pk_cons rfl rfl (st_resP R_6 rfl (by simp) e2_6 hN_6 (by kernel_rfl) (by kernel_rfl) rfl rfl) ?_
        refine pk_cons rfl rfl (st_pure [] [] (.bool false) rfl hN_6 (by kernel_rfl) (by kernel_rfl) (by kernel_rfl) old0 (by kernel_rfl) (by kernel_rfl) (by kernel_rfl) (fun _ => by kernel_rfl)) ?_
        exact pk_nil rfl
      intro W x_ hC hall
      refine then_n ?_
      obtain ⟨a1, ha⟩ : ∃ a, a = putE x_ a_6 [(0, some 62), (1, none), (2, some 3)] := ⟨_, rfl⟩
      rw [← ha]
      have hD1 := defers_behind ha hD_6
      have bb1 := bb_6.trans hC.below
      obtain ⟨cs, hg, hP⟩ := (show (kRes (w.heap.size) 1 (0) (1)).sem _ _ _ _ from hall 1 (of_decide_eq_true (by kernel_rfl)))
      have e1 := slot_old (t := 2) ha (by kernel_rfl) e2_6
      have e2 := (slot_new (t := 3) (i := 2) ha hN_6 (by kernel_rfl) (by kernel_rfl)).trans (show x_ 2 = .bool false from hall 2 (of_decide_eq_true (by kernel_rfl)))
      repeat (first | refine wp_seq ?_ | (refine wp_skip ?_; refine then_n ?_))
      refine wp_ret ?_
      repeat (refine then_r ?_)
      exact ret_cellP2 (t := 2) (u := 3) rfl hD1 e1 e2 hg hP fun v hv => ⟨v, rfl, hv, bb1⟩
set_option maxRecDepth 100000 in
set_option maxHeartbeats 8000000 in
theorem refParse_cut_noR {w : World} {s : ByteArray} {k : Nat} (hs : s.size ≤ 100) (hk : k < s.size) (h1 : ∀ j, j < k → (bt s).getD j 0 ≠ 47) (h2 : (bt s).getD k 0 = 47) {zx zy : Int} (HA : Hid (∀ (W : World) {S0 : Nat} {x_ : Nat → Value}, Calls Tryz.prog 27 #[.string (s.extract 0 k)] W (Told (kZB 19 (zx) true) S0 x_ W))) (HB : Hid (∀ (W : World) {S0 : Nat} {x_ : Nat → Value}, Calls Tryz.prog 27 #[.string (s.extract (k + 1) s.size)] W (Told (kZB 19 (zy) true) S0 x_ W))) (hno : ¬ (0 < zy ∧ ((zgcd [(zx), (zy)] : Nat) : Int) = 1)) :
    Calls Tryz.prog 8 #[.string s] w fun e w' => ∃ v, e = .returned (.tuple #[v, .bool false]) ∧ Pr w' v 1 (0) (1) ∧ Below w.heap.size w w' := by
  have HP := Lib.hid (show (∀ j, j < k → (bt s).getD j 0 ≠ 47) ∧ (bt s).getD k 0 = 47 from ⟨h1, h2⟩)
  have hks : k ≤ s.size := by omega
  have hk1 : k ≤ 100 := by omega
  have hkl : k + 1 ≤ s.size := by omega
  have hwh : ((k : Int) == (s.size : Int)) = false := by rw [beq_eq_false_iff_ne]; omega
  have HC := Lib.hid (show k ≤ s.size ∧ k ≤ 100 ∧ ((k : Int) == (s.size : Int)) = false ∧ k + 1 ≤ s.size from ⟨hks, hk1, hwh, hkl⟩)
  clear h1 h2 hk1 hwh hkl
  go_enter Tryz.func8, Tryz.ntmps8
  go_wp2_with fail
  go_loop [4] (fun i => ∃ q : Nat, q ≤ k ∧ i = .int .i64 q) (fun i => k - (intOf i).toNat)
  case atStart => exact ⟨0, Nat.zero_le _, rfl⟩
  case round =>
    obtain ⟨q, hq, rfl⟩ := hrel
    by_cases hlt : q < k
    · have hqs : q < s.size := by omega
      have hx := bt_at s q hqs
      obtain ⟨x, hxe⟩ : ∃ x, x = (bt s).getD q 0 := ⟨_, rfl⟩
      rw [← hxe] at hx
      have h47 : ((x : Int) == 47) = false := by rw [beq_eq_false_iff_ne]; have := HP.out.1 q hlt; omega
      clear hxe
      go_wp2
      go_round
      case rel => exact ⟨q + 1, by omega, by go_num⟩
      case measure => first | (simp [intOf]; done) | (simp [intOf]; omega)
    · obtain rfl : q = k := by omega
      have hk' := hq
      have he : q < s.size := hk
      have hx := bt_at s q he
      rw [HP.out.2] at hx
      go_upto_region 4 with fail
      rename_i hrest
      clear hk' hlt hq HP he hx
      obtain ⟨W_0, hW⟩ : ∃ W, W = w.alloc (Obj.cells #[Value.bool false, Value.slice none 0 0, Value.bool false, Value.slice none 0 0] 27) := ⟨_, rfl⟩
      have bb_0 : Below w.heap.size w W_0 := by rw [hW]; exact bal (Below.refl _ _) _
      have K0 : W_0.heap[w.heap.size]? = some (Obj.cells #[Value.bool false, Value.slice none 0 0, Value.bool false, Value.slice none 0 0] 27) := by rw [hW]; exact new_at (by simp)
      rw [← hW]
      have R_0 : Holds_ W_0 (w.heap.size) #[Value.bool false, Value.slice none 0 0, Value.bool false, Value.slice none 0 0] := ⟨⟨_, K0⟩, by simp [noDig]⟩
      clear hW K0
      obtain ⟨hks, hk1, hwh, hkl⟩ := HC.out
      refine name_frame (G := fun a => Code.wp _ _ _ a _) ?_
      intro a_0 ha
      have hN_0 : a_0.tmps.size = 64 := by subst ha; kernel_rfl
      have hD_0 : a_0.defers = [] := by subst ha; rfl
      have e0_0 : a_0.eval (.tmp 0) = .string s := by subst ha; kernel_rfl
      have e2_0 : a_0.eval (.tmp 2) = .pointer (some ⟨w.heap.size, 0, none⟩) := by subst ha; kernel_rfl
      have e4_0 : a_0.eval (.tmp 4) = .int .i64 ((q : Nat) : Int) := by subst ha; kernel_rfl
      clear ha
      repeat (first | refine wp_seq ?_ | (refine wp_skip ?_; refine then_n ?_))
      refine wp_region_law hN_0 w.heap.size
        [kIs (.string s), kIs (.int .i64 ((q : Nat) : Int)), kIs (.string (s.extract 0 q)), kZB 19 (zx) true, kZB 19 (zx) true, kZ 19 (zx), kIs (.bool true), PK.fresh 2, kPutZ 7 19 (zx), kIs (.bool true)]
        [ [], [], [(0, some 23), (1, some 24)], [(2, some 25)], [(3, some 26)], [(4, some 22)], [(4, some 22)], [], [(7, some 5), (5, some 27)], [(6, some 28)] ]
        [(0, some 23), (1, some 24), (2, some 25), (3, some 26), (4, some 22), (5, some 27), (6, some 28), (7, some 5), (8, none), (9, some 6)] [] [] (by kernel_rfl) (by kernel_rfl) (by kernel_rfl) (by kernel_rfl) (by kernel_rfl) (by kernel_rfl) (by kernel_rfl) bb_0.size ?_ ?_
      ·
        refine pk_cons rfl rfl (st_pure [] [(0, .string s)] (.string s) rfl hN_0 (by kernel_rfl) (by kernel_rfl) (by kernel_rfl) (old1 e0_0) (by kernel_rfl) (by kernel_rfl) (by kernel_rfl) (fun _ => by kernel_rfl)) ?_
        refine pk_cons rfl rfl (st_pure [] [(4, .int .i64 ((q : Nat) : Int))] (.int .i64 ((q : Nat) : Int)) rfl hN_0 (by kernel_rfl) (by kernel_rfl) (by kernel_rfl) (old1 e4_0) (by kernel_rfl) (by kernel_rfl) (by kernel_rfl) (fun _ => by kernel_rfl)) ?_
        refine pk_cons rfl rfl (st_pure [.string s, .int .i64 ((q : Nat) : Int)] [] (.string (s.extract 0 q)) rfl hN_0 (by kernel_rfl) (by kernel_rfl) (by kernel_rfl) old0 (by kernel_rfl) (by kernel_rfl) (by kernel_rfl) (fun _ => ex_slLo (by kernel_rfl) (by kernel_rfl) hks)) ?_
        refine pk_cons rfl rfl (st_call1 hN_0 (by kernel_rfl) (by kernel_rfl) (by kernel_rfl) rfl rfl fun w x v1 hC h1 => called_at h1 (HA.out _)) ?_
        refine pk_cons rfl rfl (st_move hN_0 (by kernel_rfl) (by kernel_rfl) rfl rfl) ?_
        refine pk_cons rfl rfl (st_ext hN_0 (by kernel_rfl) (by kernel_rfl) rfl rfl ext_z) ?_
        refine pk_cons rfl rfl (st_ext hN_0 (by kernel_rfl) (by kernel_rfl) rfl rfl ext_ok) ?_
        refine pk_cons rfl rfl (st_alloc hN_0 (by kernel_rfl) (Nat.le_refl _) rfl) ?_
        refine pk_cons rfl rfl (st_put hN_0 (by kernel_rfl) (by kernel_rfl) (by kernel_rfl) rfl rfl rfl) ?_
        refine pk_cons rfl rfl (st_pure [.bool true] [] (.bool true) rfl hN_0 (by kernel_rfl) (by kernel_rfl) (by kernel_rfl) old0 (by kernel_rfl) (by kernel_rfl) (by kernel_rfl) (fun _ => by kernel_rfl)) ?_
        exact pk_nil rfl
      intro W_1 x_ hC hall
      refine then_n ?_
      obtain ⟨a_1, ha⟩ : ∃ a, a = putE x_ a_0 [(0, some 23), (1, some 24), (2, some 25), (3, some 26), (4, some 22), (5, some 27), (6, some 28), (7, some 5), (8, none), (9, some 6)] := ⟨_, rfl⟩
      rw [← ha]
      have hN_1 := size_behind ha hN_0
      have hD_1 := defers_behind ha hD_0
      have bb_1 := bb_0.trans hC.below
      have e0_1 := slot_old ha (by kernel_rfl) e0_0
      have e2_1 := slot_old ha (by kernel_rfl) e2_0
      have e4_1 := slot_old ha (by kernel_rfl) e4_0
      have R_1 := hC.holds R_0
      obtain ⟨g5, hx, hge, l5_1⟩ := put_locG (show (kPutZ 7 19 (zx)).sem _ _ _ _ from hall 8 (of_decide_eq_true (by kernel_rfl)))
      have d5 := Nat.lt_of_lt_of_le R_0.lt hge
      clear hge
      have e5_1 := (slot_new (t := 5) (i := 7) ha hN_0 (by kernel_rfl) (by kernel_rfl)).trans hx
      clear hx
      have e6_1 := (slot_new (t := 6) (i := 9) ha hN_0 (by kernel_rfl) (by kernel_rfl)).trans (show x_ 9 = .bool true from hall 9 (of_decide_eq_true (by kernel_rfl)))
      clear hall hC ha bb_0 hD_0 e0_0 e2_0 e4_0 R_0
      have q5_1 := l5_1.atR
      clear l5_1
      refine hrest _ _ ?_
      repeat (first | refine wp_seq ?_ | (refine wp_skip ?_; refine then_n ?_))
      refine wp_region_law hN_1 w.heap.size
        [kIs (.bool true), kIs (.bool false)]
        [ [], [(0, some 29)] ]
        [(0, some 29), (1, some 30)] [] [] (by kernel_rfl) (by kernel_rfl) (by kernel_rfl) (by kernel_rfl) (by kernel_rfl) (by kernel_rfl) (by kernel_rfl) bb_1.size ?_ ?_
      ·
        refine pk_cons rfl rfl (st_pure [] [(6, .bool true)] (.bool true) rfl hN_1 (by kernel_rfl) (by kernel_rfl) (by kernel_rfl) (old1 e6_1) (by kernel_rfl) (by kernel_rfl) (by kernel_rfl) (fun _ => by kernel_rfl)) ?_
        refine pk_cons rfl rfl (st_pure [.bool true] [] (.bool false) rfl hN_1 (by kernel_rfl) (by kernel_rfl) (by kernel_rfl) old0 (by kernel_rfl) (by kernel_rfl) (by kernel_rfl) (fun _ => by kernel_rfl)) ?_
        exact pk_nil rfl
      intro W_2 x_ hC hall
      refine then_n ?_
      obtain ⟨a_2, ha⟩ : ∃ a, a = putE x_ a_1 [(0, some 29), (1, some 30)] := ⟨_, rfl⟩
      rw [← ha]
      have hN_2 := size_behind ha hN_1
      have hD_2 := defers_behind ha hD_1
      have bb_2 := bb_1.trans hC.below
      have e0_2 := slot_old ha (by kernel_rfl) e0_1
      have e2_2 := slot_old ha (by kernel_rfl) e2_1
      have e4_2 := slot_old ha (by kernel_rfl) e4_1
      have e5_2 := slot_old ha (by kernel_rfl) e5_1
      have e6_2 := slot_old ha (by kernel_rfl) e6_1
      have R_2 := hC.holds R_1
      have q5_2 := hC.at0 q5_1
      have e30_2 := (slot_new (t := 30) (i := 1) ha hN_1 (by kernel_rfl) (by kernel_rfl)).trans (show x_ 1 = .bool false from hall 1 (of_decide_eq_true (by kernel_rfl)))
      clear hall hC ha bb_1 hD_1 e0_1 e2_1 e4_1 e5_1 e6_1 R_1 q5_1
      refine wp_cond_false e30_2 ?_
      repeat (first | refine wp_seq ?_ | (refine wp_skip ?_; refine then_n ?_))
      refine wp_region_law hN_2 w.heap.size
        [kIs (.int .i64 ((q : Nat) : Int)), kIs (.string s), kIs (.int .i64 (s.size : Int)), kIs (.bool false)]
        [ [], [], [(1, some 33)], [(0, some 32), (2, some 34)] ]
        [(0, some 32), (1, some 33), (2, some 34), (3, some 35)] [] [] (by kernel_rfl) (by kernel_rfl) (by kernel_rfl) (by kernel_rfl) (by kernel_rfl) (by kernel_rfl) (by kernel_rfl) bb_2.size ?_ ?_
      ·
        refine pk_cons rfl rfl (st_pure [] [(4, .int .i64 ((q : Nat) : Int))] (.int .i64 ((q : Nat) : Int)) rfl hN_2 (by kernel_rfl) (by kernel_rfl) (by kernel_rfl) (old1 e4_2) (by kernel_rfl) (by kernel_rfl) (by kernel_rfl) (fun _ => by kernel_rfl)) ?_
        refine pk_cons rfl rfl (st_pure [] [(0, .string s)] (.string s) rfl hN_2 (by kernel_rfl) (by kernel_rfl) (by kernel_rfl) (old1 e0_2) (by kernel_rfl) (by kernel_rfl) (by kernel_rfl) (fun _ => by kernel_rfl)) ?_
        refine pk_cons rfl rfl (st_pure [.string s] [] (.int .i64 (s.size : Int)) rfl hN_2 (by kernel_rfl) (by kernel_rfl) (by kernel_rfl) old0 (by kernel_rfl) (by kernel_rfl) (by kernel_rfl) (fun _ => by kernel_rfl)) ?_
        refine pk_cons rfl rfl (st_pureV [.int .i64 ((q : Nat) : Int), .int .i64 (s.size : Int)] [] (.bool ((q : Int) == (s.size : Int))) (.bool false) (congrArg Value.bool hwh) rfl hN_2 (by kernel_rfl) (by kernel_rfl) (by kernel_rfl) old0 (by kernel_rfl) (by kernel_rfl) (by kernel_rfl) (fun _ => by kernel_rfl)) ?_
        exact pk_nil rfl
      intro W_3 x_ hC hall
      refine then_n ?_
      obtain ⟨a_3, ha⟩ : ∃ a, a = putE x_ a_2 [(0, some 32), (1, some 33), (2, some 34), (3, some 35)] := ⟨_, rfl⟩
      rw [← ha]
      have hN_3 := size_behind ha hN_2
      have hD_3 := defers_behind ha hD_2
      have bb_3 := bb_2.trans hC.below
      have e0_3 := slot_old ha (by kernel_rfl) e0_2
      have e2_3 := slot_old ha (by kernel_rfl) e2_2
      have e4_3 := slot_old ha (by kernel_rfl) e4_2
      have e5_3 := slot_old ha (by kernel_rfl) e5_2
      have e6_3 := slot_old ha (by kernel_rfl) e6_2
      have e30_3 := slot_old ha (by kernel_rfl) e30_2
      have R_3 := hC.holds R_2
      have q5_3 := hC.at0 q5_2
      have e35_3 := (slot_new (t := 35) (i := 3) ha hN_2 (by kernel_rfl) (by kernel_rfl)).trans (show x_ 3 = .bool false from hall 3 (of_decide_eq_true (by kernel_rfl)))
      clear hall hC ha bb_2 hD_2 e0_2 e2_2 e4_2 e5_2 e6_2 e30_2 R_2 q5_2
      refine wp_cond_false e35_3 ?_
      repeat (first | refine wp_seq ?_ | (refine wp_skip ?_; refine then_n ?_))
      refine wp_region_law hN_3 w.heap.size
        [kIs (.string s), kIs (.int .i64 ((q : Nat) : Int)), kIs (.int .i64 ((q : Int) + 1)), kIs (.string (s.extract (q + 1) s.size)), kZB 19 (zy) true, kZB 19 (zy) true, kZ 19 (zy), kIs (.bool true), PK.fresh 2, kPutZ 8 19 (zy), kIs (.bool true)]
        [ [], [], [(1, some 40)], [(0, some 39), (2, some 41)], [(3, some 42)], [(4, some 43)], [(5, some 38)], [(5, some 38)], [], [(8, some 7), (6, some 44)], [(7, some 45)] ]
        [(0, some 39), (1, some 40), (2, some 41), (3, some 42), (4, some 43), (5, some 38), (6, some 44), (7, some 45), (8, some 7), (9, none), (10, some 8)] [] [] (by kernel_rfl) (by kernel_rfl) (by kernel_rfl) (by kernel_rfl) (by kernel_rfl) (by kernel_rfl) (by kernel_rfl) bb_3.size ?_ ?_
      ·
        refine pk_cons rfl rfl (st_pure [] [(0, .string s)] (.string s) rfl hN_3 (by kernel_rfl) (by kernel_rfl) (by kernel_rfl) (old1 e0_3) (by kernel_rfl) (by kernel_rfl) (by kernel_rfl) (fun _ => by kernel_rfl)) ?_
        refine pk_cons rfl rfl (st_pure [] [(4, .int .i64 ((q : Nat) : Int))] (.int .i64 ((q : Nat) : Int)) rfl hN_3 (by kernel_rfl) (by kernel_rfl) (by kernel_rfl) (old1 e4_3) (by kernel_rfl) (by kernel_rfl) (by kernel_rfl) (fun _ => by kernel_rfl)) ?_
        refine pk_cons rfl rfl (st_pure [.int .i64 ((q : Nat) : Int)] [] (.int .i64 ((q : Int) + 1)) rfl hN_3 (by kernel_rfl) (by kernel_rfl) (by kernel_rfl) old0 (by kernel_rfl) (by kernel_rfl) (by kernel_rfl) (fun _ => ex_add1 (by kernel_rfl) (by kernel_rfl) hk1)) ?_
        refine pk_cons rfl rfl (st_pure [.string s, .int .i64 ((q : Int) + 1)] [] (.string (s.extract (q + 1) s.size)) rfl hN_3 (by kernel_rfl) (by kernel_rfl) (by kernel_rfl) old0 (by kernel_rfl) (by kernel_rfl) (by kernel_rfl) (fun _ => ex_slHi (by kernel_rfl) (by kernel_rfl) hkl)) ?_
        refine pk_cons rfl rfl (st_call1 hN_3 (by kernel_rfl) (by kernel_rfl) (by kernel_rfl) rfl rfl fun w x v1 hC h1 => called_at h1 (HB.out _)) ?_
        refine pk_cons rfl rfl (st_move hN_3 (by kernel_rfl) (by kernel_rfl) rfl rfl) ?_
        refine pk_cons rfl rfl (st_ext hN_3 (by kernel_rfl) (by kernel_rfl) rfl rfl ext_z) ?_
        refine pk_cons rfl rfl (st_ext hN_3 (by kernel_rfl) (by kernel_rfl) rfl rfl ext_ok) ?_
        refine pk_cons rfl rfl (st_alloc hN_3 (by kernel_rfl) (Nat.le_refl _) rfl) ?_
        refine pk_cons rfl rfl (st_put hN_3 (by kernel_rfl) (by kernel_rfl) (by kernel_rfl) rfl rfl rfl) ?_
        refine pk_cons rfl rfl (st_pure [.bool true] [] (.bool true) rfl hN_3 (by kernel_rfl) (by kernel_rfl) (by kernel_rfl) old0 (by kernel_rfl) (by kernel_rfl) (by kernel_rfl) (fun _ => by kernel_rfl)) ?_
        exact pk_nil rfl
      intro W_4 x_ hC hall
      refine then_n ?_
      obtain ⟨a_4, ha⟩ : ∃ a, a = putE x_ a_3 [(0, some 39), (1, some 40), (2, some 41), (3, some 42), (4, some 43), (5, some 38), (6, some 44), (7, some 45), (8, some 7), (9, none), (10, some 8)] := ⟨_, rfl⟩
      rw [← ha]
      have hN_4 := size_behind ha hN_3
      have hD_4 := defers_behind ha hD_3
      have bb_4 := bb_3.trans hC.below
      have e0_4 := slot_old ha (by kernel_rfl) e0_3
      have e2_4 := slot_old ha (by kernel_rfl) e2_3
      have e4_4 := slot_old ha (by kernel_rfl) e4_3
      have e5_4 := slot_old ha (by kernel_rfl) e5_3
      have e6_4 := slot_old ha (by kernel_rfl) e6_3
      have e30_4 := slot_old ha (by kernel_rfl) e30_3
      have e35_4 := slot_old ha (by kernel_rfl) e35_3
      have R_4 := hC.holds R_3
      have q5_4 := hC.at0 q5_3
      obtain ⟨g7, hx, hge, l7_4⟩ := put_locG (show (kPutZ 8 19 (zy)).sem _ _ _ _ from hall 9 (of_decide_eq_true (by kernel_rfl)))
      have d7 := Nat.lt_of_lt_of_le R_3.lt hge
      clear hge
      have e7_4 := (slot_new (t := 7) (i := 8) ha hN_3 (by kernel_rfl) (by kernel_rfl)).trans hx
      clear hx
      have e8_4 := (slot_new (t := 8) (i := 10) ha hN_3 (by kernel_rfl) (by kernel_rfl)).trans (show x_ 10 = .bool true from hall 10 (of_decide_eq_true (by kernel_rfl)))
      clear hall hC ha bb_3 hD_3 e0_3 e2_3 e4_3 e5_3 e6_3 e30_3 e35_3 R_3 q5_3
      have q7_4 := l7_4.atR
      clear l7_4
      repeat (first | refine wp_seq ?_ | (refine wp_skip ?_; refine then_n ?_))
      refine wp_region_law hN_4 w.heap.size
        [kZ 19 (zx), kZ 19 (zy), kP 19 (zx) (zy), PK.fresh 4, kPutP 3 19 (zx) (zy)]
        [ [], [], [(0, some 46), (1, some 47)], [], [(3, some 9), (2, some 48)] ]
        [(0, some 46), (1, some 47), (2, some 48), (3, some 9), (4, none)] [] [] (by kernel_rfl) (by kernel_rfl) (by kernel_rfl) (by kernel_rfl) (by kernel_rfl) (by kernel_rfl) (by kernel_rfl) bb_4.size ?_ ?_
      ·
        refine pk_cons rfl rfl (st_loadB q5_4 (by simp) e5_4 hN_4 (by kernel_rfl) rfl) ?_
        refine pk_cons rfl rfl (st_loadB q7_4 (by simp) e7_4 hN_4 (by kernel_rfl) rfl) ?_
        refine pk_cons rfl rfl (st_buildP (k := 19) hN_4 (by kernel_rfl) (by kernel_rfl) (by kernel_rfl) (by kernel_rfl) (by kernel_rfl) (by kernel_rfl) rfl rfl rfl) ?_
        refine pk_cons rfl rfl (st_allocP hN_4 (by kernel_rfl) (Nat.le_refl _) rfl) ?_
        refine pk_cons rfl rfl (st_putP hN_4 (by kernel_rfl) (by kernel_rfl) (by kernel_rfl) rfl rfl rfl) ?_
        exact pk_nil rfl
      intro W_5 x_ hC hall
      refine then_n ?_
      obtain ⟨a_5, ha⟩ : ∃ a, a = putE x_ a_4 [(0, some 46), (1, some 47), (2, some 48), (3, some 9), (4, none)] := ⟨_, rfl⟩
      rw [← ha]
      have hN_5 := size_behind ha hN_4
      have hD_5 := defers_behind ha hD_4
      have bb_5 := bb_4.trans hC.below
      have e0_5 := slot_old ha (by kernel_rfl) e0_4
      have e2_5 := slot_old ha (by kernel_rfl) e2_4
      have e4_5 := slot_old ha (by kernel_rfl) e4_4
      have e5_5 := slot_old ha (by kernel_rfl) e5_4
      have e6_5 := slot_old ha (by kernel_rfl) e6_4
      have e30_5 := slot_old ha (by kernel_rfl) e30_4
      have e35_5 := slot_old ha (by kernel_rfl) e35_4
      have e7_5 := slot_old ha (by kernel_rfl) e7_4
      have e8_5 := slot_old ha (by kernel_rfl) e8_4
      have R_5 := hC.holds R_4
      have q5_5 := hC.at0 q5_4
      have q7_5 := hC.at0 q7_4
      obtain ⟨g9, hx, hge, p9_5, p9'_5⟩ := put_atP (show (kPutP 3 19 (zx) (zy)).sem _ _ _ _ from hall 4 (of_decide_eq_true (by kernel_rfl)))
      have e9_5 := (slot_new (t := 9) (i := 3) ha hN_4 (by kernel_rfl) (by kernel_rfl)).trans hx
      have d9 := Nat.lt_of_lt_of_le R_4.lt hge
      clear hx hge
      clear hall hC ha bb_4 hD_4 e0_4 e2_4 e4_4 e5_4 e6_4 e30_4 e35_4 e7_4 e8_4 R_4 q5_4 q7_4
      repeat (first | refine wp_seq ?_ | (refine wp_skip ?_; refine then_n ?_))
      refine wp_region_law hN_5 w.heap.size
        [kIs (.bool true), kIs (.bool false), kIs (.bool false), kP 19 (zx) (zy), kIs (.bool false), kIs (.bool true), kIs (.bool true), kIs (.bool true), kIs undef, kIs undef, kIs undef, kIs undef, kIs (.bool true)]
        [ [], [(0, some 49)], [(1, some 50)], [], [(3, some 52)], [(4, some 53)], [(2, some 51), (5, some 54)], [(6, some 55)], [], [(8, some 57)], [], [(9, some 58), (10, some 59)], [(7, some 56), (11, some 60)] ]
        [(0, some 49), (1, some 50), (2, some 51), (3, some 52), (4, some 53), (5, some 54), (6, some 55), (7, some 56), (8, some 57), (9, some 58), (10, some 59), (11, some 60), (12, some 61)] [(2, false), (7, true)] [8, 9, 10, 11] (by kernel_rfl) (by kernel_rfl) (by kernel_rfl) (by kernel_rfl) (by kernel_rfl) (by kernel_rfl) (by kernel_rfl) bb_5.size ?_ ?_
      ·
        refine pk_cons rfl rfl (st_pure [] [(8, .bool true)] (.bool true) rfl hN_5 (by kernel_rfl) (by kernel_rfl) (by kernel_rfl) (old1 e8_5) (by kernel_rfl) (by kernel_rfl) (by kernel_rfl) (fun _ => by kernel_rfl)) ?_
        refine pk_cons rfl rfl (st_pure [.bool true] [] (.bool false) rfl hN_5 (by kernel_rfl) (by kernel_rfl) (by kernel_rfl) old0 (by kernel_rfl) (by kernel_rfl) (by kernel_rfl) (fun _ => by kernel_rfl)) ?_
        refine pk_cons rfl rfl (st_pure [.bool false] [] (.bool false) rfl hN_5 (by kernel_rfl) (by kernel_rfl) (by kernel_rfl) old0 (by kernel_rfl) (by kernel_rfl) (by kernel_rfl) (fun _ => by kernel_rfl)) ?_
        refine pk_cons rfl rfl (st_load4P p9_5 p9'_5 (by simp) e9_5 hN_5 (by kernel_rfl) rfl) ?_
        refine pk_cons rfl rfl (st_call1 hN_5 (by kernel_rfl) (by kernel_rfl) (by kernel_rfl) rfl rfl fun w x v1 hC h1 => ti (refRight_no hno (pm (by decide) h1))) ?_
        refine pk_cons rfl rfl (st_pure [.bool false] [] (.bool true) rfl hN_5 (by kernel_rfl) (by kernel_rfl) (by kernel_rfl) old0 (by kernel_rfl) (by kernel_rfl) (by kernel_rfl) (fun _ => by kernel_rfl)) ?_
        refine pk_cons rfl rfl (st_pure [.bool false, .bool true] [] (.bool true) rfl hN_5 (by kernel_rfl) (by kernel_rfl) (by kernel_rfl) old0 (by kernel_rfl) (by kernel_rfl) (by kernel_rfl) (fun _ => by kernel_rfl)) ?_
        refine pk_cons rfl rfl (st_pure [.bool true] [] (.bool true) rfl hN_5 (by kernel_rfl) (by kernel_rfl) (by kernel_rfl) old0 (by kernel_rfl) (by kernel_rfl) (by kernel_rfl) (fun _ => by kernel_rfl)) ?_
        refine pk_skip rfl ?_
        refine pk_skip rfl ?_
        refine pk_skip rfl ?_
        refine pk_skip rfl ?_
        refine pk_cons rfl rfl (st_pure [.bool true, undef] [] (.bool true) rfl hN_5 (by kernel_rfl) (by kernel_rfl) (by kernel_rfl) old0 (by kernel_rfl) (by kernel_rfl) (by kernel_rfl) (fun _ => by kernel_rfl)) ?_
        exact pk_nil rfl
      intro W_6 x_ hC hall
      refine then_n ?_
      obtain ⟨a_6, ha⟩ : ∃ a, a = putE x_ a_5 [(0, some 49), (1, some 50), (2, some 51), (3, some 52), (4, some 53), (5, some 54), (6, some 55), (7, some 56), (8, some 57), (9, some 58), (10, some 59), (11, some 60), (12, some 61)] := ⟨_, rfl⟩
      rw [← ha]
      have hN_6 := size_behind ha hN_5
      have hD_6 := defers_behind ha hD_5
      have bb_6 := bb_5.trans hC.below
      have e0_6 := slot_old ha (by kernel_rfl) e0_5
      have e2_6 := slot_old ha (by kernel_rfl) e2_5
      have e4_6 := slot_old ha (by kernel_rfl) e4_5
      have e5_6 := slot_old ha (by kernel_rfl) e5_5
      have e6_6 := slot_old ha (by kernel_rfl) e6_5
      have e30_6 := slot_old ha (by kernel_rfl) e30_5
      have e35_6 := slot_old ha (by kernel_rfl) e35_5
      have e7_6 := slot_old ha (by kernel_rfl) e7_5
      have e8_6 := slot_old ha (by kernel_rfl) e8_5
      have e9_6 := slot_old ha (by kernel_rfl) e9_5
      have R_6 := hC.holds R_5
      have q5_6 := hC.at0 q5_5
      have q7_6 := hC.at0 q7_5
      have p9_6 := hC.at0 p9_5
      have p9'_6 := hC.at0 p9'_5
      have e61_6 := (slot_new (t := 61) (i := 12) ha hN_5 (by kernel_rfl) (by kernel_rfl)).trans (show x_ 12 = .bool true from hall 12 (of_decide_eq_true (by kernel_rfl)))
      clear hall hC ha bb_5 hD_5 e0_5 e2_5 e4_5 e5_5 e6_5 e30_5 e35_5 e7_5 e8_5 e9_5 R_5 q5_5 q7_5 p9_5 p9'_5
      refine wp_cond_true e61_6 ?_
      repeat (first | refine wp_seq ?_ | (refine wp_skip ?_; refine then_n ?_))
      refine wp_region_res hN_6 w.heap.size (w.heap.size) R_6 (by omega)
        [kP 1 (0) (1), kRes (w.heap.size) 1 (0) (1), kIs (.bool false)]
        [ [], [(0, some 62)], [] ]
        [(0, some 62), (1, none), (2, some 3)] [] [] (by kernel_rfl) (by kernel_rfl) (by kernel_rfl) (by kernel_rfl) (by kernel_rfl) (by kernel_rfl) (by kernel_rfl) bb_6.size ?_ ?_
      ·
        refine pk_cons rfl rfl (st_call0 [] hN_6 (by kernel_rfl) (by kernel_rfl) rfl rfl fun w x hC => tp ref_nought) ?_
        refine pk_cons rfl rfl (st_resP R_6 rfl (by simp) e2_6 hN_6 (by kernel_rfl) (by kernel_rfl) rfl rfl) ?_
        refine pk_cons rfl rfl (st_pure [] [] (.bool false) rfl hN_6 (by kernel_rfl) (by kernel_rfl) (by kernel_rfl) old0 (by kernel_rfl) (by kernel_rfl) (by kernel_rfl) (fun _ => by kernel_rfl)) ?_
        exact pk_nil rfl
      intro W x_ hC hall
      refine then_n ?_
      obtain ⟨a1, ha⟩ : ∃ a, a = putE x_ a_6 [(0, some 62), (1, none), (2, some 3)] := ⟨_, rfl⟩
      rw [← ha]
      have hD1 := defers_behind ha hD_6
      have bb1 := bb_6.trans hC.below
      obtain ⟨cs, hg, hP⟩ := (show (kRes (w.heap.size) 1 (0) (1)).sem _ _ _ _ from hall 1 (of_decide_eq_true (by kernel_rfl)))
      have e1 := slot_old (t := 2) ha (by kernel_rfl) e2_6
      have e2 := (slot_new (t := 3) (i := 2) ha hN_6 (by kernel_rfl) (by kernel_rfl)).trans (show x_ 2 = .bool false from hall 2 (of_decide_eq_true (by kernel_rfl)))
      repeat (first | refine wp_seq ?_ | (refine wp_skip ?_; refine then_n ?_))
      refine wp_ret ?_
      repeat (refine then_r ?_)
      exact ret_cellP2 (t := 2) (u := 3) rfl hD1 e1 e2 hg hP fun v hv => ⟨v, rfl, hv, bb1⟩
set_option maxRecDepth 100000 in
set_option maxHeartbeats 8000000 in
theorem refParse_cut_noT {w : World} {s : ByteArray} {k : Nat} (hs : s.size ≤ 100) (hk : k < s.size) (h1 : ∀ j, j < k → (bt s).getD j 0 ≠ 47) (h2 : (bt s).getD k 0 = 47) {a : Rat} (HA : Hid (∀ (W : World) {S0 : Nat} {x_ : Nat → Value}, Calls Tryz.prog 27 #[.string (s.extract 0 k)] W (Told (kZB 19 (a.num) true) S0 x_ W))) (HB : Hid (∀ (W : World) {S0 : Nat} {x_ : Nat → Value}, Calls Tryz.prog 27 #[.string (s.extract (k + 1) s.size)] W (Told (kZB 19 ((a.den : Int)) true) S0 x_ W))) (htx : ((textQ a).toList == (s).toList) = false) :
    Calls Tryz.prog 8 #[.string s] w fun e w' => ∃ v, e = .returned (.tuple #[v, .bool false]) ∧ Pr w' v 1 (0) (1) ∧ Below w.heap.size w w' := by
  have HP := Lib.hid (show (∀ j, j < k → (bt s).getD j 0 ≠ 47) ∧ (bt s).getD k 0 = 47 from ⟨h1, h2⟩)
  have hks : k ≤ s.size := by omega
  have hk1 : k ≤ 100 := by omega
  have hkl : k + 1 ≤ s.size := by omega
  have hwh : ((k : Int) == (s.size : Int)) = false := by rw [beq_eq_false_iff_ne]; omega
  have HC := Lib.hid (show k ≤ s.size ∧ k ≤ 100 ∧ ((k : Int) == (s.size : Int)) = false ∧ k + 1 ≤ s.size ∧ ((textQ a).toList == (s).toList) = false from ⟨hks, hk1, hwh, hkl, htx⟩)
  clear h1 h2 hk1 hwh hkl htx
  go_enter Tryz.func8, Tryz.ntmps8
  go_wp2_with fail
  go_loop [4] (fun i => ∃ q : Nat, q ≤ k ∧ i = .int .i64 q) (fun i => k - (intOf i).toNat)
  case atStart => exact ⟨0, Nat.zero_le _, rfl⟩
  case round =>
    obtain ⟨q, hq, rfl⟩ := hrel
    by_cases hlt : q < k
    · have hqs : q < s.size := by omega
      have hx := bt_at s q hqs
      obtain ⟨x, hxe⟩ : ∃ x, x = (bt s).getD q 0 := ⟨_, rfl⟩
      rw [← hxe] at hx
      have h47 : ((x : Int) == 47) = false := by rw [beq_eq_false_iff_ne]; have := HP.out.1 q hlt; omega
      clear hxe
      go_wp2
      go_round
      case rel => exact ⟨q + 1, by omega, by go_num⟩
      case measure => first | (simp [intOf]; done) | (simp [intOf]; omega)
    · obtain rfl : q = k := by omega
      have hk' := hq
      have he : q < s.size := hk
      have hx := bt_at s q he
      rw [HP.out.2] at hx
      go_upto_region 4 with fail
      rename_i hrest
      clear hk' hlt hq HP he hx
      obtain ⟨W_0, hW⟩ : ∃ W, W = w.alloc (Obj.cells #[Value.bool false, Value.slice none 0 0, Value.bool false, Value.slice none 0 0] 27) := ⟨_, rfl⟩
      have bb_0 : Below w.heap.size w W_0 := by rw [hW]; exact bal (Below.refl _ _) _
      have K0 : W_0.heap[w.heap.size]? = some (Obj.cells #[Value.bool false, Value.slice none 0 0, Value.bool false, Value.slice none 0 0] 27) := by rw [hW]; exact new_at (by simp)
      rw [← hW]
      have R_0 : Holds_ W_0 (w.heap.size) #[Value.bool false, Value.slice none 0 0, Value.bool false, Value.slice none 0 0] := ⟨⟨_, K0⟩, by simp [noDig]⟩
      clear hW K0
      obtain ⟨hks, hk1, hwh, hkl, htx⟩ := HC.out
      refine name_frame (G := fun a => Code.wp _ _ _ a _) ?_
      intro a_0 ha
      have hN_0 : a_0.tmps.size = 64 := by subst ha; kernel_rfl
      have hD_0 : a_0.defers = [] := by subst ha; rfl
      have e0_0 : a_0.eval (.tmp 0) = .string s := by subst ha; kernel_rfl
      have e2_0 : a_0.eval (.tmp 2) = .pointer (some ⟨w.heap.size, 0, none⟩) := by subst ha; kernel_rfl
      have e4_0 : a_0.eval (.tmp 4) = .int .i64 ((q : Nat) : Int) := by subst ha; kernel_rfl
      clear ha
      repeat (first | refine wp_seq ?_ | (refine wp_skip ?_; refine then_n ?_))
      refine wp_region_law hN_0 w.heap.size
        [kIs (.string s), kIs (.int .i64 ((q : Nat) : Int)), kIs (.string (s.extract 0 q)), kZB 19 (a.num) true, kZB 19 (a.num) true, kZ 19 (a.num), kIs (.bool true), PK.fresh 2, kPutZ 7 19 (a.num), kIs (.bool true)]
        [ [], [], [(0, some 23), (1, some 24)], [(2, some 25)], [(3, some 26)], [(4, some 22)], [(4, some 22)], [], [(7, some 5), (5, some 27)], [(6, some 28)] ]
        [(0, some 23), (1, some 24), (2, some 25), (3, some 26), (4, some 22), (5, some 27), (6, some 28), (7, some 5), (8, none), (9, some 6)] [] [] (by kernel_rfl) (by kernel_rfl) (by kernel_rfl) (by kernel_rfl) (by kernel_rfl) (by kernel_rfl) (by kernel_rfl) bb_0.size ?_ ?_
      ·
        refine pk_cons rfl rfl (st_pure [] [(0, .string s)] (.string s) rfl hN_0 (by kernel_rfl) (by kernel_rfl) (by kernel_rfl) (old1 e0_0) (by kernel_rfl) (by kernel_rfl) (by kernel_rfl) (fun _ => by kernel_rfl)) ?_
        refine pk_cons rfl rfl (st_pure [] [(4, .int .i64 ((q : Nat) : Int))] (.int .i64 ((q : Nat) : Int)) rfl hN_0 (by kernel_rfl) (by kernel_rfl) (by kernel_rfl) (old1 e4_0) (by kernel_rfl) (by kernel_rfl) (by kernel_rfl) (fun _ => by kernel_rfl)) ?_
        refine pk_cons rfl rfl (st_pure [.string s, .int .i64 ((q : Nat) : Int)] [] (.string (s.extract 0 q)) rfl hN_0 (by kernel_rfl) (by kernel_rfl) (by kernel_rfl) old0 (by kernel_rfl) (by kernel_rfl) (by kernel_rfl) (fun _ => ex_slLo (by kernel_rfl) (by kernel_rfl) hks)) ?_
        refine pk_cons rfl rfl (st_call1 hN_0 (by kernel_rfl) (by kernel_rfl) (by kernel_rfl) rfl rfl fun w x v1 hC h1 => called_at h1 (HA.out _)) ?_
        refine pk_cons rfl rfl (st_move hN_0 (by kernel_rfl) (by kernel_rfl) rfl rfl) ?_
        refine pk_cons rfl rfl (st_ext hN_0 (by kernel_rfl) (by kernel_rfl) rfl rfl ext_z) ?_
        refine pk_cons rfl rfl (st_ext hN_0 (by kernel_rfl) (by kernel_rfl) rfl rfl ext_ok) ?_
        refine pk_cons rfl rfl (st_alloc hN_0 (by kernel_rfl) (Nat.le_refl _) rfl) ?_
        refine pk_cons rfl rfl (st_put hN_0 (by kernel_rfl) (by kernel_rfl) (by kernel_rfl) rfl rfl rfl) ?_
        refine pk_cons rfl rfl (st_pure [.bool true] [] (.bool true) rfl hN_0 (by kernel_rfl) (by kernel_rfl) (by kernel_rfl) old0 (by kernel_rfl) (by kernel_rfl) (by kernel_rfl) (fun _ => by kernel_rfl)) ?_
        exact pk_nil rfl
      intro W_1 x_ hC hall
      refine then_n ?_
      obtain ⟨a_1, ha⟩ : ∃ a, a = putE x_ a_0 [(0, some 23), (1, some 24), (2, some 25), (3, some 26), (4, some 22), (5, some 27), (6, some 28), (7, some 5), (8, none), (9, some 6)] := ⟨_, rfl⟩
      rw [← ha]
      have hN_1 := size_behind ha hN_0
      have hD_1 := defers_behind ha hD_0
      have bb_1 := bb_0.trans hC.below
      have e0_1 := slot_old ha (by kernel_rfl) e0_0
      have e2_1 := slot_old ha (by kernel_rfl) e2_0
      have e4_1 := slot_old ha (by kernel_rfl) e4_0
      have R_1 := hC.holds R_0
      obtain ⟨g5, hx, hge, l5_1⟩ := put_locG (show (kPutZ 7 19 (a.num)).sem _ _ _ _ from hall 8 (of_decide_eq_true (by kernel_rfl)))
      have d5 := Nat.lt_of_lt_of_le R_0.lt hge
      clear hge
      have e5_1 := (slot_new (t := 5) (i := 7) ha hN_0 (by kernel_rfl) (by kernel_rfl)).trans hx
      clear hx
      have e6_1 := (slot_new (t := 6) (i := 9) ha hN_0 (by kernel_rfl) (by kernel_rfl)).trans (show x_ 9 = .bool true from hall 9 (of_decide_eq_true (by kernel_rfl)))
      clear hall hC ha bb_0 hD_0 e0_0 e2_0 e4_0 R_0
      have q5_1 := l5_1.atR
      clear l5_1
      refine hrest _ _ ?_
      repeat (first | refine wp_seq ?_ | (refine wp_skip ?_; refine then_n ?_))
      refine wp_region_law hN_1 w.heap.size
        [kIs (.bool true), kIs (.bool false)]
        [ [], [(0, some 29)] ]
        [(0, some 29), (1, some 30)] [] [] (by kernel_rfl) (by kernel_rfl) (by kernel_rfl) (by kernel_rfl) (by kernel_rfl) (by kernel_rfl) (by kernel_rfl) bb_1.size ?_ ?_
      ·
        refine pk_cons rfl rfl (st_pure [] [(6, .bool true)] (.bool true) rfl hN_1 (by kernel_rfl) (by kernel_rfl) (by kernel_rfl) (old1 e6_1) (by kernel_rfl) (by kernel_rfl) (by kernel_rfl) (fun _ => by kernel_rfl)) ?_
        refine pk_cons rfl rfl (st_pure [.bool true] [] (.bool false) rfl hN_1 (by kernel_rfl) (by kernel_rfl) (by kernel_rfl) old0 (by kernel_rfl) (by kernel_rfl) (by kernel_rfl) (fun _ => by kernel_rfl)) ?_
        exact pk_nil rfl
      intro W_2 x_ hC hall
      refine then_n ?_
      obtain ⟨a_2, ha⟩ : ∃ a, a = putE x_ a_1 [(0, some 29), (1, some 30)] := ⟨_, rfl⟩
      rw [← ha]
      have hN_2 := size_behind ha hN_1
      have hD_2 := defers_behind ha hD_1
      have bb_2 := bb_1.trans hC.below
      have e0_2 := slot_old ha (by kernel_rfl) e0_1
      have e2_2 := slot_old ha (by kernel_rfl) e2_1
      have e4_2 := slot_old ha (by kernel_rfl) e4_1
      have e5_2 := slot_old ha (by kernel_rfl) e5_1
      have e6_2 := slot_old ha (by kernel_rfl) e6_1
      have R_2 := hC.holds R_1
      have q5_2 := hC.at0 q5_1
      have e30_2 := (slot_new (t := 30) (i := 1) ha hN_1 (by kernel_rfl) (by kernel_rfl)).trans (show x_ 1 = .bool false from hall 1 (of_decide_eq_true (by kernel_rfl)))
      clear hall hC ha bb_1 hD_1 e0_1 e2_1 e4_1 e5_1 e6_1 R_1 q5_1
      refine wp_cond_false e30_2 ?_
      repeat (first | refine wp_seq ?_ | (refine wp_skip ?_; refine then_n ?_))
      refine wp_region_law hN_2 w.heap.size
        [kIs (.int .i64 ((q : Nat) : Int)), kIs (.string s), kIs (.int .i64 (s.size : Int)), kIs (.bool false)]
        [ [], [], [(1, some 33)], [(0, some 32), (2, some 34)] ]
        [(0, some 32), (1, some 33), (2, some 34), (3, some 35)] [] [] (by kernel_rfl) (by kernel_rfl) (by kernel_rfl) (by kernel_rfl) (by kernel_rfl) (by kernel_rfl) (by kernel_rfl) bb_2.size ?_ ?_
      ·
        refine pk_cons rfl rfl (st_pure [] [(4, .int .i64 ((q : Nat) : Int))] (.int .i64 ((q : Nat) : Int)) rfl hN_2 (by kernel_rfl) (by kernel_rfl) (by kernel_rfl) (old1 e4_2) (by kernel_rfl) (by kernel_rfl) (by kernel_rfl) (fun _ => by kernel_rfl)) ?_
        refine pk_cons rfl rfl (st_pure [] [(0, .string s)] (.string s) rfl hN_2 (by kernel_rfl) (by kernel_rfl) (by kernel_rfl) (old1 e0_2) (by kernel_rfl) (by kernel_rfl) (by kernel_rfl) (fun _ => by kernel_rfl)) ?_
        refine pk_cons rfl rfl (st_pure [.string s] [] (.int .i64 (s.size : Int)) rfl hN_2 (by kernel_rfl) (by kernel_rfl) (by kernel_rfl) old0 (by kernel_rfl) (by kernel_rfl) (by kernel_rfl) (fun _ => by kernel_rfl)) ?_
        refine pk_cons rfl rfl (st_pureV [.int .i64 ((q : Nat) : Int), .int .i64 (s.size : Int)] [] (.bool ((q : Int) == (s.size : Int))) (.bool false) (congrArg Value.bool hwh) rfl hN_2 (by kernel_rfl) (by kernel_rfl) (by kernel_rfl) old0 (by kernel_rfl) (by kernel_rfl) (by kernel_rfl) (fun _ => by kernel_rfl)) ?_
        exact pk_nil rfl
      intro W_3 x_ hC hall
      refine then_n ?_
      obtain ⟨a_3, ha⟩ : ∃ a, a = putE x_ a_2 [(0, some 32), (1, some 33), (2, some 34), (3, some 35)] := ⟨_, rfl⟩
      rw [← ha]
      have hN_3 := size_behind ha hN_2
      have hD_3 := defers_behind ha hD_2
      have bb_3 := bb_2.trans hC.below
      have e0_3 := slot_old ha (by kernel_rfl) e0_2
      have e2_3 := slot_old ha (by kernel_rfl) e2_2
      have e4_3 := slot_old ha (by kernel_rfl) e4_2
      have e5_3 := slot_old ha (by kernel_rfl) e5_2
      have e6_3 := slot_old ha (by kernel_rfl) e6_2
      have e30_3 := slot_old ha (by kernel_rfl) e30_2
      have R_3 := hC.holds R_2
      have q5_3 := hC.at0 q5_2
      have e35_3 := (slot_new (t := 35) (i := 3) ha hN_2 (by kernel_rfl) (by kernel_rfl)).trans (show x_ 3 = .bool false from hall 3 (of_decide_eq_true (by kernel_rfl)))
      clear hall hC ha bb_2 hD_2 e0_2 e2_2 e4_2 e5_2 e6_2 e30_2 R_2 q5_2
      refine wp_cond_false e35_3 ?_
      repeat (first | refine wp_seq ?_ | (refine wp_skip ?_; refine then_n ?_))
      refine wp_region_law hN_3 w.heap.size
        [kIs (.string s), kIs (.int .i64 ((q : Nat) : Int)), kIs (.int .i64 ((q : Int) + 1)), kIs (.string (s.extract (q + 1) s.size)), kZB 19 ((a.den : Int)) true, kZB 19 ((a.den : Int)) true, kZ 19 ((a.den : Int)), kIs (.bool true), PK.fresh 2, kPutZ 8 19 ((a.den : Int)), kIs (.bool true)]
        [ [], [], [(1, some 40)], [(0, some 39), (2, some 41)], [(3, some 42)], [(4, some 43)], [(5, some 38)], [(5, some 38)], [], [(8, some 7), (6, some 44)], [(7, some 45)] ]
        [(0, some 39), (1, some 40), (2, some 41), (3, some 42), (4, some 43), (5, some 38), (6, some 44), (7, some 45), (8, some 7), (9, none), (10, some 8)] [] [] (by kernel_rfl) (by kernel_rfl) (by kernel_rfl) (by kernel_rfl) (by kernel_rfl) (by kernel_rfl) (by kernel_rfl) bb_3.size ?_ ?_
      ·
        refine pk_cons rfl rfl (st_pure [] [(0, .string s)] (.string s) rfl hN_3 (by kernel_rfl) (by kernel_rfl) (by kernel_rfl) (old1 e0_3) (by kernel_rfl) (by kernel_rfl) (by kernel_rfl) (fun _ => by kernel_rfl)) ?_
        refine pk_cons rfl rfl (st_pure [] [(4, .int .i64 ((q : Nat) : Int))] (.int .i64 ((q : Nat) : Int)) rfl hN_3 (by kernel_rfl) (by kernel_rfl) (by kernel_rfl) (old1 e4_3) (by kernel_rfl) (by kernel_rfl) (by kernel_rfl) (fun _ => by kernel_rfl)) ?_
        refine pk_cons rfl rfl (st_pure [.int .i64 ((q : Nat) : Int)] [] (.int .i64 ((q : Int) + 1)) rfl hN_3 (by kernel_rfl) (by kernel_rfl) (by kernel_rfl) old0 (by kernel_rfl) (by kernel_rfl) (by kernel_rfl) (fun _ => ex_add1 (by kernel_rfl) (by kernel_rfl) hk1)) ?_
        refine pk_cons rfl rfl (st_pure [.string s, .int .i64 ((q : Int) + 1)] [] (.string (s.extract (q + 1) s.size)) rfl hN_3 (by kernel_rfl) (by kernel_rfl) (by kernel_rfl) old0 (by kernel_rfl) (by kernel_rfl) (by kernel_rfl) (fun _ => ex_slHi (by kernel_rfl) (by kernel_rfl) hkl)) ?_
        refine pk_cons rfl rfl (st_call1 hN_3 (by kernel_rfl) (by kernel_rfl) (by kernel_rfl) rfl rfl fun w x v1 hC h1 => called_at h1 (HB.out _)) ?_
        refine pk_cons rfl rfl (st_move hN_3 (by kernel_rfl) (by kernel_rfl) rfl rfl) ?_
        refine pk_cons rfl rfl (st_ext hN_3 (by kernel_rfl) (by kernel_rfl) rfl rfl ext_z) ?_
        refine pk_cons rfl rfl (st_ext hN_3 (by kernel_rfl) (by kernel_rfl) rfl rfl ext_ok) ?_
        refine pk_cons rfl rfl (st_alloc hN_3 (by kernel_rfl) (Nat.le_refl _) rfl) ?_
        refine pk_cons rfl rfl (st_put hN_3 (by kernel_rfl) (by kernel_rfl) (by kernel_rfl) rfl rfl rfl) ?_
        refine pk_cons rfl rfl (st_pure [.bool true] [] (.bool true) rfl hN_3 (by kernel_rfl) (by kernel_rfl) (by kernel_rfl) old0 (by kernel_rfl) (by kernel_rfl) (by kernel_rfl) (fun _ => by kernel_rfl)) ?_
        exact pk_nil rfl
      intro W_4 x_ hC hall
      refine then_n ?_
      obtain ⟨a_4, ha⟩ : ∃ a, a = putE x_ a_3 [(0, some 39), (1, some 40), (2, some 41), (3, some 42), (4, some 43), (5, some 38), (6, some 44), (7, some 45), (8, some 7), (9, none), (10, some 8)] := ⟨_, rfl⟩
      rw [← ha]
      have hN_4 := size_behind ha hN_3
      have hD_4 := defers_behind ha hD_3
      have bb_4 := bb_3.trans hC.below
      have e0_4 := slot_old ha (by kernel_rfl) e0_3
      have e2_4 := slot_old ha (by kernel_rfl) e2_3
      have e4_4 := slot_old ha (by kernel_rfl) e4_3
      have e5_4 := slot_old ha (by kernel_rfl) e5_3
      have e6_4 := slot_old ha (by kernel_rfl) e6_3
      have e30_4 := slot_old ha (by kernel_rfl) e30_3
      have e35_4 := slot_old ha (by kernel_rfl) e35_3
      have R_4 := hC.holds R_3
      have q5_4 := hC.at0 q5_3
      obtain ⟨g7, hx, hge, l7_4⟩ := put_locG (show (kPutZ 8 19 ((a.den : Int))).sem _ _ _ _ from hall 9 (of_decide_eq_true (by kernel_rfl)))
      have d7 := Nat.lt_of_lt_of_le R_3.lt hge
      clear hge
      have e7_4 := (slot_new (t := 7) (i := 8) ha hN_3 (by kernel_rfl) (by kernel_rfl)).trans hx
      clear hx
      have e8_4 := (slot_new (t := 8) (i := 10) ha hN_3 (by kernel_rfl) (by kernel_rfl)).trans (show x_ 10 = .bool true from hall 10 (of_decide_eq_true (by kernel_rfl)))
      clear hall hC ha bb_3 hD_3 e0_3 e2_3 e4_3 e5_3 e6_3 e30_3 e35_3 R_3 q5_3
      have q7_4 := l7_4.atR
      clear l7_4
      repeat (first | refine wp_seq ?_ | (refine wp_skip ?_; refine then_n ?_))
      refine wp_region_law hN_4 w.heap.size
        [kZ 19 (a.num), kZ 19 ((a.den : Int)), kP 19 (a.num) ((a.den : Int)), PK.fresh 4, kPutP 3 19 (a.num) ((a.den : Int))]
        [ [], [], [(0, some 46), (1, some 47)], [], [(3, some 9), (2, some 48)] ]
        [(0, some 46), (1, some 47), (2, some 48), (3, some 9), (4, none)] [] [] (by kernel_rfl) (by kernel_rfl) (by kernel_rfl) (by kernel_rfl) (by kernel_rfl) (by kernel_rfl) (by kernel_rfl) bb_4.size ?_ ?_
      ·
        refine pk_cons rfl rfl (st_loadB q5_4 (by simp) e5_4 hN_4 (by kernel_rfl) rfl) ?_
        refine pk_cons rfl rfl (st_loadB q7_4 (by simp) e7_4 hN_4 (by kernel_rfl) rfl) ?_
        refine pk_cons rfl rfl (st_buildP (k := 19) hN_4 (by kernel_rfl) (by kernel_rfl) (by kernel_rfl) (by kernel_rfl) (by kernel_rfl) (by kernel_rfl) rfl rfl rfl) ?_
        refine pk_cons rfl rfl (st_allocP hN_4 (by kernel_rfl) (Nat.le_refl _) rfl) ?_
        refine pk_cons rfl rfl (st_putP hN_4 (by kernel_rfl) (by kernel_rfl) (by kernel_rfl) rfl rfl rfl) ?_
        exact pk_nil rfl
      intro W_5 x_ hC hall
      refine then_n ?_
      obtain ⟨a_5, ha⟩ : ∃ a, a = putE x_ a_4 [(0, some 46), (1, some 47), (2, some 48), (3, some 9), (4, none)] := ⟨_, rfl⟩
      rw [← ha]
      have hN_5 := size_behind ha hN_4
      have hD_5 := defers_behind ha hD_4
      have bb_5 := bb_4.trans hC.below
      have e0_5 := slot_old ha (by kernel_rfl) e0_4
      have e2_5 := slot_old ha (by kernel_rfl) e2_4
      have e4_5 := slot_old ha (by kernel_rfl) e4_4
      have e5_5 := slot_old ha (by kernel_rfl) e5_4
      have e6_5 := slot_old ha (by kernel_rfl) e6_4
      have e30_5 := slot_old ha (by kernel_rfl) e30_4
      have e35_5 := slot_old ha (by kernel_rfl) e35_4
      have e7_5 := slot_old ha (by kernel_rfl) e7_4
      have e8_5 := slot_old ha (by kernel_rfl) e8_4
      have R_5 := hC.holds R_4
      have q5_5 := hC.at0 q5_4
      have q7_5 := hC.at0 q7_4
      obtain ⟨g9, hx, hge, p9_5, p9'_5⟩ := put_atP (show (kPutP 3 19 (a.num) ((a.den : Int))).sem _ _ _ _ from hall 4 (of_decide_eq_true (by kernel_rfl)))
      have e9_5 := (slot_new (t := 9) (i := 3) ha hN_4 (by kernel_rfl) (by kernel_rfl)).trans hx
      have d9 := Nat.lt_of_lt_of_le R_4.lt hge
      clear hx hge
      clear hall hC ha bb_4 hD_4 e0_4 e2_4 e4_4 e5_4 e6_4 e30_4 e35_4 e7_4 e8_4 R_4 q5_4 q7_4
      repeat (first | refine wp_seq ?_ | (refine wp_skip ?_; refine then_n ?_))
      refine wp_region_law hN_5 w.heap.size
        [kIs (.bool true), kIs (.bool false), kIs (.bool false), kP 19 (a.num) ((a.den : Int)), kIs (.bool true), kIs (.bool false), kIs (.bool false), kIs (.bool false), kP 19 (a.num) ((a.den : Int)), kIs (.string (textQ a)), kIs (.string s), kIs (.bool true), kIs (.bool true)]
        [ [], [(0, some 49)], [(1, some 50)], [], [(3, some 52)], [(4, some 53)], [(2, some 51), (5, some 54)], [(6, some 55)], [], [(8, some 57)], [], [(9, some 58), (10, some 59)], [(7, some 56), (11, some 60)] ]
        [(0, some 49), (1, some 50), (2, some 51), (3, some 52), (4, some 53), (5, some 54), (6, some 55), (7, some 56), (8, some 57), (9, some 58), (10, some 59), (11, some 60), (12, some 61)] [(2, false), (7, false)] [] (by kernel_rfl) (by kernel_rfl) (by kernel_rfl) (by kernel_rfl) (by kernel_rfl) (by kernel_rfl) (by kernel_rfl) bb_5.size ?_ ?_
      ·
        refine pk_cons rfl rfl (st_pure [] [(8, .bool true)] (.bool true) rfl hN_5 (by kernel_rfl) (by kernel_rfl) (by kernel_rfl) (old1 e8_5) (by kernel_rfl) (by kernel_rfl) (by kernel_rfl) (fun _ => by kernel_rfl)) ?_
        refine pk_cons rfl rfl (st_pure [.bool true] [] (.bool false) rfl hN_5 (by kernel_rfl) (by kernel_rfl) (by kernel_rfl) old0 (by kernel_rfl) (by kernel_rfl) (by kernel_rfl) (fun _ => by kernel_rfl)) ?_
        refine pk_cons rfl rfl (st_pure [.bool false] [] (.bool false) rfl hN_5 (by kernel_rfl) (by kernel_rfl) (by kernel_rfl) old0 (by kernel_rfl) (by kernel_rfl) (by kernel_rfl) (fun _ => by kernel_rfl)) ?_
        refine pk_cons rfl rfl (st_load4P p9_5 p9'_5 (by simp) e9_5 hN_5 (by kernel_rfl) rfl) ?_
        refine pk_cons rfl rfl (st_call1 hN_5 (by kernel_rfl) (by kernel_rfl) (by kernel_rfl) rfl rfl fun w x v1 hC h1 => ti (refRight_yes (pm (by decide) h1))) ?_
        refine pk_cons rfl rfl (st_pure [.bool true] [] (.bool false) rfl hN_5 (by kernel_rfl) (by kernel_rfl) (by kernel_rfl) old0 (by kernel_rfl) (by kernel_rfl) (by kernel_rfl) (fun _ => by kernel_rfl)) ?_
        refine pk_cons rfl rfl (st_pure [.bool false, .bool false] [] (.bool false) rfl hN_5 (by kernel_rfl) (by kernel_rfl) (by kernel_rfl) old0 (by kernel_rfl) (by kernel_rfl) (by kernel_rfl) (fun _ => by kernel_rfl)) ?_
        refine pk_cons rfl rfl (st_pure [.bool false] [] (.bool false) rfl hN_5 (by kernel_rfl) (by kernel_rfl) (by kernel_rfl) old0 (by kernel_rfl) (by kernel_rfl) (by kernel_rfl) (fun _ => by kernel_rfl)) ?_
        refine pk_cons rfl rfl (st_load4P p9_5 p9'_5 (by simp) e9_5 hN_5 (by kernel_rfl) rfl) ?_
        refine pk_cons rfl rfl (st_call1 hN_5 (by kernel_rfl) (by kernel_rfl) (by kernel_rfl) rfl rfl fun w x v1 hC h1 => ti (refText_yes (pm (by decide) h1))) ?_
        refine pk_cons rfl rfl (st_pure [] [(0, .string s)] (.string s) rfl hN_5 (by kernel_rfl) (by kernel_rfl) (by kernel_rfl) (old1 e0_5) (by kernel_rfl) (by kernel_rfl) (by kernel_rfl) (fun _ => by kernel_rfl)) ?_
        refine pk_cons rfl rfl (st_pureV [.string (textQ a), .string s] [] (.bool (!((textQ a).toList == (s).toList))) (.bool true) (congrArg Value.bool (by rw [htx]; rfl)) rfl hN_5 (by kernel_rfl) (by kernel_rfl) (by kernel_rfl) old0 (by kernel_rfl) (by kernel_rfl) (by kernel_rfl) (fun _ => by kernel_rfl)) ?_
        refine pk_cons rfl rfl (st_pure [.bool false, .bool true] [] (.bool true) rfl hN_5 (by kernel_rfl) (by kernel_rfl) (by kernel_rfl) old0 (by kernel_rfl) (by kernel_rfl) (by kernel_rfl) (fun _ => by kernel_rfl)) ?_
        exact pk_nil rfl
      intro W_6 x_ hC hall
      refine then_n ?_
      obtain ⟨a_6, ha⟩ : ∃ a, a = putE x_ a_5 [(0, some 49), (1, some 50), (2, some 51), (3, some 52), (4, some 53), (5, some 54), (6, some 55), (7, some 56), (8, some 57), (9, some 58), (10, some 59), (11, some 60), (12, some 61)] := ⟨_, rfl⟩
      rw [← ha]
      have hN_6 := size_behind ha hN_5
      have hD_6 := defers_behind ha hD_5
      have bb_6 := bb_5.trans hC.below
      have e0_6 := slot_old ha (by kernel_rfl) e0_5
      have e2_6 := slot_old ha (by kernel_rfl) e2_5
      have e4_6 := slot_old ha (by kernel_rfl) e4_5
      have e5_6 := slot_old ha (by kernel_rfl) e5_5
      have e6_6 := slot_old ha (by kernel_rfl) e6_5
      have e30_6 := slot_old ha (by kernel_rfl) e30_5
      have e35_6 := slot_old ha (by kernel_rfl) e35_5
      have e7_6 := slot_old ha (by kernel_rfl) e7_5
      have e8_6 := slot_old ha (by kernel_rfl) e8_5
      have e9_6 := slot_old ha (by kernel_rfl) e9_5
      have R_6 := hC.holds R_5
      have q5_6 := hC.at0 q5_5
      have q7_6 := hC.at0 q7_5
      have p9_6 := hC.at0 p9_5
      have p9'_6 := hC.at0 p9'_5
      have e61_6 := (slot_new (t := 61) (i := 12) ha hN_5 (by kernel_rfl) (by kernel_rfl)).trans (show x_ 12 = .bool true from hall 12 (of_decide_eq_true (by kernel_rfl)))
      clear hall hC ha bb_5 hD_5 e0_5 e2_5 e4_5 e5_5 e6_5 e30_5 e35_5 e7_5 e8_5 e9_5 R_5 q5_5 q7_5 p9_5 p9'_5
      refine wp_cond_true e61_6 ?_
      repeat (first | refine wp_seq ?_ | (refine wp_skip ?_; refine then_n ?_))
      refine wp_region_res hN_6 w.heap.size (w.heap.size) R_6 (by omega)
        [kP 1 (0) (1), kRes (w.heap.size) 1 (0) (1), kIs (.bool false)]
        [ [], [(0, some 62)], [] ]
        [(0, some 62), (1, none), (2, some 3)] [] [] (by kernel_rfl) (by kernel_rfl) (by kernel_rfl) (by kernel_rfl) (by kernel_rfl) (by kernel_rfl) (by kernel_rfl) bb_6.size ?_ ?_
      ·
        refine pk_cons rfl rfl (st_call0 [] hN_6 (by kernel_rfl) (by kernel_rfl) rfl rfl fun w x hC => tp ref_nought) ?_
        refine pk_cons rfl rfl (st_resP R_6 rfl (by simp) e2_6 hN_6 (by kernel_rfl) (by kernel_rfl) rfl rfl) ?_
        refine pk_cons rfl rfl (st_pure [] [] (.bool false) rfl hN_6 (by kernel_rfl) (by kernel_rfl) (by kernel_rfl) old0 (by kernel_rfl) (by kernel_rfl) (by kernel_rfl) (fun _ => by kernel_rfl)) ?_
        exact pk_nil rfl
      intro W x_ hC hall
      refine then_n ?_
      obtain ⟨a1, ha⟩ : ∃ a, a = putE x_ a_6 [(0, some 62), (1, none), (2, some 3)] := ⟨_, rfl⟩
      rw [← ha]
      have hD1 := defers_behind ha hD_6
      have bb1 := bb_6.trans hC.below
      obtain ⟨cs, hg, hP⟩ := (show (kRes (w.heap.size) 1 (0) (1)).sem _ _ _ _ from hall 1 (of_decide_eq_true (by kernel_rfl)))
      have e1 := slot_old (t := 2) ha (by kernel_rfl) e2_6
      have e2 := (slot_new (t := 3) (i := 2) ha hN_6 (by kernel_rfl) (by kernel_rfl)).trans (show x_ 2 = .bool false from hall 2 (of_decide_eq_true (by kernel_rfl)))
      repeat (first | refine wp_seq ?_ | (refine wp_skip ?_; refine then_n ?_))
      refine wp_ret ?_
      repeat (refine then_r ?_)
      exact ret_cellP2 (t := 2) (u := 3) rfl hD1 e1 e2 hg hP fun v hv => ⟨v, rfl, hv, bb1⟩
set_option maxRecDepth 100000 in
set_option maxHeartbeats 8000000 in
theorem refParse_cut_yes {w : World} {s : ByteArray} {k : Nat} (hs : s.size ≤ 100) (hk : k < s.size) (h1 : ∀ j, j < k → (bt s).getD j 0 ≠ 47) (h2 : (bt s).getD k 0 = 47) {a : Rat} (HA : Hid (∀ (W : World) {S0 : Nat} {x_ : Nat → Value}, Calls Tryz.prog 27 #[.string (s.extract 0 k)] W (Told (kZB 19 (a.num) true) S0 x_ W))) (HB : Hid (∀ (W : World) {S0 : Nat} {x_ : Nat → Value}, Calls Tryz.prog 27 #[.string (s.extract (k + 1) s.size)] W (Told (kZB 19 ((a.den : Int)) true) S0 x_ W))) (htx : ((textQ a).toList == (s).toList) = true) :
    Calls Tryz.prog 8 #[.string s] w fun e w' => ∃ v, e = .returned (.tuple #[v, .bool true]) ∧ Pr w' v 19 (a.num) ((a.den : Int)) ∧ Below w.heap.size w w' := by
  have HP := Lib.hid (show (∀ j, j < k → (bt s).getD j 0 ≠ 47) ∧ (bt s).getD k 0 = 47 from ⟨h1, h2⟩)
  have hks : k ≤ s.size := by omega
  have hk1 : k ≤ 100 := by omega
  have hkl : k + 1 ≤ s.size := by omega
  have hwh : ((k : Int) == (s.size : Int)) = false := by rw [beq_eq_false_iff_ne]; omega
  have HC := Lib.hid (show k ≤ s.size ∧ k ≤ 100 ∧ ((k : Int) == (s.size : Int)) = false ∧ k + 1 ≤ s.size ∧ ((textQ a).toList == (s).toList) = true from ⟨hks, hk1, hwh, hkl, htx⟩)
  clear h1 h2 hk1 hwh hkl htx
  go_enter Tryz.func8, Tryz.ntmps8
  go_wp2_with fail
  go_loop [4] (fun i => ∃ q : Nat, q ≤ k ∧ i = .int .i64 q) (fun i => k - (intOf i).toNat)
  case atStart => exact ⟨0, Nat.zero_le _, rfl⟩
  case round =>
    obtain ⟨q, hq, rfl⟩ := hrel
    by_cases hlt : q < k
    · have hqs : q < s.size := by omega
      have hx := bt_at s q hqs
      obtain ⟨x, hxe⟩ : ∃ x, x = (bt s).getD q 0 := ⟨_, rfl⟩
      rw [← hxe] at hx
      have h47 : ((x : Int) == 47) = false := by rw [beq_eq_false_iff_ne]; have := HP.out.1 q hlt; omega
      clear hxe
      go_wp2
      go_round
      case rel => exact ⟨q + 1, by omega, by go_num⟩
      case measure => first | (simp [intOf]; done) | (simp [intOf]; omega)
    · obtain rfl : q = k := by omega
      have hk' := hq
      have he : q < s.size := hk
      have hx := bt_at s q he
      rw [HP.out.2] at hx
      go_upto_region 4 with fail
      rename_i hrest
      clear hk' hlt hq HP he hx
      obtain ⟨W_0, hW⟩ : ∃ W, W = w.alloc (Obj.cells #[Value.bool false, Value.slice none 0 0, Value.bool false, Value.slice none 0 0] 27) := ⟨_, rfl⟩
      have bb_0 : Below w.heap.size w W_0 := by rw [hW]; exact bal (Below.refl _ _) _
      have K0 : W_0.heap[w.heap.size]? = some (Obj.cells #[Value.bool false, Value.slice none 0 0, Value.bool false, Value.slice none 0 0] 27) := by rw [hW]; exact new_at (by simp)
      rw [← hW]
      have R_0 : Holds_ W_0 (w.heap.size) #[Value.bool false, Value.slice none 0 0, Value.bool false, Value.slice none 0 0] := ⟨⟨_, K0⟩, by simp [noDig]⟩
      clear hW K0
      obtain ⟨hks, hk1, hwh, hkl, htx⟩ := HC.out
      refine name_frame (G := fun a => Code.wp _ _ _ a _) ?_
      intro a_0 ha
      have hN_0 : a_0.tmps.size = 64 := by subst ha; kernel_rfl
      have hD_0 : a_0.defers = [] := by subst ha; rfl
      have e0_0 : a_0.eval (.tmp 0) = .string s := by subst ha; kernel_rfl
      have e2_0 : a_0.eval (.tmp 2) = .pointer (some ⟨w.heap.size, 0, none⟩) := by subst ha; kernel_rfl
      have e4_0 : a_0.eval (.tmp 4) = .int .i64 ((q : Nat) : Int) := by subst ha; kernel_rfl
      clear ha
      repeat (first | refine wp_seq ?_ | (refine wp_skip ?_; refine then_n ?_))
      refine wp_region_law hN_0 w.heap.size
        [kIs (.string s), kIs (.int .i64 ((q : Nat) : Int)), kIs (.string (s.extract 0 q)), kZB 19 (a.num) true, kZB 19 (a.num) true, kZ 19 (a.num), kIs (.bool true), PK.fresh 2, kPutZ 7 19 (a.num), kIs (.bool true)]
        [ [], [], [(0, some 23), (1, some 24)], [(2, some 25)], [(3, some 26)], [(4, some 22)], [(4, some 22)], [], [(7, some 5), (5, some 27)], [(6, some 28)] ]
        [(0, some 23), (1, some 24), (2, some 25), (3, some 26), (4, some 22), (5, some 27), (6, some 28), (7, some 5), (8, none), (9, some 6)] [] [] (by kernel_rfl) (by kernel_rfl) (by kernel_rfl) (by kernel_rfl) (by kernel_rfl) (by kernel_rfl) (by kernel_rfl) bb_0.size ?_ ?_
      ·
        refine pk_cons rfl rfl (st_pure [] [(0, .string s)] (.string s) rfl hN_0 (by kernel_rfl) (by kernel_rfl) (by kernel_rfl) (old1 e0_0) (by kernel_rfl) (by kernel_rfl) (by kernel_rfl) (fun _ => by kernel_rfl)) ?_
        refine pk_cons rfl rfl (st_pure [] [(4, .int .i64 ((q : Nat) : Int))] (.int .i64 ((q : Nat) : Int)) rfl hN_0 (by kernel_rfl) (by kernel_rfl) (by kernel_rfl) (old1 e4_0) (by kernel_rfl) (by kernel_rfl) (by kernel_rfl) (fun _ => by kernel_rfl)) ?_
        refine pk_cons rfl rfl (st_pure [.string s, .int .i64 ((q : Nat) : Int)] [] (.string (s.extract 0 q)) rfl hN_0 (by kernel_rfl) (by kernel_rfl) (by kernel_rfl) old0 (by kernel_rfl) (by kernel_rfl) (by kernel_rfl) (fun _ => ex_slLo (by kernel_rfl) (by kernel_rfl) hks)) ?_
        refine pk_cons rfl rfl (st_call1 hN_0 (by kernel_rfl) (by kernel_rfl) (by kernel_rfl) rfl rfl fun w x v1 hC h1 => called_at h1 (HA.out _)) ?_
        refine pk_cons rfl rfl (st_move hN_0 (by kernel_rfl) (by kernel_rfl) rfl rfl) ?_
        refine pk_cons rfl rfl (st_ext hN_0 (by kernel_rfl) (by kernel_rfl) rfl rfl ext_z) ?_
        refine pk_cons rfl rfl (st_ext hN_0 (by kernel_rfl) (by kernel_rfl) rfl rfl ext_ok) ?_
        refine pk_cons rfl rfl (st_alloc hN_0 (by kernel_rfl) (Nat.le_refl _) rfl) ?_
        refine pk_cons rfl rfl (st_put hN_0 (by kernel_rfl) (by kernel_rfl) (by kernel_rfl) rfl rfl rfl) ?_
        refine pk_cons rfl rfl (st_pure [.bool true] [] (.bool true) rfl hN_0 (by kernel_rfl) (by kernel_rfl) (by kernel_rfl) old0 (by kernel_rfl) (by kernel_rfl) (by kernel_rfl) (fun _ => by kernel_rfl)) ?_
        exact pk_nil rfl
      intro W_1 x_ hC hall
      refine then_n ?_
      obtain ⟨a_1, ha⟩ : ∃ a, a = putE x_ a_0 [(0, some 23), (1, some 24), (2, some 25), (3, some 26), (4, some 22), (5, some 27), (6, some 28), (7, some 5), (8, none), (9, some 6)] := ⟨_, rfl⟩
      rw [← ha]
      have hN_1 := size_behind ha hN_0
      have hD_1 := defers_behind ha hD_0
      have bb_1 := bb_0.trans hC.below
      have e0_1 := slot_old ha (by kernel_rfl) e0_0
      have e2_1 := slot_old ha (by kernel_rfl) e2_0
      have e4_1 := slot_old ha (by kernel_rfl) e4_0
      have R_1 := hC.holds R_0
      obtain ⟨g5, hx, hge, l5_1⟩ := put_locG (show (kPutZ 7 19 (a.num)).sem _ _ _ _ from hall 8 (of_decide_eq_true (by kernel_rfl)))
      have d5 := Nat.lt_of_lt_of_le R_0.lt hge
      clear hge
      have e5_1 := (slot_new (t := 5) (i := 7) ha hN_0 (by kernel_rfl) (by kernel_rfl)).trans hx
      clear hx
      have e6_1 := (slot_new (t := 6) (i := 9) ha hN_0 (by kernel_rfl) (by kernel_rfl)).trans (show x_ 9 = .bool true from hall 9 (of_decide_eq_true (by kernel_rfl)))
      clear hall hC ha bb_0 hD_0 e0_0 e2_0 e4_0 R_0
      have q5_1 := l5_1.atR
      clear l5_1
      refine hrest _ _ ?_
      repeat (first | refine wp_seq ?_ | (refine wp_skip ?_; refine then_n ?_))
      refine wp_region_law hN_1 w.heap.size
        [kIs (.bool true), kIs (.bool false)]
        [ [], [(0, some 29)] ]
        [(0, some 29), (1, some 30)] [] [] (by kernel_rfl) (by kernel_rfl) (by kernel_rfl) (by kernel_rfl) (by kernel_rfl) (by kernel_rfl) (by kernel_rfl) bb_1.size ?_ ?_
      ·
        refine pk_cons rfl rfl (st_pure [] [(6, .bool true)] (.bool true) rfl hN_1 (by kernel_rfl) (by kernel_rfl) (by kernel_rfl) (old1 e6_1) (by kernel_rfl) (by kernel_rfl) (by kernel_rfl) (fun _ => by kernel_rfl)) ?_
        refine pk_cons rfl rfl (st_pure [.bool true] [] (.bool false) rfl hN_1 (by kernel_rfl) (by kernel_rfl) (by kernel_rfl) old0 (by kernel_rfl) (by kernel_rfl) (by kernel_rfl) (fun _ => by kernel_rfl)) ?_
        exact pk_nil rfl
      intro W_2 x_ hC hall
      refine then_n ?_
      obtain ⟨a_2, ha⟩ : ∃ a, a = putE x_ a_1 [(0, some 29), (1, some 30)] := ⟨_, rfl⟩
      rw [← ha]
      have hN_2 := size_behind ha hN_1
      have hD_2 := defers_behind ha hD_1
      have bb_2 := bb_1.trans hC.below
      have e0_2 := slot_old ha (by kernel_rfl) e0_1
      have e2_2 := slot_old ha (by kernel_rfl) e2_1
      have e4_2 := slot_old ha (by kernel_rfl) e4_1
      have e5_2 := slot_old ha (by kernel_rfl) e5_1
      have e6_2 := slot_old ha (by kernel_rfl) e6_1
      have R_2 := hC.holds R_1
      have q5_2 := hC.at0 q5_1
      have e30_2 := (slot_new (t := 30) (i := 1) ha hN_1 (by kernel_rfl) (by kernel_rfl)).trans (show x_ 1 = .bool false from hall 1 (of_decide_eq_true (by kernel_rfl)))
      clear hall hC ha bb_1 hD_1 e0_1 e2_1 e4_1 e5_1 e6_1 R_1 q5_1
      refine wp_cond_false e30_2 ?_
      repeat (first | refine wp_seq ?_ | (refine wp_skip ?_; refine then_n ?_))
      refine wp_region_law hN_2 w.heap.size
        [kIs (.int .i64 ((q : Nat) : Int)), kIs (.string s), kIs (.int .i64 (s.size : Int)), kIs (.bool false)]
        [ [], [], [(1, some 33)], [(0, some 32), (2, some 34)] ]
        [(0, some 32), (1, some 33), (2, some 34), (3, some 35)] [] [] (by kernel_rfl) (by kernel_rfl) (by kernel_rfl) (by kernel_rfl) (by kernel_rfl) (by kernel_rfl) (by kernel_rfl) bb_2.size ?_ ?_
      ·
        refine pk_cons rfl rfl (st_pure [] [(4, .int .i64 ((q : Nat) : Int))] (.int .i64 ((q : Nat) : Int)) rfl hN_2 (by kernel_rfl) (by kernel_rfl) (by kernel_rfl) (old1 e4_2) (by kernel_rfl) (by kernel_rfl) (by kernel_rfl) (fun _ => by kernel_rfl)) ?_
        refine pk_cons rfl rfl (st_pure [] [(0, .string s)] (.string s) rfl hN_2 (by kernel_rfl) (by kernel_rfl) (by kernel_rfl) (old1 e0_2) (by kernel_rfl) (by kernel_rfl) (by kernel_rfl) (fun _ => by kernel_rfl)) ?_
        refine pk_cons rfl rfl (st_pure [.string s] [] (.int .i64 (s.size : Int)) rfl hN_2 (by kernel_rfl) (by kernel_rfl) (by kernel_rfl) old0 (by kernel_rfl) (by kernel_rfl) (by kernel_rfl) (fun _ => by kernel_rfl)) ?_
        refine pk_cons rfl rfl (st_pureV [.int .i64 ((q : Nat) : Int), .int .i64 (s.size : Int)] [] (.bool ((q : Int) == (s.size : Int))) (.bool false) (congrArg Value.bool hwh) rfl hN_2 (by kernel_rfl) (by kernel_rfl) (by kernel_rfl) old0 (by kernel_rfl) (by kernel_rfl) (by kernel_rfl) (fun _ => by kernel_rfl)) ?_
        exact pk_nil rfl
      intro W_3 x_ hC hall
      refine then_n ?_
      obtain ⟨a_3, ha⟩ : ∃ a, a = putE x_ a_2 [(0, some 32), (1, some 33), (2, some 34), (3, some 35)] := ⟨_, rfl⟩
      rw [← ha]
      have hN_3 := size_behind ha hN_2
      have hD_3 := defers_behind ha hD_2
      have bb_3 := bb_2.trans hC.below
      have e0_3 := slot_old ha (by kernel_rfl) e0_2
      have e2_3 := slot_old ha (by kernel_rfl) e2_2
      have e4_3 := slot_old ha (by kernel_rfl) e4_2
      have e5_3 := slot_old ha (by kernel_rfl) e5_2
      have e6_3 := slot_old ha (by kernel_rfl) e6_2
      have e30_3 := slot_old ha (by kernel_rfl) e30_2
      have R_3 := hC.holds R_2
      have q5_3 := hC.at0 q5_2
      have e35_3 := (slot_new (t := 35) (i := 3) ha hN_2 (by kernel_rfl) (by kernel_rfl)).trans (show x_ 3 = .bool false from hall 3 (of_decide_eq_true (by kernel_rfl)))
      clear hall hC ha bb_2 hD_2 e0_2 e2_2 e4_2 e5_2 e6_2 e30_2 R_2 q5_2
      refine wp_cond_false e35_3 ?_
      repeat (first | refine wp_seq ?_ | (refine wp_skip ?_; refine then_n ?_))
      refine wp_region_law hN_3 w.heap.size
        [kIs (.string s), kIs (.int .i64 ((q : Nat) : Int)), kIs (.int .i64 ((q : Int) + 1)), kIs (.string (s.extract (q + 1) s.size)), kZB 19 ((a.den : Int)) true, kZB 19 ((a.den : Int)) true, kZ 19 ((a.den : Int)), kIs (.bool true), PK.fresh 2, kPutZ 8 19 ((a.den : Int)), kIs (.bool true)]
        [ [], [], [(1, some 40)], [(0, some 39), (2, some 41)], [(3, some 42)], [(4, some 43)], [(5, some 38)], [(5, some 38)], [], [(8, some 7), (6, some 44)], [(7, some 45)] ]
        [(0, some 39), (1, some 40), (2, some 41), (3, some 42), (4, some 43), (5, some 38), (6, some 44), (7, some 45), (8, some 7), (9, none), (10, some 8)] [] [] (by kernel_rfl) (by kernel_rfl) (by kernel_rfl) (by kernel_rfl) (by kernel_rfl) (by kernel_rfl) (by kernel_rfl) bb_3.size ?_ ?_
      ·
        refine pk_cons rfl rfl (st_pure [] [(0, .string s)] (.string s) rfl hN_3 (by kernel_rfl) (by kernel_rfl) (by kernel_rfl) (old1 e0_3) (by kernel_rfl) (by kernel_rfl) (by kernel_rfl) (fun _ => by kernel_rfl)) ?_
        refine pk_cons rfl rfl (st_pure [] [(4, .int .i64 ((q : Nat) : Int))] (.int .i64 ((q : Nat) : Int)) rfl hN_3 (by kernel_rfl) (by kernel_rfl) (by kernel_rfl) (old1 e4_3) (by kernel_rfl) (by kernel_rfl) (by kernel_rfl) (fun _ => by kernel_rfl)) ?_
        refine pk_cons rfl rfl (st_pure [.int .i64 ((q : Nat) : Int)] [] (.int .i64 ((q : Int) + 1)) rfl hN_3 (by kernel_rfl) (by kernel_rfl) (by kernel_rfl) old0 (by kernel_rfl) (by kernel_rfl) (by kernel_rfl) (fun _ => ex_add1 (by kernel_rfl) (by kernel_rfl) hk1)) ?_
        refine pk_cons rfl rfl (st_pure [.string s, .int .i64 ((q : Int) + 1)] [] (.string (s.extract (q + 1) s.size)) rfl hN_3 (by kernel_rfl) (by kernel_rfl) (by kernel_rfl) old0 (by kernel_rfl) (by kernel_rfl) (by kernel_rfl) (fun _ => ex_slHi (by kernel_rfl) (by kernel_rfl) hkl)) ?_
        refine pk_cons rfl rfl (st_call1 hN_3 (by kernel_rfl) (by kernel_rfl) (by kernel_rfl) rfl rfl fun w x v1 hC h1 => called_at h1 (HB.out _)) ?_
        refine pk_cons rfl rfl (st_move hN_3 (by kernel_rfl) (by kernel_rfl) rfl rfl) ?_
        refine pk_cons rfl rfl (st_ext hN_3 (by kernel_rfl) (by kernel_rfl) rfl rfl ext_z) ?_
        refine pk_cons rfl rfl (st_ext hN_3 (by kernel_rfl) (by kernel_rfl) rfl rfl ext_ok) ?_
        refine pk_cons rfl rfl (st_alloc hN_3 (by kernel_rfl) (Nat.le_refl _) rfl) ?_
        refine pk_cons rfl rfl (st_put hN_3 (by kernel_rfl) (by kernel_rfl) (by kernel_rfl) rfl rfl rfl) ?_
        refine pk_cons rfl rfl (st_pure [.bool true] [] (.bool true) rfl hN_3 (by kernel_rfl) (by kernel_rfl) (by kernel_rfl) old0 (by kernel_rfl) (by kernel_rfl) (by kernel_rfl) (fun _ => by kernel_rfl)) ?_
        exact pk_nil rfl
      intro W_4 x_ hC hall
      refine then_n ?_
      obtain ⟨a_4, ha⟩ : ∃ a, a = putE x_ a_3 [(0, some 39), (1, some 40), (2, some 41), (3, some 42), (4, some 43), (5, some 38), (6, some 44), (7, some 45), (8, some 7), (9, none), (10, some 8)] := ⟨_, rfl⟩
      rw [← ha]
      have hN_4 := size_behind ha hN_3
      have hD_4 := defers_behind ha hD_3
      have bb_4 := bb_3.trans hC.below
      have e0_4 := slot_old ha (by kernel_rfl) e0_3
      have e2_4 := slot_old ha (by kernel_rfl) e2_3
      have e4_4 := slot_old ha (by kernel_rfl) e4_3
      have e5_4 := slot_old ha (by kernel_rfl) e5_3
      have e6_4 := slot_old ha (by kernel_rfl) e6_3
      have e30_4 := slot_old ha (by kernel_rfl) e30_3
      have e35_4 := slot_old ha (by kernel_rfl) e35_3
      have R_4 := hC.holds R_3
      have q5_4 := hC.at0 q5_3
      obtain ⟨g7, hx, hge, l7_4⟩ := put_locG (show (kPutZ 8 19 ((a.den : Int))).sem _ _ _ _ from hall 9 (of_decide_eq_true (by kernel_rfl)))
      have d7 := Nat.lt_of_lt_of_le R_3.lt hge
      clear hge
      have e7_4 := (slot_new (t := 7) (i := 8) ha hN_3 (by kernel_rfl) (by kernel_rfl)).trans hx
      clear hx
      have e8_4 := (slot_new (t := 8) (i := 10) ha hN_3 (by kernel_rfl) (by kernel_rfl)).trans (show x_ 10 = .bool true from hall 10 (of_decide_eq_true (by kernel_rfl)))
      clear hall hC ha bb_3 hD_3 e0_3 e2_3 e4_3 e5_3 e6_3 e30_3 e35_3 R_3 q5_3
      have q7_4 := l7_4.atR
      clear l7_4
      repeat (first | refine wp_seq ?_ | (refine wp_skip ?_; refine then_n ?_))
      refine wp_region_law hN_4 w.heap.size
        [kZ 19 (a.num), kZ 19 ((a.den : Int)), kP 19 (a.num) ((a.den : Int)), PK.fresh 4, kPutP 3 19 (a.num) ((a.den : Int))]
        [ [], [], [(0, some 46), (1, some 47)], [], [(3, some 9), (2, some 48)] ]
        [(0, some 46), (1, some 47), (2, some 48), (3, some 9), (4, none)] [] [] (by kernel_rfl) (by kernel_rfl) (by kernel_rfl) (by kernel_rfl) (by kernel_rfl) (by kernel_rfl) (by kernel_rfl) bb_4.size ?_ ?_
      ·
        refine pk_cons rfl rfl (st_loadB q5_4 (by simp) e5_4 hN_4 (by kernel_rfl) rfl) ?_
        refine pk_cons rfl rfl (st_loadB q7_4 (by simp) e7_4 hN_4 (by kernel_rfl) rfl) ?_
        refine pk_cons rfl rfl (st_buildP (k := 19) hN_4 (by kernel_rfl) (by kernel_rfl) (by kernel_rfl) (by kernel_rfl) (by kernel_rfl) (by kernel_rfl) rfl rfl rfl) ?_
        refine pk_cons rfl rfl (st_allocP hN_4 (by kernel_rfl) (Nat.le_refl _) rfl) ?_
        refine pk_cons rfl rfl (st_putP hN_4 (by kernel_rfl) (by kernel_rfl) (by kernel_rfl) rfl rfl rfl) ?_
        exact pk_nil rfl
      intro W_5 x_ hC hall
      refine then_n ?_
      obtain ⟨a_5, ha⟩ : ∃ a, a = putE x_ a_4 [(0, some 46), (1, some 47), (2, some 48), (3, some 9), (4, none)] := ⟨_, rfl⟩
      rw [← ha]
      have hN_5 := size_behind ha hN_4
      have hD_5 := defers_behind ha hD_4
      have bb_5 := bb_4.trans hC.below
      have e0_5 := slot_old ha (by kernel_rfl) e0_4
      have e2_5 := slot_old ha (by kernel_rfl) e2_4
      have e4_5 := slot_old ha (by kernel_rfl) e4_4
      have e5_5 := slot_old ha (by kernel_rfl) e5_4
      have e6_5 := slot_old ha (by kernel_rfl) e6_4
      have e30_5 := slot_old ha (by kernel_rfl) e30_4
      have e35_5 := slot_old ha (by kernel_rfl) e35_4
      have e7_5 := slot_old ha (by kernel_rfl) e7_4
      have e8_5 := slot_old ha (by kernel_rfl) e8_4
      have R_5 := hC.holds R_4
      have q5_5 := hC.at0 q5_4
      have q7_5 := hC.at0 q7_4
      obtain ⟨g9, hx, hge, p9_5, p9'_5⟩ := put_atP (show (kPutP 3 19 (a.num) ((a.den : Int))).sem _ _ _ _ from hall 4 (of_decide_eq_true (by kernel_rfl)))
      have e9_5 := (slot_new (t := 9) (i := 3) ha hN_4 (by kernel_rfl) (by kernel_rfl)).trans hx
      have d9 := Nat.lt_of_lt_of_le R_4.lt hge
      clear hx hge
      clear hall hC ha bb_4 hD_4 e0_4 e2_4 e4_4 e5_4 e6_4 e30_4 e35_4 e7_4 e8_4 R_4 q5_4 q7_4
      repeat (first | refine wp_seq ?_ | (refine wp_skip ?_; refine then_n ?_))
      refine wp_region_law hN_5 w.heap.size
        [kIs (.bool true), kIs (.bool false), kIs (.bool false), kP 19 (a.num) ((a.den : Int)), kIs (.bool true), kIs (.bool false), kIs (.bool false), kIs (.bool false), kP 19 (a.num) ((a.den : Int)), kIs (.string (textQ a)), kIs (.string s), kIs (.bool false), kIs (.bool false)]
        [ [], [(0, some 49)], [(1, some 50)], [], [(3, some 52)], [(4, some 53)], [(2, some 51), (5, some 54)], [(6, some 55)], [], [(8, some 57)], [], [(9, some 58), (10, some 59)], [(7, some 56), (11, some 60)] ]
        [(0, some 49), (1, some 50), (2, some 51), (3, some 52), (4, some 53), (5, some 54), (6, some 55), (7, some 56), (8, some 57), (9, some 58), (10, some 59), (11, some 60), (12, some 61)] [(2, false), (7, false)] [] (by kernel_rfl) (by kernel_rfl) (by kernel_rfl) (by kernel_rfl) (by kernel_rfl) (by kernel_rfl) (by kernel_rfl) bb_5.size ?_ ?_
      ·
        refine pk_cons rfl rfl (st_pure [] [(8, .bool true)] (.bool true) rfl hN_5 (by kernel_rfl) (by kernel_rfl) (by kernel_rfl) (old1 e8_5) (by kernel_rfl) (by kernel_rfl) (by kernel_rfl) (fun _ => by kernel_rfl)) ?_
        refine pk_cons rfl rfl (st_pure [.bool true] [] (.bool false) rfl hN_5 (by kernel_rfl) (by kernel_rfl) (by kernel_rfl) old0 (by kernel_rfl) (by kernel_rfl) (by kernel_rfl) (fun _ => by kernel_rfl)) ?_
        refine pk_cons rfl rfl (st_pure [.bool false] [] (.bool false) rfl hN_5 (by kernel_rfl) (by kernel_rfl) (by kernel_rfl) old0 (by kernel_rfl) (by kernel_rfl) (by kernel_rfl) (fun _ => by kernel_rfl)) ?_
        refine pk_cons rfl rfl (st_load4P p9_5 p9'_5 (by simp) e9_5 hN_5 (by kernel_rfl) rfl) ?_
        refine pk_cons rfl rfl (st_call1 hN_5 (by kernel_rfl) (by kernel_rfl) (by kernel_rfl) rfl rfl fun w x v1 hC h1 => ti (refRight_yes (pm (by decide) h1))) ?_
        refine pk_cons rfl rfl (st_pure [.bool true] [] (.bool false) rfl hN_5 (by kernel_rfl) (by kernel_rfl) (by kernel_rfl) old0 (by kernel_rfl) (by kernel_rfl) (by kernel_rfl) (fun _ => by kernel_rfl)) ?_
        refine pk_cons rfl rfl (st_pure [.bool false, .bool false] [] (.bool false) rfl hN_5 (by kernel_rfl) (by kernel_rfl) (by kernel_rfl) old0 (by kernel_rfl) (by kernel_rfl) (by kernel_rfl) (fun _ => by kernel_rfl)) ?_
        refine pk_cons rfl rfl (st_pure [.bool false] [] (.bool false) rfl hN_5 (by kernel_rfl) (by kernel_rfl) (by kernel_rfl) old0 (by kernel_rfl) (by kernel_rfl) (by kernel_rfl) (fun _ => by kernel_rfl)) ?_
        refine pk_cons rfl rfl (st_load4P p9_5 p9'_5 (by simp) e9_5 hN_5 (by kernel_rfl) rfl) ?_
        refine pk_cons rfl rfl (st_call1 hN_5 (by kernel_rfl) (by kernel_rfl) (by kernel_rfl) rfl rfl fun w x v1 hC h1 => ti (refText_yes (pm (by decide) h1))) ?_
        refine pk_cons rfl rfl (st_pure [] [(0, .string s)] (.string s) rfl hN_5 (by kernel_rfl) (by kernel_rfl) (by kernel_rfl) (old1 e0_5) (by kernel_rfl) (by kernel_rfl) (by kernel_rfl) (fun _ => by kernel_rfl)) ?_
        refine pk_cons rfl rfl (st_pureV [.string (textQ a), .string s] [] (.bool (!((textQ a).toList == (s).toList))) (.bool false) (congrArg Value.bool (by rw [htx]; rfl)) rfl hN_5 (by kernel_rfl) (by kernel_rfl) (by kernel_rfl) old0 (by kernel_rfl) (by kernel_rfl) (by kernel_rfl) (fun _ => by kernel_rfl)) ?_
        refine pk_cons rfl rfl (st_pure [.bool false, .bool false] [] (.bool false) rfl hN_5 (by kernel_rfl) (by kernel_rfl) (by kernel_rfl) old0 (by kernel_rfl) (by kernel_rfl) (by kernel_rfl) (fun _ => by kernel_rfl)) ?_
        exact pk_nil rfl
      intro W_6 x_ hC hall
      refine then_n ?_
      obtain ⟨a_6, ha⟩ : ∃ a, a = putE x_ a_5 [(0, some 49), (1, some 50), (2, some 51), (3, some 52), (4, some 53), (5, some 54), (6, some 55), (7, some 56), (8, some 57), (9, some 58), (10, some 59), (11, some 60), (12, some 61)] := ⟨_, rfl⟩
      rw [← ha]
      have hN_6 := size_behind ha hN_5
      have hD_6 := defers_behind ha hD_5
      have bb_6 := bb_5.trans hC.below
      have e0_6 := slot_old ha (by kernel_rfl) e0_5
      have e2_6 := slot_old ha (by kernel_rfl) e2_5
      have e4_6 := slot_old ha (by kernel_rfl) e4_5
      have e5_6 := slot_old ha (by kernel_rfl) e5_5
      have e6_6 := slot_old ha (by kernel_rfl) e6_5
      have e30_6 := slot_old ha (by kernel_rfl) e30_5
      have e35_6 := slot_old ha (by kernel_rfl) e35_5
      have e7_6 := slot_old ha (by kernel_rfl) e7_5
      have e8_6 := slot_old ha (by kernel_rfl) e8_5
      have e9_6 := slot_old ha (by kernel_rfl) e9_5
      have R_6 := hC.holds R_5
      have q5_6 := hC.at0 q5_5
      have q7_6 := hC.at0 q7_5
      have p9_6 := hC.at0 p9_5
      have p9'_6 := hC.at0 p9'_5
      have e61_6 := (slot_new (t := 61) (i := 12) ha hN_5 (by kernel_rfl) (by kernel_rfl)).trans (show x_ 12 = .bool false from hall 12 (of_decide_eq_true (by kernel_rfl)))
      clear hall hC ha bb_5 hD_5 e0_5 e2_5 e4_5 e5_5 e6_5 e30_5 e35_5 e7_5 e8_5 e9_5 R_5 q5_5 q7_5 p9_5 p9'_5
      refine wp_cond_false e61_6 ?_
      repeat (first | refine wp_seq ?_ | (refine wp_skip ?_; refine then_n ?_))
      refine wp_region_res hN_6 w.heap.size (w.heap.size) R_6 (by omega)
        [kP 19 (a.num) ((a.den : Int)), kRes (w.heap.size) 19 (a.num) ((a.den : Int)), kIs (.bool true)]
        [ [], [(0, some 63)], [] ]
        [(0, some 63), (1, none), (2, some 3)] [] [] (by kernel_rfl) (by kernel_rfl) (by kernel_rfl) (by kernel_rfl) (by kernel_rfl) (by kernel_rfl) (by kernel_rfl) bb_6.size ?_ ?_
      ·
        refine pk_cons rfl rfl (st_load4P p9_6 p9'_6 (by simp only [List.mem_singleton]; omega) e9_6 hN_6 (by kernel_rfl) rfl) ?_
        refine pk_cons rfl rfl (st_resP R_6 rfl (by simp) e2_6 hN_6 (by kernel_rfl) (by kernel_rfl) rfl rfl) ?_
        refine pk_cons rfl rfl (st_pure [] [] (.bool true) rfl hN_6 (by kernel_rfl) (by kernel_rfl) (by kernel_rfl) old0 (by kernel_rfl) (by kernel_rfl) (by kernel_rfl) (fun _ => by kernel_rfl)) ?_
        exact pk_nil rfl
      intro W x_ hC hall
      refine then_n ?_
      obtain ⟨a1, ha⟩ : ∃ a, a = putE x_ a_6 [(0, some 63), (1, none), (2, some 3)] := ⟨_, rfl⟩
      rw [← ha]
      have hD1 := defers_behind ha hD_6
      have bb1 := bb_6.trans hC.below
      obtain ⟨cs, hg, hP⟩ := (show (kRes (w.heap.size) 19 (a.num) ((a.den : Int))).sem _ _ _ _ from hall 1 (of_decide_eq_true (by kernel_rfl)))
      have e1 := slot_old (t := 2) ha (by kernel_rfl) e2_6
      have e2 := (slot_new (t := 3) (i := 2) ha hN_6 (by kernel_rfl) (by kernel_rfl)).trans (show x_ 2 = .bool true from hall 2 (of_decide_eq_true (by kernel_rfl)))
      repeat (first | refine wp_seq ?_ | (refine wp_skip ?_; refine then_n ?_))
      refine wp_ret ?_
      repeat (refine then_r ?_)
      exact ret_cellP2 (t := 2) (u := 3) rfl hD1 e1 e2 hg hP fun v hv => ⟨v, rfl, hv, bb1⟩
end Go.Proofs.YthgclmkhmcfflaaGreatDoor
namespace Go.Proofs.YthgclmkhmcfflaaGreatDoor
open Go.RowKit
theorem dec_text {s : ByteArray} (h : isDec (bt s)) : s = dtext (dval (dg s)) := by
  have hl : s.data.toList = Lib.decDigits (dval (dg s)) := by
    rcases h.2 with h1 | h1
    · have e1 : s.data.toList = [48] := by
        have := bt_list' s 48 (by rw [h1]; rfl)
        rw [ByteArray.toList_eq] at this; exact this
      have e2 : dval (dg s) = 0 := by unfold dg; rw [h1]; rfl
      rw [e1, e2, decDigits_small (by decide)]; rfl
    · have hsm := dg_small h.1
      have hne : dg s ≠ [] := by unfold dg; simpa using h1.1
      have hlast : (dg s).getLast? ≠ some 0 := by
        unfold dg
        rw [List.getLast?_reverse]
        cases hb : bt s with
        | nil => exact absurd hb h1.1
        | cons b bs =>
          have h0 := (h.1 0 (by rw [hb]; simp)).1
          have h2 := h1.2
          rw [hb] at h0 h2
          simp at h0 h2 ⊢
          omega
      have hd : dright (dg s) := ⟨hsm, .inr hlast⟩
      have hv := digits_text hd rfl (dval_pos hne hlast)
      rw [← hv]
      unfold dg
      rw [List.reverse_reverse, List.map_map]
      unfold bt
      rw [List.map_map]
      refine (List.map_id _).symm.trans (List.map_congr_left fun b hb => ?_)
      obtain ⟨j, hj, e⟩ := List.getElem_of_mem hb
      have hd := h.1 j (by unfold bt; simpa using hj)
      have e3 : (bt s).getD j 0 = b.toNat := by
        unfold bt
        rw [List.getD_eq_getElem?_getD, List.getElem?_map, List.getElem?_eq_getElem hj, e]; rfl
      rw [e3] at hd
      show b = UInt8.ofNat (48 + (b.toNat - 48))
      rw [show 48 + (b.toNat - 48) = b.toNat from by omega, UInt8.ofNat_toNat]
  unfold dtext
  rw [← hl]
theorem both_tell (s : ByteArray) (M : Nat) (hM : M ≤ 445) (hs : s.size ≤ 9 * M) : ∃ (v : Nat) (ok : Bool), v < 1000000000 ^ M ∧ (ok = true → s = dtext v) ∧ (ok = false → v = 0 ∧ ¬ isDec (bt s)) ∧
    (∀ W, Calls Tryz.prog 54 #[.string s] W (RetSB W v ok)) ∧ (∀ W, Calls Tryz.prog 56 #[.string s] W (RetSB W v ok)) := by
  by_cases hdec : isDec (bt s)
  · have h0 : 0 < s.size := by
      rw [← bt_length]
      rcases hdec.2 with h | h
      · rw [h]; decide
      · exact List.length_pos_iff.2 h.1
    have h1 : s.size = 1 ∨ (bt s).getD 0 0 ≠ 48 := by
      rcases hdec.2 with h | h
      · left; rw [← bt_length, h]; rfl
      · exact .inr h.2
    have hlt : dval (dg s) < 1000000000 ^ M := by
      have h10 : (10 : Nat) ^ (dg s).length ≤ 10 ^ (9 * M) := Nat.pow_le_pow_right (by decide) (by rw [dg_length]; omega)
      rw [Nat.pow_mul] at h10
      exact Nat.lt_of_lt_of_le (dval_lt (dg_small hdec.1)) h10
    refine ⟨dval (dg s), true, hlt, (fun _ => dec_text hdec), (fun h => by cases h), fun W => ?_, fun W => ?_⟩
    · refine (of_yes (s := s) W (by omega) hdec).mono ?_
      rintro e w' ⟨v, rfl, hv, hb⟩
      have hr := rr_isNat hv hlt (by omega)
      obtain ⟨A, k, c, rfl⟩ := hr.shape
      exact ⟨A, k, c, rfl, hr, hb⟩
    · refine (refOf_body (s := s) W (by omega) h0 h1).mono ?_
      rintro e w' ⟨_, hy, hb⟩
      obtain ⟨v, rfl, hv⟩ := hy hdec.1
      have hr := rr_isNat hv hlt (by omega)
      obtain ⟨A, k, c, rfl⟩ := hr.shape
      exact ⟨A, k, c, rfl, hr, hb⟩
  · refine ⟨0, false, Nat.pow_pos (by decide), (fun h => by cases h), (fun _ => ⟨rfl, hdec⟩), fun W => ?_, fun W => ?_⟩
    · exact (of_no (s := s) W (by omega) hdec).mono fun _ _ ⟨a, b⟩ => ⟨none, 0, 0, a, rr_nil _, b ▸ Below.refl _ _⟩
    · by_cases h0 : s.size = 0 ∨ 1 < s.size ∧ (bt s).getD 0 0 = 48
      · exact (refOf_head W h0).mono fun _ _ ⟨a, b⟩ => ⟨none, 0, 0, a, rr_nil _, b ▸ Below.refl _ _⟩
      · have hp : 0 < s.size := Nat.pos_of_ne_zero fun h => h0 (.inl h)
        have h1 : s.size = 1 ∨ (bt s).getD 0 0 ≠ 48 := by
          rcases Nat.lt_or_ge 1 s.size with h | h
          · exact .inr fun h2 => h0 (.inr ⟨h, h2⟩)
          · exact .inl (by omega)
        refine (refOf_body W (by omega) hp h1).mono fun e w' h => ?_
        have he := h.1 fun hd => hdec ⟨hd, ?_⟩
        · exact ⟨none, 0, 0, he, rr_nil _, h.2.2⟩
        rcases h1 with h1 | h1
        · by_cases h48 : (bt s).getD 0 0 = 48
          · left
            have hbl := bt_length s
            match hb : bt s with
            | [] => rw [hb] at hbl; simp at hbl; omega
            | [d] => rw [hb] at h48; simp at h48; rw [h48]
            | a :: b :: r => rw [hb] at hbl; simp at hbl; omega
          · exact .inr ⟨fun e => by have := bt_length s; rw [e] at this; simp at this; omega, h48⟩
        · exact .inr ⟨fun e => by have := bt_length s; rw [e] at this; simp at this; omega, h1⟩
theorem told_intB {P : Program} {F : FuncId} {vs : Array Value} {W : World} {S0 : Nat} {x : Nat → Value} {n k : Nat} {b ok : Bool} (hn : n < 1000000000 ^ k) (h : Calls P F vs W (RetIntB W n b ok)) : Calls P F vs W (Told (kZB k (zOf n b) ok) S0 x W) :=
  h.mono fun _ _ ⟨A, l, c, e, h1, h2, h3⟩ => ⟨_, e, h3, _, rfl, A, l, c, by rw [zOf_neg, sgn_right h2], by rw [zOf_abs]; exact h1, by rw [zOf_abs]; exact hn⟩
theorem trim_no {l : List UInt8} (h : Lib.hasPrefix l [45] = false) : Lib.trimPrefix l [45] = l := by
  unfold Lib.trimPrefix; rw [h]; rfl
theorem trim_yes {l : List UInt8} (h : Lib.hasPrefix l [45] = true) : l = 45 :: Lib.trimPrefix l [45] := by
  unfold Lib.trimPrefix
  rw [h]
  cases l with
  | nil => cases h
  | cons b r =>
    have hb : (45 == b) = true := by
      have : ((45 == b) && List.isPrefixOf [] r) = true := h
      simpa using this
    rw [beq_iff_eq] at hb
    subst hb; rfl
theorem list_text {s : ByteArray} {l : List UInt8} (h : s.data.toList = l) : s = ⟨l.toArray⟩ := by
  cases s with
  | mk d => cases d with
    | mk m => simp at h; rw [h]
/-- A text of at most 100 bytes: the number that it is the text of, if it is one's. -/
theorem parse_rel (s : ByteArray) (hs : s.size ≤ 100) : ∃ (z : Int) (ok : Bool), z.natAbs < 1000000000 ^ 19 ∧ (ok = true → s = ztext z) ∧ (ok = false → z = 0 ∧ ∀ y, s ≠ ztext y) ∧
    (∀ (W : World) {S0 : Nat} {x : Nat → Value}, Calls Tryz.prog 25 #[.string s] W (Told (kZB 19 z ok) S0 x W)) ∧ (∀ (W : World) {S0 : Nat} {x : Nat → Value}, Calls Tryz.prog 27 #[.string s] W (Told (kZB 19 z ok) S0 x W)) := by
  obtain ⟨neg, t, ht, hcase, e1, e2⟩ := cut_of s
  obtain ⟨v, ok, hv, hyes, hno, h1, h2⟩ := both_tell t 19 (by decide) (by omega)
  obtain ⟨o', ho'⟩ : ∃ o', o' = (ok && (sgn v neg == neg)) := ⟨_, rfl⟩
  obtain ⟨n', hn'⟩ : ∃ n', n' = if ok && (sgn v neg == neg) then v else 0 := ⟨_, rfl⟩
  have hnv : n' < 1000000000 ^ 19 := by
    rw [hn']; split
    · exact hv
    · exact Nat.pow_pos (by decide)
  have hp : ∀ W, Calls Tryz.prog 25 #[.string s] W (RetIntB W n' (o' && neg) o') := fun W => by
    rw [hn', ho']
    refine numParse_core (fun W' => ?_) h1 (fun W' A k c h => signed_any neg h) W
    have := Tryz.strings_CutPrefix s ⟨#[45]⟩ W'
    rw [← e1, ← e2]
    exact this
  have hr : ∀ W, Calls Tryz.prog 27 #[.string s] W (RetIntB W n' (o' && neg) o') := fun W => by
    rw [hn', ho']
    exact ref2Parse_core (by omega) hcase h2 hv (by decide) rfl W
  refine ⟨zOf n' (o' && neg), o', by rw [zOf_abs]; exact hnv, fun h => ?_, fun h => ⟨?_, fun y hy => ?_⟩, fun W {S0} {x} => told_intB hnv (hp W), fun W {S0} {x} => told_intB hnv (hr W)⟩
  · have hb : ok = true ∧ sgn v neg = neg := by
      rw [ho', Bool.and_eq_true, beq_iff_eq] at h; exact h
    have en : n' = v := by rw [hn', if_pos (by rw [hb.1, hb.2]; simp)]
    rw [h, en, Bool.true_and]
    have et := hyes hb.1
    unfold ztext ntext
    rw [zOf_abs, zOf_neg, hb.2]
    have hd : t.data.toList = Lib.decDigits v := by rw [et, ← ByteArray.toList_eq, dtext_toList]
    have ht2 : Lib.trimPrefix s.data.toList [45] = Lib.decDigits v := by rw [← hd, ← e1]
    cases neg with
    | false =>
      rw [if_neg (by decide)]
      rw [trim_no e2] at ht2
      exact list_text ht2
    | true =>
      rw [if_pos rfl]
      have := trim_yes e2
      rw [ht2] at this
      have h3 : s = ⟨(45 :: Lib.decDigits v).toArray⟩ := list_text this
      rw [h3]
      refine (list_text ?_).symm
      simp [dtext]
  · rw [h, Bool.false_and]
    have : n' = 0 := by rw [hn', if_neg (by rw [← ho', h]; decide)]
    rw [this]; rfl
  · obtain ⟨c1, c2⟩ := cut_text y
    rw [← hy] at c1 c2
    have et : t = dtext y.natAbs := by rw [← e1, c1]
    have en : neg = decide (y < 0) := by rw [← e2, c2]
    cases ok with
    | false => exact (hno rfl).2 (by rw [et]; exact dtext_isDec _)
    | true =>
      have ev : v = y.natAbs := by
        have := hyes rfl
        rw [et] at this
        have h3 : Lib.decDigits y.natAbs = Lib.decDigits v := by rw [← dtext_toList, ← dtext_toList, this]
        exact (decDigits_inj h3).symm
      have hs2 : sgn v neg = neg := by
        rw [ev, en]
        unfold sgn
        by_cases h3 : y < 0
        · rw [decide_eq_true h3, decide_eq_true (by omega)]; rfl
        · rw [decide_eq_false h3]; rfl
      rw [ho', hs2] at h
      simp at h
/-- The text of two right numbers, a ratio's or none's. -/
theorem text_any2 (x y : Int) : ∃ t : ByteArray, (∀ (W : World) (v : Value), Hid (Tab W ∧ 4 ≤ W.heap.size) → Pr W v 19 x y → Calls Tryz.prog 21 #[v] W fun e w' => e = .returned (.string t) ∧ Below W.heap.size W w') ∧
    ((∃ a : Rat, a.num = x ∧ (a.den : Int) = y ∧ t = textQ a) ∨ (¬ (0 < y ∧ ((zgcd [(x), (y)] : Nat) : Int) = 1) ∧ t = ztext 0)) := by
  by_cases h : 0 < y ∧ ((zgcd [(x), (y)] : Nat) : Int) = 1
  · obtain ⟨a, ha, hb⟩ := rat_of h
    refine ⟨textQ a, fun W v hT hv => Text_19 hT (by rw [ha, hb]; exact hv), .inl ⟨a, ha, hb, rfl⟩⟩
  · exact ⟨ztext 0, fun W v hT hv => Text_no_19 h hT hv, .inr ⟨h, rfl⟩⟩
theorem split47 {l : List UInt8} (h : (47 : UInt8) ∈ l) : ∃ p q, l = p ++ 47 :: q ∧ (47 : UInt8) ∉ p := by
  induction l with
  | nil => cases h
  | cons b r ih =>
    by_cases e : b = 47
    · exact ⟨[], r, by rw [e]; rfl, by simp⟩
    · have : (47 : UInt8) ∈ r := by
        rcases List.mem_cons.1 h with h | h
        · exact absurd h.symm e
        · exact h
      obtain ⟨p, q, rfl, hp⟩ := ih this
      exact ⟨b :: p, q, rfl, by
        intro hm
        rcases List.mem_cons.1 hm with h | h
        · exact e h.symm
        · exact hp h⟩
theorem bt_ne {s : ByteArray} {k : Nat} {p q : List UInt8} (hl : s.data.toList = p ++ q) (hk : k = p.length) (hp : (47 : UInt8) ∉ p) : ∀ j, j < k → (bt s).getD j 0 ≠ 47 := fun j hj e => by
  have hjp : j < p.length := by omega
  have e1 : (bt s).getD j 0 = (p[j]).toNat := by
    unfold bt
    rw [hl, List.getD_eq_getElem?_getD, List.getElem?_map, List.getElem?_append_left hjp, List.getElem?_eq_getElem hjp]; rfl
  rw [e1] at e
  have : p[j] = 47 := UInt8.toNat_inj.1 e
  exact hp (this ▸ List.getElem_mem hjp)
theorem byte_ne {x y : ByteArray} (h : x ≠ y) : (x.toList == y.toList) = false := beq_eq_false_iff_ne.2 fun e => h (bytes_inj e)
def TellsPT (W : World) (x y : Int) (ok : Bool) (e : Ending) (w' : World) : Prop := ∃ v, e = .returned (.tuple #[v, .bool ok]) ∧ Pr w' v 19 x y ∧ Below W.heap.size W w'
theorem tpt_mono {W : World} {k : Nat} {x y : Int} {ok : Bool} {e : Ending} {w' : World} (hk : k ≤ 19) (h : ∃ v, e = .returned (.tuple #[v, .bool ok]) ∧ Pr w' v k x y ∧ Below W.heap.size W w') : TellsPT W x y ok e w' := by
  obtain ⟨v, h1, h2, h3⟩ := h
  exact ⟨v, h1, h2.mono hk, h3⟩
/-- Both Parse of a text of at most 100 bytes tell the same. -/
theorem parse_both (w : World) (s : ByteArray) (hs : s.size ≤ 100) (HT : Hid (Tab w ∧ 4 ≤ w.heap.size)) (hm : MaxL w) :
    ∃ (x y : Int) (ok : Bool), (∀ W, Below w.heap.size w W → Calls Tryz.prog 7 #[.string s] W (TellsPT W x y ok)) ∧ ∀ W, Below w.heap.size w W → Calls Tryz.prog 8 #[.string s] W (TellsPT W x y ok) := by
  have hTab : ∀ W, Below w.heap.size w W → Hid (Tab W ∧ 4 ≤ W.heap.size) := fun W hW => Lib.hid ⟨HT.out.1.below hW HT.out.2, Nat.le_trans HT.out.2 hW.size⟩
  have hMx : ∀ W, Below w.heap.size w W → Hid (∀ W', Below W.heap.size W W' → MaxL W') := fun W hW => Lib.hid fun W' hW' => (hm.below hW).below hW'
  by_cases h47 : (47 : UInt8) ∈ s.data.toList
  · obtain ⟨p, q, hl, hp⟩ := split47 h47
    obtain ⟨k, hk⟩ : ∃ k, k = p.length := ⟨_, rfl⟩
    have hsz : s.size = p.length + 1 + q.length := by
      rw [Lib.size_eq, hl]; simp; omega
    have hks : k < s.size := by omega
    have hbt := bt_ne (q := 47 :: q) hl hk hp
    have hat : (bt s).getD k 0 = 47 := by
      unfold bt
      rw [hl, hk]; simp
    have hA : s.extract 0 k = ⟨p.toArray⟩ := list_text (by rw [Lib.extract_data, hl, hk]; simp)
    have hB : s.extract (k + 1) s.size = ⟨q.toArray⟩ := list_text (by
      have e : (p ++ 47 :: q).drop (p.length + 1) = q := by rw [← List.drop_drop, List.drop_left]; rfl
      rw [Lib.extract_data, hl, hk, hsz, e, show p.length + 1 + q.length - (p.length + 1) = q.length from by omega, List.take_length])
    have hc : CutIs s (s.extract 0 k) (s.extract (k + 1) s.size) true := ⟨p, q, by rw [hl]; exact cut_at hp, hA, hB⟩
    obtain ⟨zx, okA, bx, yx, nx, numA, refA⟩ := parse_rel (s.extract 0 k) (by rw [ByteArray.size_extract]; omega)
    obtain ⟨zy, okB, bY, yy, ny, numB, refB⟩ := parse_rel (s.extract (k + 1) s.size) (by rw [ByteArray.size_extract]; omega)
    obtain ⟨t, htx, hcase⟩ := text_any2 zx zy
    have HX : ∀ W0, Below w.heap.size w W0 → Hid (∀ (W : World) (v : Value), Below W0.heap.size W0 W → Pr W v 19 zx zy → Calls Tryz.prog 21 #[v] W fun e w' => e = .returned (.string t) ∧ Below W.heap.size W w') := fun W0 h0 => Lib.hid fun W v hW hv => htx W v (hTab W (h0.trans (hW.mono h0.size))) hv
    by_cases hts : t = s
    · rcases hcase with ⟨a, ha, hb, rfl⟩ | ⟨_, rfl⟩
      · by_cases hd : a.den = 1
        · rw [textQ_one hd] at hts
          exact absurd (hts ▸ h47) (ztext_no47 _)
        · have hcut := cut_textQ2 hd
          rw [hts, hl, cut_at hp] at hcut
          injection hcut with c1 hcut
          injection hcut with c2 _
          have e1 : s.extract 0 k = ztext zx := by rw [hA, c1, ha]
          have e2 : s.extract (k + 1) s.size = ztext zy := by rw [hB, c2, hb]
          have hoA : okA = true := by
            cases okA with
            | true => rfl
            | false => exact absurd e1 ((nx rfl).2 zx)
          have hoB : okB = true := by
            cases okB with
            | true => rfl
            | false => exact absurd e2 ((ny rfl).2 zy)
          subst hoA; subst hoB
          refine ⟨zx, zy, true, fun W hW => (parse_cut_yes hc (by omega) (hMx W hW) (Lib.hid numA) (Lib.hid numB) (HX W hW) (by rw [hts]; exact beq_self_eq_true _)).mono fun _ _ h => tpt_mono (by decide) h, fun W _ => ?_⟩
          have := refParse_cut_yes (w := W) (a := a) hs hks hbt hat (Lib.hid (by rw [ha]; exact refA)) (Lib.hid (by rw [hb]; exact refB)) (by rw [hts]; exact beq_self_eq_true _)
          rw [ha, hb] at this
          exact this.mono fun _ _ h => tpt_mono (by decide) h
      · exact absurd (hts ▸ h47) (ztext_no47 _)
    · have hne := byte_ne hts
      refine ⟨0, 1, false, fun W hW => (parse_cut_no hc (by omega) (hMx W hW) (Lib.hid numA) (Lib.hid numB) (HX W hW) hne).mono fun _ _ h => tpt_mono (by decide) h, fun W _ => ?_⟩
      cases okA with
      | false => exact (refParse_cut_noA hs hks hbt hat (Lib.hid refA)).mono fun _ _ h => tpt_mono (by decide) h
      | true =>
        cases okB with
        | false => exact (refParse_cut_noB hs hks hbt hat (Lib.hid refA) (Lib.hid refB)).mono fun _ _ h => tpt_mono (by decide) h
        | true =>
          rcases hcase with ⟨a, ha, hb, rfl⟩ | ⟨hno, _⟩
          · exact (refParse_cut_noT (a := a) hs hks hbt hat (Lib.hid (by rw [ha]; exact refA)) (Lib.hid (by rw [hb]; exact refB)) hne).mono fun _ _ h => tpt_mono (by decide) h
          · exact (refParse_cut_noR hs hks hbt hat (Lib.hid refA) (Lib.hid refB) hno).mono fun _ _ h => tpt_mono (by decide) h
  · have hbt : ∀ j, j < s.size → (bt s).getD j 0 ≠ 47 := bt_ne (q := []) (List.append_nil _).symm (Lib.size_eq s) h47
    have hA : s.extract 0 s.size = s := by
      have : s.extract 0 s.size = ⟨s.data.toList.toArray⟩ := list_text (by rw [Lib.extract_data, List.drop_zero, Nat.sub_zero, Lib.size_eq, List.take_length])
      rw [this]
    have hc : CutIs s s ⟨#[]⟩ false := ⟨_, _, cut_no h47, by simp, rfl⟩
    obtain ⟨z, ok, bz, yz, nz, numA, refA⟩ := parse_rel s hs
    have HB : Hid (∀ (W : World) {S0 : Nat} {x : Nat → Value}, Calls Tryz.prog 25 #[.string ⟨#[49]⟩] W (Told (kZB 19 1 true) S0 x W)) := Lib.hid fun W {S0} {x} => ztext_one ▸ parse_z 1 (by decide) W
    have HX : ∀ W0, Below w.heap.size w W0 → Hid (∀ (W : World) (v : Value), Below W0.heap.size W0 W → Pr W v 19 z 1 → Calls Tryz.prog 21 #[v] W fun e w' => e = .returned (.string (ztext z)) ∧ Below W.heap.size W w') := fun W0 h0 => Lib.hid fun W v hW hv => Text_19w (a := (z : Rat)) (hTab W (h0.trans (hW.mono h0.size))) rfl hv
    cases ok with
    | true =>
      have es := yz rfl
      exact ⟨z, 1, true, fun W hW => (parse_whole_yes hc (by omega) (hMx W hW) (Lib.hid numA) HB (HX W hW) (by rw [← es]; exact beq_self_eq_true _)).mono fun _ _ h => tpt_mono (by decide) h,
        fun W _ => (refParse_whole_yes hs rfl hbt (Lib.hid (by rw [hA]; exact refA))).mono fun _ _ h => tpt_mono (by decide) h⟩
    | false =>
      obtain ⟨_, hny⟩ := nz rfl
      exact ⟨0, 1, false, fun W hW => (parse_whole_no hc (by omega) (hMx W hW) (Lib.hid numA) HB (HX W hW) (byte_ne fun e => hny z e.symm)).mono fun _ _ h => tpt_mono (by decide) h,
        fun W _ => (refParse_whole_no hs rfl hbt (Lib.hid (by rw [hA]; exact refA))).mono fun _ _ h => tpt_mono (by decide) h⟩
end Go.Proofs.YthgclmkhmcfflaaGreatDoor
namespace Go.Proofs.YthgclmkhmcfflaaGreatDoor
open Go.RowKit
set_option maxRecDepth 100000 in
set_option maxHeartbeats 8000000 in
theorem awake3_any {w : World} (HT : Hid (Tab w ∧ 4 ≤ w.heap.size)) (hm : MaxL w) : Calls Tryz.prog 6 #[] w fun e w' => e = .returned (.bool true) ∧ Below w.heap.size w w' := by
  have HM := Lib.hid hm
  clear hm
  go_enter Tryz.func6, Tryz.ntmps6
  repeat (refine wp_seq ?_)
  refine region_k ?_
  intro K hK
  have HK := Lib.hid hK
  clear hK
  go_wp2
  refine HK.out _ _ ?_
  clear HK
  refine then_n ?_
  have bb_0 : Below w.heap.size w w := Below.refl _ _
  refine name_frame (G := fun a => Code.wp _ _ _ a _) ?_
  intro a_0 ha
  have hN_0 : a_0.tmps.size = 33 := by subst ha; kernel_rfl
  have hD_0 : a_0.defers = [] := by subst ha; rfl
  clear ha
  repeat (first | refine wp_seq ?_ | (refine wp_skip ?_; refine then_n ?_))
  refine wp_region_law hN_0 w.heap.size
    [kZ 1 ((6 : Int)), kZ 1 ((-4 : Int)), kPT 9 (awQ.num) ((awQ.den : Int)) (.int .i64 (0)), kPT 9 (awQ.num) ((awQ.den : Int)) (.int .i64 (0)), kP 9 (awQ.num) ((awQ.den : Int)), kIs (.int .i64 (0)), PK.fresh 4, kPutP 6 9 (awQ.num) ((awQ.den : Int)), kIs (.int .i64 (0))]
    [ [], [], [(0, some 6), (1, some 7)], [(2, some 8)], [(3, some 5)], [(3, some 5)], [], [(6, some 1), (4, some 9)], [(5, some 10)] ]
    [(0, some 6), (1, some 7), (2, some 8), (3, some 5), (4, some 9), (5, some 10), (6, some 1), (7, none), (8, some 2)] [] [] (by kernel_rfl) (by kernel_rfl) (by kernel_rfl) (by kernel_rfl) (by kernel_rfl) (by kernel_rfl) (by kernel_rfl) bb_0.size ?_ ?_
  ·
    refine pk_cons rfl rfl (st_call0 [.int .i64 (6)] hN_0 (by kernel_rfl) (by kernel_rfl) rfl rfl fun w x hC => tz (z_of (6) 1 (by decide) (by decide) (by decide))) ?_
    refine pk_cons rfl rfl (st_call0 [Value.int IntKind.i64 (-4)] hN_0 (by kernel_rfl) (by kernel_rfl) rfl rfl fun w x hC => tz (z_of (-4) 1 (by decide) (by decide) (by decide))) ?_
    refine pk_cons rfl rfl (st_call2 hN_0 (by kernel_rfl) (by kernel_rfl) (by kernel_rfl) (by kernel_rfl) (by kernel_rfl) rfl rfl rfl fun w x v1 v2 hC h1 h2 => tpt (told_of6 (rr h1) (rr h2))) ?_
    refine pk_cons rfl rfl (st_move hN_0 (by kernel_rfl) (by kernel_rfl) rfl rfl) ?_
    refine pk_cons rfl rfl (st_ext hN_0 (by kernel_rfl) (by kernel_rfl) rfl rfl ext_p) ?_
    refine pk_cons rfl rfl (st_ext hN_0 (by kernel_rfl) (by kernel_rfl) rfl rfl ext_v) ?_
    refine pk_cons rfl rfl (st_allocP hN_0 (by kernel_rfl) (Nat.le_refl _) rfl) ?_
    refine pk_cons rfl rfl (st_putP hN_0 (by kernel_rfl) (by kernel_rfl) (by kernel_rfl) rfl rfl rfl) ?_
    refine pk_cons rfl rfl (st_pure [.int .i64 (0)] [] (.int .i64 (0)) rfl hN_0 (by kernel_rfl) (by kernel_rfl) (by kernel_rfl) old0 (by kernel_rfl) (by kernel_rfl) (by kernel_rfl) (fun _ => by kernel_rfl)) ?_
    exact pk_nil rfl
  intro W_1 x hC hall
  refine then_n ?_
  obtain ⟨a_1, ha⟩ : ∃ a, a = putE x a_0 [(0, some 6), (1, some 7), (2, some 8), (3, some 5), (4, some 9), (5, some 10), (6, some 1), (7, none), (8, some 2)] := ⟨_, rfl⟩
  rw [← ha]
  have hN_1 := size_behind ha hN_0
  have hD_1 := defers_behind ha hD_0
  have bb_1 := bb_0.trans hC.below
  obtain ⟨g1, hx, hge, p1_1, p1'_1⟩ := put_atP (show (kPutP 6 9 (awQ.num) ((awQ.den : Int))).sem _ _ _ _ from hall 7 (of_decide_eq_true (by kernel_rfl)))
  have e1_1 := (slot_new (t := 1) (i := 6) ha hN_0 (by kernel_rfl) (by kernel_rfl)).trans hx
  clear hx hge
  have e2_1 := (slot_new (t := 2) (i := 8) ha hN_0 (by kernel_rfl) (by kernel_rfl)).trans (show x 8 = .int .i64 (0) from hall 8 (of_decide_eq_true (by kernel_rfl)))
  clear hall hC ha bb_0 hD_0
  repeat (first | refine wp_seq ?_ | (refine wp_skip ?_; refine then_n ?_))
  refine wp_region_law hN_1 w.heap.size
    [kPT 9 ((0 : Rat).num) (((0 : Rat).den : Int)) (.bool false), kPT 9 ((0 : Rat).num) (((0 : Rat).den : Int)) (.bool false), kP 9 ((0 : Rat).num) (((0 : Rat).den : Int)), kIs (.bool false), PK.fresh 4, kPutP 4 9 ((0 : Rat).num) (((0 : Rat).den : Int)), kIs (.bool false)]
    [ [], [(0, some 12)], [(1, some 11)], [(1, some 11)], [], [(4, some 3), (2, some 13)], [(3, some 14)] ]
    [(0, some 12), (1, some 11), (2, some 13), (3, some 14), (4, some 3), (5, none), (6, some 4)] [] [] (by kernel_rfl) (by kernel_rfl) (by kernel_rfl) (by kernel_rfl) (by kernel_rfl) (by kernel_rfl) (by kernel_rfl) bb_1.size ?_ ?_
  ·
    refine pk_cons rfl rfl (st_call0 [Value.string { data := #[54, 47, 52] }] hN_1 (by kernel_rfl) (by kernel_rfl) rfl rfl fun w x hC => tpt (parse_six (Lib.hid ⟨HT.out.1.below (bb_1.trans hC.below) HT.out.2, Nat.le_trans HT.out.2 (bb_1.trans hC.below).size⟩) (HM.out.below (bb_1.trans hC.below)))) ?_
    refine pk_cons rfl rfl (st_move hN_1 (by kernel_rfl) (by kernel_rfl) rfl rfl) ?_
    refine pk_cons rfl rfl (st_ext hN_1 (by kernel_rfl) (by kernel_rfl) rfl rfl ext_p) ?_
    refine pk_cons rfl rfl (st_ext hN_1 (by kernel_rfl) (by kernel_rfl) rfl rfl ext_v) ?_
    refine pk_cons rfl rfl (st_allocP hN_1 (by kernel_rfl) (Nat.le_refl _) rfl) ?_
    refine pk_cons rfl rfl (st_putP hN_1 (by kernel_rfl) (by kernel_rfl) (by kernel_rfl) rfl rfl rfl) ?_
    refine pk_cons rfl rfl (st_pure [.bool false] [] (.bool false) rfl hN_1 (by kernel_rfl) (by kernel_rfl) (by kernel_rfl) old0 (by kernel_rfl) (by kernel_rfl) (by kernel_rfl) (fun _ => by kernel_rfl)) ?_
    exact pk_nil rfl
  intro W_2 x hC hall
  refine then_n ?_
  obtain ⟨a_2, ha⟩ : ∃ a, a = putE x a_1 [(0, some 12), (1, some 11), (2, some 13), (3, some 14), (4, some 3), (5, none), (6, some 4)] := ⟨_, rfl⟩
  rw [← ha]
  have hN_2 := size_behind ha hN_1
  have hD_2 := defers_behind ha hD_1
  have bb_2 := bb_1.trans hC.below
  have e1_2 := slot_old ha (by kernel_rfl) e1_1
  have e2_2 := slot_old ha (by kernel_rfl) e2_1
  have p1_2 := hC.at0 p1_1
  have p1'_2 := hC.at0 p1'_1
  obtain ⟨g3, hx, hge, p3_2, p3'_2⟩ := put_atP (show (kPutP 4 9 ((0 : Rat).num) (((0 : Rat).den : Int))).sem _ _ _ _ from hall 5 (of_decide_eq_true (by kernel_rfl)))
  have e3_2 := (slot_new (t := 3) (i := 4) ha hN_1 (by kernel_rfl) (by kernel_rfl)).trans hx
  clear hx hge
  have e4_2 := (slot_new (t := 4) (i := 6) ha hN_1 (by kernel_rfl) (by kernel_rfl)).trans (show x 6 = .bool false from hall 6 (of_decide_eq_true (by kernel_rfl)))
  clear hall hC ha bb_1 hD_1 e1_1 e2_1 p1_1 p1'_1
  repeat (first | refine wp_seq ?_ | (refine wp_skip ?_; refine then_n ?_))
  refine wp_region_law hN_2 w.heap.size
    [kIs (.int .i64 (0)), kIs (.bool true), kIs (.bool true), kP 9 (awQ.num) ((awQ.den : Int)), kIs (.string (textQ awQ)), kIs (.bool true), kIs (.bool true), kIs (.bool true), kP 9 (awQ.num) ((awQ.den : Int)), kZ 10 (zq (awQ.num) ((awQ.den : Int))), kZ 1 ((-2 : Int)), kIs (.int .i64 (0)), kIs (.bool true), kIs (.bool true), kIs (.bool true), kIs (.bool false), kIs (.bool true), kIs (.bool true), kIs (.bool true)]
    [ [], [(0, some 15)], [(1, some 16)], [], [(3, some 18)], [(4, some 19)], [(2, some 17), (5, some 20)], [(6, some 21)], [], [(8, some 23)], [], [(9, some 24), (10, some 25)], [(11, some 26)], [(7, some 22), (12, some 27)], [(13, some 28)], [], [(15, some 30)], [(14, some 29), (16, some 31)], [(17, some 32)] ]
    [(0, some 15), (1, some 16), (2, some 17), (3, some 18), (4, some 19), (5, some 20), (6, some 21), (7, some 22), (8, some 23), (9, some 24), (10, some 25), (11, some 26), (12, some 27), (13, some 28), (14, some 29), (15, some 30), (16, some 31), (17, some 32), (18, some 0)] [(2, true), (7, true), (14, true)] [] (by kernel_rfl) (by kernel_rfl) (by kernel_rfl) (by kernel_rfl) (by kernel_rfl) (by kernel_rfl) (by kernel_rfl) bb_2.size ?_ ?_
  ·
    refine pk_cons rfl rfl (st_pure [] [(2, .int .i64 (0))] (.int .i64 (0)) rfl hN_2 (by kernel_rfl) (by kernel_rfl) (by kernel_rfl) (old1 e2_2) (by kernel_rfl) (by kernel_rfl) (by kernel_rfl) (fun _ => by kernel_rfl)) ?_
    refine pk_cons rfl rfl (st_pure [.int .i64 (0)] [] (.bool true) rfl hN_2 (by kernel_rfl) (by kernel_rfl) (by kernel_rfl) old0 (by kernel_rfl) (by kernel_rfl) (by kernel_rfl) (fun _ => by kernel_rfl)) ?_
    refine pk_cons rfl rfl (st_pure [.bool true] [] (.bool true) rfl hN_2 (by kernel_rfl) (by kernel_rfl) (by kernel_rfl) old0 (by kernel_rfl) (by kernel_rfl) (by kernel_rfl) (fun _ => by kernel_rfl)) ?_
    refine pk_cons rfl rfl (st_load4P p1_2 p1'_2 (by simp) e1_2 hN_2 (by kernel_rfl) rfl) ?_
    refine pk_cons rfl rfl (st_call1 hN_2 (by kernel_rfl) (by kernel_rfl) (by kernel_rfl) rfl rfl fun w x v1 hC h1 => ti (Text_9 (Lib.hid ⟨HT.out.1.below (bb_2.trans hC.below) HT.out.2, Nat.le_trans HT.out.2 (bb_2.trans hC.below).size⟩) (pm (by decide) h1))) ?_
    refine pk_cons rfl rfl (st_pureV [.string (textQ awQ)] [] (.bool ((textQ awQ).toList == (⟨#[45, 51, 47, 50]⟩ : ByteArray).toList)) (.bool true) (congrArg Value.bool (beq_iff_eq.2 awQ_text)) rfl hN_2 (by kernel_rfl) (by kernel_rfl) (by kernel_rfl) old0 (by kernel_rfl) (by kernel_rfl) (by kernel_rfl) (fun _ => by kernel_rfl)) ?_
    refine pk_cons rfl rfl (st_pure [.bool true, .bool true] [] (.bool true) rfl hN_2 (by kernel_rfl) (by kernel_rfl) (by kernel_rfl) old0 (by kernel_rfl) (by kernel_rfl) (by kernel_rfl) (fun _ => by kernel_rfl)) ?_
    refine pk_cons rfl rfl (st_pure [.bool true] [] (.bool true) rfl hN_2 (by kernel_rfl) (by kernel_rfl) (by kernel_rfl) old0 (by kernel_rfl) (by kernel_rfl) (by kernel_rfl) (fun _ => by kernel_rfl)) ?_
    refine pk_cons rfl rfl (st_load4P p1_2 p1'_2 (by simp) e1_2 hN_2 (by kernel_rfl) rfl) ?_
    refine pk_cons rfl rfl (st_call1 hN_2 (by kernel_rfl) (by kernel_rfl) (by kernel_rfl) rfl rfl fun w x v1 hC h1 => tz (Floor_9 (pm (by decide) h1))) ?_
    refine pk_cons rfl rfl (st_call0 [Value.int IntKind.i64 (-2)] hN_2 (by kernel_rfl) (by kernel_rfl) rfl rfl fun w x hC => tz (z_of (-2) 1 (by decide) (by decide) (by decide))) ?_
    refine pk_cons rfl rfl (st_call2 hN_2 (by kernel_rfl) (by kernel_rfl) (by kernel_rfl) (by kernel_rfl) (by kernel_rfl) rfl rfl rfl fun w x v1 v2 hC h1 h2 => ti (cmp_is (ord_eq awQ_floor) (z_cmp (rz h1) (rz h2) (by decide) (by decide)))) ?_
    refine pk_cons rfl rfl (st_pure [.int .i64 (0)] [] (.bool true) rfl hN_2 (by kernel_rfl) (by kernel_rfl) (by kernel_rfl) old0 (by kernel_rfl) (by kernel_rfl) (by kernel_rfl) (fun _ => by kernel_rfl)) ?_
    refine pk_cons rfl rfl (st_pure [.bool true, .bool true] [] (.bool true) rfl hN_2 (by kernel_rfl) (by kernel_rfl) (by kernel_rfl) old0 (by kernel_rfl) (by kernel_rfl) (by kernel_rfl) (fun _ => by kernel_rfl)) ?_
    refine pk_cons rfl rfl (st_pure [.bool true] [] (.bool true) rfl hN_2 (by kernel_rfl) (by kernel_rfl) (by kernel_rfl) old0 (by kernel_rfl) (by kernel_rfl) (by kernel_rfl) (fun _ => by kernel_rfl)) ?_
    refine pk_cons rfl rfl (st_pure [] [(4, .bool false)] (.bool false) rfl hN_2 (by kernel_rfl) (by kernel_rfl) (by kernel_rfl) (old1 e4_2) (by kernel_rfl) (by kernel_rfl) (by kernel_rfl) (fun _ => by kernel_rfl)) ?_
    refine pk_cons rfl rfl (st_pure [.bool false] [] (.bool true) rfl hN_2 (by kernel_rfl) (by kernel_rfl) (by kernel_rfl) old0 (by kernel_rfl) (by kernel_rfl) (by kernel_rfl) (fun _ => by kernel_rfl)) ?_
    refine pk_cons rfl rfl (st_pure [.bool true, .bool true] [] (.bool true) rfl hN_2 (by kernel_rfl) (by kernel_rfl) (by kernel_rfl) old0 (by kernel_rfl) (by kernel_rfl) (by kernel_rfl) (fun _ => by kernel_rfl)) ?_
    refine pk_cons rfl rfl (st_pure [.bool true] [] (.bool true) rfl hN_2 (by kernel_rfl) (by kernel_rfl) (by kernel_rfl) old0 (by kernel_rfl) (by kernel_rfl) (by kernel_rfl) (fun _ => by kernel_rfl)) ?_
    exact pk_nil rfl
  intro W_3 x hC hall
  refine then_n ?_
  obtain ⟨a_3, ha⟩ : ∃ a, a = putE x a_2 [(0, some 15), (1, some 16), (2, some 17), (3, some 18), (4, some 19), (5, some 20), (6, some 21), (7, some 22), (8, some 23), (9, some 24), (10, some 25), (11, some 26), (12, some 27), (13, some 28), (14, some 29), (15, some 30), (16, some 31), (17, some 32), (18, some 0)] := ⟨_, rfl⟩
  rw [← ha]
  have hN_3 := size_behind ha hN_2
  have hD_3 := defers_behind ha hD_2
  have bb_3 := bb_2.trans hC.below
  have e1_3 := slot_old ha (by kernel_rfl) e1_2
  have e2_3 := slot_old ha (by kernel_rfl) e2_2
  have e3_3 := slot_old ha (by kernel_rfl) e3_2
  have e4_3 := slot_old ha (by kernel_rfl) e4_2
  have p1_3 := hC.at0 p1_2
  have p1'_3 := hC.at0 p1'_2
  have p3_3 := hC.at0 p3_2
  have p3'_3 := hC.at0 p3'_2
  have e0_3 := (slot_new (t := 0) (i := 18) ha hN_2 (by kernel_rfl) (by kernel_rfl)).trans (show x 18 = .bool true from hall 18 (of_decide_eq_true (by kernel_rfl)))
  clear hall hC ha bb_2 hD_2 e1_2 e2_2 e3_2 e4_2 p1_2 p1'_2 p3_2 p3'_2
  repeat (first | refine wp_seq ?_ | (refine wp_skip ?_; refine then_n ?_))
  refine wp_ret ?_
  repeat (refine then_r ?_)
  exact ret_one (t := 0) rfl hD_3 e0_3 ⟨rfl, bb_3⟩
end Go.Proofs.YthgclmkhmcfflaaGreatDoor
namespace Go.Proofs.YthgclmkhmcfflaaGreatDoor
open Go.ChangeShapes Go.WideShapes Go.ChangeAt Go.WideMaps Go.WideElems Go.RowKit
open Go.ChangeMaps (setBlock shut_map_nil open_string shut_string keptBut_setBlock frozen?_setBlock heap_setBlock_same)
set_option maxRecDepth 100000 in
theorem maxL_of {W : World} (h : W.ShapedOpen Tryz.prog) : MaxL W :=
  cell_of_shapedOpen_int (P := Tryz.prog) (g := 0) (t := 3) (zero := #[.int .i64 0]) h (of_decide_eq_true (by kernel_rfl)) (by kernel_rfl) rfl (by kernel_rfl) (by kernel_rfl) Tryz.underlying3
set_option maxRecDepth 100000 in
/-- The wrap, with the world's shape and what holds of it besides. -/
theorem handed_and_shape {H : Type} {enc : TypeId × Value → H} {os : Os} {f : FuncId} {fn : Func} {s : ChangeSpec} {apart fresh handsOn again : Bool} {X : World → Prop} (hX : ∀ w w' : World, w.heap = w'.heap → X w → X w') (started : os.Started) (noInit : Tryz.checked.prog.inits.idxOf? f = none) (hfn : Tryz.checked.prog.funcs[f]? = some fn)
    (witness : ∃ (w : World) (tape : Tape) (i : Input), w.os = os ∧ (w.forCall tape i).Shaped Tryz.checked.prog ∧ i.vars = [] ∧ Input.okWide Tryz.checked.prog (w.forCall tape i) .any w.heap.size f i ∧
      ((s.pre enc Tryz.checked.prog fn [] apart (w.forCall tape i).memory i.args ∧ X (w.forCall tape i).memory) ∧ sizedMet enc Tryz.checked.prog fn (OpenSpec.ofChange s) apart (w.forCall tape i).memory i.args) ∧ ({} : Assume).holds Tryz.checked.prog (lone (Frame.enter Tryz.checked.prog f i.args .normal) [] (w.forCall tape i)))
    (contract : ∀ (W : World) (base : Nat) (args : Array Value) (ds gs : List (DataW H)) (before : List MemPlace),
      (∀ (j : Nat) t v, fn.params[j]? = some t → args[j]? = some v → Value.okWide Tryz.checked.prog W .any base t v) →
      DataW.Whole enc Tryz.checked.prog fn.params.toList s.vars apart W args.toList ds gs before → W.ShapedOpen Tryz.checked.prog → X W →
      (DataW.weightsEach Tryz.checked.prog (fn.params.toList ++ s.plain.varTypes Tryz.checked.prog) (ds ++ gs)).all (· ≤ reachBytes) = true →
      Calls Tryz.checked.prog f args W fun e W' => ∃ v, e = .returned v ∧ s.post enc Tryz.checked.prog fn apart fresh handsOn again W args v W') :
    ReturnsInHanded {} Tryz.checked os f .any (fun w args => (s.pre enc Tryz.checked.prog fn [] apart w args ∧ X w) ∧ sizedMet enc Tryz.checked.prog fn (OpenSpec.ofChange s) apart w args) (s.post enc Tryz.checked.prog fn apart fresh handsOn again) := by
  refine returnsInHanded_of_calls own started noInit witness fun w tape i _ shape _ good met _ => ?_
  obtain ⟨_, _, _, g, hg, _, _, _, _, vals⟩ := good
  obtain rfl : g = fn := Option.some.inj (hg.symm.trans hfn)
  obtain ⟨⟨⟨ds, gs, before, whole, _⟩, x⟩, size⟩ := met
  exact (contract (w.forCall tape i) w.heap.size i.args ds gs before vals (DataW.Whole.of_heap (w' := w.forCall tape i) (by rfl) whole) shape (hX _ _ (by rfl) x) (size.weights whole)).mono fun _ _ ⟨v, e, p⟩ => e ▸ ChangeSpec.post_blind p
end Go.Proofs.YthgclmkhmcfflaaGreatDoor
namespace Go.Proofs.YthgclmkhmcfflaaGreatDoor
open Go.RowKit
theorem said_both {w : World} {F : FuncId} {s : ByteArray} {px py : Int} {ok : Bool} (H : Hid (∀ W, Below w.heap.size w W → Calls Tryz.prog F #[.string s] W (TellsPT W px py ok))) {W : World} {v : Value} {S0 : Nat} {x : Nat → Value} (h : (kIs (.string s)).sem S0 x v W) (hW : Below w.heap.size w W) : Calls Tryz.prog F #[v] W (Told (kPT 19 px py (.bool ok)) S0 x W) := by
  have e : v = .string s := h
  subst e
  exact tpt (H.out W hW)
set_option maxRecDepth 100000 in
set_option maxHeartbeats 8000000 in
theorem lawTexts_big {w : World} {s : ByteArray} (hbig : decide ((s.size : Int) > 100) = true) (HT : Hid (Tab w ∧ 4 ≤ w.heap.size)) (hm : MaxL w) : Calls Tryz.prog 3 #[.string s] w fun e w' => e = .returned (.bool true) ∧ Below w.heap.size w w' := by
  have HM := Lib.hid hm
  have haw := fun (W : World) (hW : Below w.heap.size w W) => awake3_any (w := W) (Lib.hid ⟨HT.out.1.below hW HT.out.2, Nat.le_trans HT.out.2 hW.size⟩) (hm.below hW)
  have HA := Lib.hid haw
  have HBIG := Lib.hid hbig
  clear haw hm hbig
  go_enter Tryz.func3, Tryz.ntmps3
  repeat (refine wp_seq ?_)
  refine region_k ?_
  intro K hK
  have HK := Lib.hid hK
  clear hK
  go_wp2
  refine HK.out _ _ ?_
  clear HK
  refine then_n ?_
  have bb_0 : Below w.heap.size w w := Below.refl _ _
  refine name_frame (G := fun a => Code.wp _ _ _ a _) ?_
  intro a_0 ha
  have hN_0 : a_0.tmps.size = 30 := by subst ha; kernel_rfl
  have hD_0 : a_0.defers = [] := by subst ha; rfl
  have e0_0 : a_0.eval (.tmp 0) = .string s := by subst ha; kernel_rfl
  clear ha
  repeat (first | refine wp_seq ?_ | (refine wp_skip ?_; refine then_n ?_))
  refine wp_region_law hN_0 w.heap.size
    [kIs (.bool true), kIs (.bool false)]
    [ [], [(0, some 7)] ]
    [(0, some 7), (1, some 8)] [] [] (by kernel_rfl) (by kernel_rfl) (by kernel_rfl) (by kernel_rfl) (by kernel_rfl) (by kernel_rfl) (by kernel_rfl) bb_0.size ?_ ?_
  ·
    refine pk_cons rfl rfl (st_call0 [] hN_0 (by kernel_rfl) (by kernel_rfl) rfl rfl fun w x hC => ti (HA.out _ (bb_0.trans hC.below))) ?_
    refine pk_cons rfl rfl (st_pure [.bool true] [] (.bool false) rfl hN_0 (by kernel_rfl) (by kernel_rfl) (by kernel_rfl) old0 (by kernel_rfl) (by kernel_rfl) (by kernel_rfl) (fun _ => by kernel_rfl)) ?_
    exact pk_nil rfl
  intro W_1 x_ hC hall
  refine then_n ?_
  obtain ⟨a_1, ha⟩ : ∃ a, a = putE x_ a_0 [(0, some 7), (1, some 8)] := ⟨_, rfl⟩
  rw [← ha]
  have hN_1 := size_behind ha hN_0
  have hD_1 := defers_behind ha hD_0
  have bb_1 := bb_0.trans hC.below
  have e0_1 := slot_old ha (by kernel_rfl) e0_0
  have e8_1 := (slot_new (t := 8) (i := 1) ha hN_0 (by kernel_rfl) (by kernel_rfl)).trans (show x_ 1 = .bool false from hall 1 (of_decide_eq_true (by kernel_rfl)))
  clear hall hC ha bb_0 hD_0 e0_0
  refine wp_cond_false e8_1 ?_
  repeat (first | refine wp_seq ?_ | (refine wp_skip ?_; refine then_n ?_))
  refine wp_region_law hN_1 w.heap.size
    [kIs (.string s), kIs (.int .i64 (s.size : Int)), kIs (.bool true)]
    [ [], [(0, some 9)], [(1, some 10)] ]
    [(0, some 9), (1, some 10), (2, some 11)] [] [] (by kernel_rfl) (by kernel_rfl) (by kernel_rfl) (by kernel_rfl) (by kernel_rfl) (by kernel_rfl) (by kernel_rfl) bb_1.size ?_ ?_
  ·
    refine pk_cons rfl rfl (st_pure [] [(0, .string s)] (.string s) rfl hN_1 (by kernel_rfl) (by kernel_rfl) (by kernel_rfl) (old1 e0_1) (by kernel_rfl) (by kernel_rfl) (by kernel_rfl) (fun _ => by kernel_rfl)) ?_
    refine pk_cons rfl rfl (st_pure [.string s] [] (.int .i64 (s.size : Int)) rfl hN_1 (by kernel_rfl) (by kernel_rfl) (by kernel_rfl) old0 (by kernel_rfl) (by kernel_rfl) (by kernel_rfl) (fun _ => by kernel_rfl)) ?_
    refine pk_cons rfl rfl (st_pureV [.int .i64 (s.size : Int)] [] (.bool (decide ((s.size : Int) > 100))) (.bool true) (congrArg Value.bool HBIG.out) rfl hN_1 (by kernel_rfl) (by kernel_rfl) (by kernel_rfl) old0 (by kernel_rfl) (by kernel_rfl) (by kernel_rfl) (fun _ => by kernel_rfl)) ?_
    exact pk_nil rfl
  intro W_2 x_ hC hall
  refine then_n ?_
  obtain ⟨a_2, ha⟩ : ∃ a, a = putE x_ a_1 [(0, some 9), (1, some 10), (2, some 11)] := ⟨_, rfl⟩
  rw [← ha]
  have hN_2 := size_behind ha hN_1
  have hD_2 := defers_behind ha hD_1
  have bb_2 := bb_1.trans hC.below
  have e0_2 := slot_old ha (by kernel_rfl) e0_1
  have e8_2 := slot_old ha (by kernel_rfl) e8_1
  have e11_2 := (slot_new (t := 11) (i := 2) ha hN_1 (by kernel_rfl) (by kernel_rfl)).trans (show x_ 2 = .bool true from hall 2 (of_decide_eq_true (by kernel_rfl)))
  clear hall hC ha bb_1 hD_1 e0_1 e8_1
  refine wp_cond_true e11_2 ?_
  repeat (first | refine wp_seq ?_ | (refine wp_skip ?_; refine then_n ?_))
  refine wp_region_law hN_2 w.heap.size
    [kIs (.bool true)]
    [ [] ]
    [(0, some 2)] [] [] (by kernel_rfl) (by kernel_rfl) (by kernel_rfl) (by kernel_rfl) (by kernel_rfl) (by kernel_rfl) (by kernel_rfl) bb_2.size ?_ ?_
  ·
    refine pk_cons rfl rfl (st_pure [] [] (.bool true) rfl hN_2 (by kernel_rfl) (by kernel_rfl) (by kernel_rfl) old0 (by kernel_rfl) (by kernel_rfl) (by kernel_rfl) (fun _ => by kernel_rfl)) ?_
    exact pk_nil rfl
  intro W_3 x_ hC hall
  refine then_n ?_
  obtain ⟨a_3, ha⟩ : ∃ a, a = putE x_ a_2 [(0, some 2)] := ⟨_, rfl⟩
  rw [← ha]
  have hN_3 := size_behind ha hN_2
  have hD_3 := defers_behind ha hD_2
  have bb_3 := bb_2.trans hC.below
  have e0_3 := slot_old ha (by kernel_rfl) e0_2
  have e8_3 := slot_old ha (by kernel_rfl) e8_2
  have e11_3 := slot_old ha (by kernel_rfl) e11_2
  have e2_3 := (slot_new (t := 2) (i := 0) ha hN_2 (by kernel_rfl) (by kernel_rfl)).trans (show x_ 0 = .bool true from hall 0 (of_decide_eq_true (by kernel_rfl)))
  clear hall hC ha bb_2 hD_2 e0_2 e8_2 e11_2
  repeat (first | refine wp_seq ?_ | (refine wp_skip ?_; refine then_n ?_))
  refine wp_ret ?_
  repeat (refine then_r ?_)
  exact ret_one (t := 2) rfl hD_3 e2_3 ⟨rfl, bb_3⟩
set_option maxRecDepth 100000 in
set_option maxHeartbeats 8000000 in
theorem lawTexts_yes {w : World} {s : ByteArray} (hbig : decide ((s.size : Int) > 100) = false) {px py : Int} (HP : Hid (∀ W, Below w.heap.size w W → Calls Tryz.prog 7 #[.string s] W (TellsPT W px py true))) (HR : Hid (∀ W, Below w.heap.size w W → Calls Tryz.prog 8 #[.string s] W (TellsPT W px py true))) (HT : Hid (Tab w ∧ 4 ≤ w.heap.size)) (hm : MaxL w) : Calls Tryz.prog 3 #[.string s] w fun e w' => e = .returned (.bool true) ∧ Below w.heap.size w w' := by
  have HM := Lib.hid hm
  have haw := fun (W : World) (hW : Below w.heap.size w W) => awake3_any (w := W) (Lib.hid ⟨HT.out.1.below hW HT.out.2, Nat.le_trans HT.out.2 hW.size⟩) (hm.below hW)
  have HA := Lib.hid haw
  have HBIG := Lib.hid hbig
  clear haw hm hbig
  go_enter Tryz.func3, Tryz.ntmps3
  repeat (refine wp_seq ?_)
  refine region_k ?_
  intro K hK
  have HK := Lib.hid hK
  clear hK
  go_wp2
  refine HK.out _ _ ?_
  clear HK
  refine then_n ?_
  have bb_0 : Below w.heap.size w w := Below.refl _ _
  refine name_frame (G := fun a => Code.wp _ _ _ a _) ?_
  intro a_0 ha
  have hN_0 : a_0.tmps.size = 30 := by subst ha; kernel_rfl
  have hD_0 : a_0.defers = [] := by subst ha; rfl
  have e0_0 : a_0.eval (.tmp 0) = .string s := by subst ha; kernel_rfl
  clear ha
  repeat (first | refine wp_seq ?_ | (refine wp_skip ?_; refine then_n ?_))
  refine wp_region_law hN_0 w.heap.size
    [kIs (.bool true), kIs (.bool false)]
    [ [], [(0, some 7)] ]
    [(0, some 7), (1, some 8)] [] [] (by kernel_rfl) (by kernel_rfl) (by kernel_rfl) (by kernel_rfl) (by kernel_rfl) (by kernel_rfl) (by kernel_rfl) bb_0.size ?_ ?_
  ·
    refine pk_cons rfl rfl (st_call0 [] hN_0 (by kernel_rfl) (by kernel_rfl) rfl rfl fun w x hC => ti (HA.out _ (bb_0.trans hC.below))) ?_
    refine pk_cons rfl rfl (st_pure [.bool true] [] (.bool false) rfl hN_0 (by kernel_rfl) (by kernel_rfl) (by kernel_rfl) old0 (by kernel_rfl) (by kernel_rfl) (by kernel_rfl) (fun _ => by kernel_rfl)) ?_
    exact pk_nil rfl
  intro W_1 x_ hC hall
  refine then_n ?_
  obtain ⟨a_1, ha⟩ : ∃ a, a = putE x_ a_0 [(0, some 7), (1, some 8)] := ⟨_, rfl⟩
  rw [← ha]
  have hN_1 := size_behind ha hN_0
  have hD_1 := defers_behind ha hD_0
  have bb_1 := bb_0.trans hC.below
  have e0_1 := slot_old ha (by kernel_rfl) e0_0
  have e8_1 := (slot_new (t := 8) (i := 1) ha hN_0 (by kernel_rfl) (by kernel_rfl)).trans (show x_ 1 = .bool false from hall 1 (of_decide_eq_true (by kernel_rfl)))
  clear hall hC ha bb_0 hD_0 e0_0
  refine wp_cond_false e8_1 ?_
  repeat (first | refine wp_seq ?_ | (refine wp_skip ?_; refine then_n ?_))
  refine wp_region_law hN_1 w.heap.size
    [kIs (.string s), kIs (.int .i64 (s.size : Int)), kIs (.bool false)]
    [ [], [(0, some 9)], [(1, some 10)] ]
    [(0, some 9), (1, some 10), (2, some 11)] [] [] (by kernel_rfl) (by kernel_rfl) (by kernel_rfl) (by kernel_rfl) (by kernel_rfl) (by kernel_rfl) (by kernel_rfl) bb_1.size ?_ ?_
  ·
    refine pk_cons rfl rfl (st_pure [] [(0, .string s)] (.string s) rfl hN_1 (by kernel_rfl) (by kernel_rfl) (by kernel_rfl) (old1 e0_1) (by kernel_rfl) (by kernel_rfl) (by kernel_rfl) (fun _ => by kernel_rfl)) ?_
    refine pk_cons rfl rfl (st_pure [.string s] [] (.int .i64 (s.size : Int)) rfl hN_1 (by kernel_rfl) (by kernel_rfl) (by kernel_rfl) old0 (by kernel_rfl) (by kernel_rfl) (by kernel_rfl) (fun _ => by kernel_rfl)) ?_
    refine pk_cons rfl rfl (st_pureV [.int .i64 (s.size : Int)] [] (.bool (decide ((s.size : Int) > 100))) (.bool false) (congrArg Value.bool HBIG.out) rfl hN_1 (by kernel_rfl) (by kernel_rfl) (by kernel_rfl) old0 (by kernel_rfl) (by kernel_rfl) (by kernel_rfl) (fun _ => by kernel_rfl)) ?_
    exact pk_nil rfl
  intro W_2 x_ hC hall
  refine then_n ?_
  obtain ⟨a_2, ha⟩ : ∃ a, a = putE x_ a_1 [(0, some 9), (1, some 10), (2, some 11)] := ⟨_, rfl⟩
  rw [← ha]
  have hN_2 := size_behind ha hN_1
  have hD_2 := defers_behind ha hD_1
  have bb_2 := bb_1.trans hC.below
  have e0_2 := slot_old ha (by kernel_rfl) e0_1
  have e8_2 := slot_old ha (by kernel_rfl) e8_1
  have e11_2 := (slot_new (t := 11) (i := 2) ha hN_1 (by kernel_rfl) (by kernel_rfl)).trans (show x_ 2 = .bool false from hall 2 (of_decide_eq_true (by kernel_rfl)))
  clear hall hC ha bb_1 hD_1 e0_1 e8_1
  refine wp_cond_false e11_2 ?_
  repeat (first | refine wp_seq ?_ | (refine wp_skip ?_; refine then_n ?_))
  refine wp_region_law hN_2 w.heap.size
    [kIs (.string s), kPT 19 (px) (py) (.bool true), kPT 19 (px) (py) (.bool true), kP 19 (px) (py), kIs (.bool true), PK.fresh 4, kPutP 5 19 (px) (py), kIs (.bool true)]
    [ [], [(0, some 13)], [(1, some 14)], [(2, some 12)], [(2, some 12)], [], [(5, some 3), (3, some 15)], [(4, some 16)] ]
    [(0, some 13), (1, some 14), (2, some 12), (3, some 15), (4, some 16), (5, some 3), (6, none), (7, some 4)] [] [] (by kernel_rfl) (by kernel_rfl) (by kernel_rfl) (by kernel_rfl) (by kernel_rfl) (by kernel_rfl) (by kernel_rfl) bb_2.size ?_ ?_
  ·
    refine pk_cons rfl rfl (st_pure [] [(0, .string s)] (.string s) rfl hN_2 (by kernel_rfl) (by kernel_rfl) (by kernel_rfl) (old1 e0_2) (by kernel_rfl) (by kernel_rfl) (by kernel_rfl) (fun _ => by kernel_rfl)) ?_
    refine pk_cons rfl rfl (st_call1 hN_2 (by kernel_rfl) (by kernel_rfl) (by kernel_rfl) rfl rfl fun w x v1 hC h1 => said_both HP h1 (bb_2.trans hC.below)) ?_
    refine pk_cons rfl rfl (st_move hN_2 (by kernel_rfl) (by kernel_rfl) rfl rfl) ?_
    refine pk_cons rfl rfl (st_ext hN_2 (by kernel_rfl) (by kernel_rfl) rfl rfl ext_p) ?_
    refine pk_cons rfl rfl (st_ext hN_2 (by kernel_rfl) (by kernel_rfl) rfl rfl ext_v) ?_
    refine pk_cons rfl rfl (st_allocP hN_2 (by kernel_rfl) (Nat.le_refl _) rfl) ?_
    refine pk_cons rfl rfl (st_putP hN_2 (by kernel_rfl) (by kernel_rfl) (by kernel_rfl) rfl rfl rfl) ?_
    refine pk_cons rfl rfl (st_pure [.bool true] [] (.bool true) rfl hN_2 (by kernel_rfl) (by kernel_rfl) (by kernel_rfl) old0 (by kernel_rfl) (by kernel_rfl) (by kernel_rfl) (fun _ => by kernel_rfl)) ?_
    exact pk_nil rfl
  intro W_3 x_ hC hall
  refine then_n ?_
  obtain ⟨a_3, ha⟩ : ∃ a, a = putE x_ a_2 [(0, some 13), (1, some 14), (2, some 12), (3, some 15), (4, some 16), (5, some 3), (6, none), (7, some 4)] := ⟨_, rfl⟩
  rw [← ha]
  have hN_3 := size_behind ha hN_2
  have hD_3 := defers_behind ha hD_2
  have bb_3 := bb_2.trans hC.below
  have e0_3 := slot_old ha (by kernel_rfl) e0_2
  have e8_3 := slot_old ha (by kernel_rfl) e8_2
  have e11_3 := slot_old ha (by kernel_rfl) e11_2
  obtain ⟨g3, hx, hge, p3_3, p3'_3⟩ := put_atP (show (kPutP 5 19 (px) (py)).sem _ _ _ _ from hall 6 (of_decide_eq_true (by kernel_rfl)))
  have e3_3 := (slot_new (t := 3) (i := 5) ha hN_2 (by kernel_rfl) (by kernel_rfl)).trans hx
  clear hx hge
  have e4_3 := (slot_new (t := 4) (i := 7) ha hN_2 (by kernel_rfl) (by kernel_rfl)).trans (show x_ 7 = .bool true from hall 7 (of_decide_eq_true (by kernel_rfl)))
  clear hall hC ha bb_2 hD_2 e0_2 e8_2 e11_2
  repeat (first | refine wp_seq ?_ | (refine wp_skip ?_; refine then_n ?_))
  refine wp_region_law hN_3 w.heap.size
    [kIs (.string s), kPT 19 (px) (py) (.bool true), kPT 19 (px) (py) (.bool true), kP 19 (px) (py), kIs (.bool true), PK.fresh 4, kPutP 5 19 (px) (py), kIs (.bool true)]
    [ [], [(0, some 18)], [(1, some 19)], [(2, some 17)], [(2, some 17)], [], [(5, some 5), (3, some 20)], [(4, some 21)] ]
    [(0, some 18), (1, some 19), (2, some 17), (3, some 20), (4, some 21), (5, some 5), (6, none), (7, some 6)] [] [] (by kernel_rfl) (by kernel_rfl) (by kernel_rfl) (by kernel_rfl) (by kernel_rfl) (by kernel_rfl) (by kernel_rfl) bb_3.size ?_ ?_
  ·
    refine pk_cons rfl rfl (st_pure [] [(0, .string s)] (.string s) rfl hN_3 (by kernel_rfl) (by kernel_rfl) (by kernel_rfl) (old1 e0_3) (by kernel_rfl) (by kernel_rfl) (by kernel_rfl) (fun _ => by kernel_rfl)) ?_
    refine pk_cons rfl rfl (st_call1 hN_3 (by kernel_rfl) (by kernel_rfl) (by kernel_rfl) rfl rfl fun w x v1 hC h1 => said_both HR h1 (bb_3.trans hC.below)) ?_
    refine pk_cons rfl rfl (st_move hN_3 (by kernel_rfl) (by kernel_rfl) rfl rfl) ?_
    refine pk_cons rfl rfl (st_ext hN_3 (by kernel_rfl) (by kernel_rfl) rfl rfl ext_p) ?_
    refine pk_cons rfl rfl (st_ext hN_3 (by kernel_rfl) (by kernel_rfl) rfl rfl ext_v) ?_
    refine pk_cons rfl rfl (st_allocP hN_3 (by kernel_rfl) (Nat.le_refl _) rfl) ?_
    refine pk_cons rfl rfl (st_putP hN_3 (by kernel_rfl) (by kernel_rfl) (by kernel_rfl) rfl rfl rfl) ?_
    refine pk_cons rfl rfl (st_pure [.bool true] [] (.bool true) rfl hN_3 (by kernel_rfl) (by kernel_rfl) (by kernel_rfl) old0 (by kernel_rfl) (by kernel_rfl) (by kernel_rfl) (fun _ => by kernel_rfl)) ?_
    exact pk_nil rfl
  intro W_4 x_ hC hall
  refine then_n ?_
  obtain ⟨a_4, ha⟩ : ∃ a, a = putE x_ a_3 [(0, some 18), (1, some 19), (2, some 17), (3, some 20), (4, some 21), (5, some 5), (6, none), (7, some 6)] := ⟨_, rfl⟩
  rw [← ha]
  have hN_4 := size_behind ha hN_3
  have hD_4 := defers_behind ha hD_3
  have bb_4 := bb_3.trans hC.below
  have e0_4 := slot_old ha (by kernel_rfl) e0_3
  have e8_4 := slot_old ha (by kernel_rfl) e8_3
  have e11_4 := slot_old ha (by kernel_rfl) e11_3
  have e3_4 := slot_old ha (by kernel_rfl) e3_3
  have e4_4 := slot_old ha (by kernel_rfl) e4_3
  have p3_4 := hC.at0 p3_3
  have p3'_4 := hC.at0 p3'_3
  obtain ⟨g5, hx, hge, p5_4, p5'_4⟩ := put_atP (show (kPutP 5 19 (px) (py)).sem _ _ _ _ from hall 6 (of_decide_eq_true (by kernel_rfl)))
  have e5_4 := (slot_new (t := 5) (i := 5) ha hN_3 (by kernel_rfl) (by kernel_rfl)).trans hx
  clear hx hge
  have e6_4 := (slot_new (t := 6) (i := 7) ha hN_3 (by kernel_rfl) (by kernel_rfl)).trans (show x_ 7 = .bool true from hall 7 (of_decide_eq_true (by kernel_rfl)))
  clear hall hC ha bb_3 hD_3 e0_3 e8_3 e11_3 e3_3 e4_3 p3_3 p3'_3
  repeat (first | refine wp_seq ?_ | (refine wp_skip ?_; refine then_n ?_))
  refine wp_region_law hN_4 w.heap.size
    [kIs (.bool true), kIs (.bool true), kIs (.bool true), kIs (.bool true), kP 19 (px) (py), kP 19 (px) (py), kIs (.bool true), kIs (.bool true), kIs (.bool true)]
    [ [], [], [(0, some 22), (1, some 23)], [(2, some 24)], [], [], [(4, some 26), (5, some 27)], [(3, some 25), (6, some 28)], [(7, some 29)] ]
    [(0, some 22), (1, some 23), (2, some 24), (3, some 25), (4, some 26), (5, some 27), (6, some 28), (7, some 29), (8, some 2)] [(3, true)] [] (by kernel_rfl) (by kernel_rfl) (by kernel_rfl) (by kernel_rfl) (by kernel_rfl) (by kernel_rfl) (by kernel_rfl) bb_4.size ?_ ?_
  ·
    refine pk_cons rfl rfl (st_pure [] [(4, .bool true)] (.bool true) rfl hN_4 (by kernel_rfl) (by kernel_rfl) (by kernel_rfl) (old1 e4_4) (by kernel_rfl) (by kernel_rfl) (by kernel_rfl) (fun _ => by kernel_rfl)) ?_
    refine pk_cons rfl rfl (st_pure [] [(6, .bool true)] (.bool true) rfl hN_4 (by kernel_rfl) (by kernel_rfl) (by kernel_rfl) (old1 e6_4) (by kernel_rfl) (by kernel_rfl) (by kernel_rfl) (fun _ => by kernel_rfl)) ?_
    refine pk_cons rfl rfl (st_pure [.bool true, .bool true] [] (.bool true) rfl hN_4 (by kernel_rfl) (by kernel_rfl) (by kernel_rfl) old0 (by kernel_rfl) (by kernel_rfl) (by kernel_rfl) (fun _ => by kernel_rfl)) ?_
    refine pk_cons rfl rfl (st_pure [.bool true] [] (.bool true) rfl hN_4 (by kernel_rfl) (by kernel_rfl) (by kernel_rfl) old0 (by kernel_rfl) (by kernel_rfl) (by kernel_rfl) (fun _ => by kernel_rfl)) ?_
    refine pk_cons rfl rfl (st_load4P p3_4 p3'_4 (by simp) e3_4 hN_4 (by kernel_rfl) rfl) ?_
    refine pk_cons rfl rfl (st_load4P p5_4 p5'_4 (by simp) e5_4 hN_4 (by kernel_rfl) rfl) ?_
    refine pk_cons rfl rfl (st_call2 hN_4 (by kernel_rfl) (by kernel_rfl) (by kernel_rfl) (by kernel_rfl) (by kernel_rfl) rfl rfl rfl fun w x v1 v2 hC h1 h2 => ti (lawSame_19 (pm (by decide) h1) (pm (by decide) h2))) ?_
    refine pk_cons rfl rfl (st_pure [.bool true, .bool true] [] (.bool true) rfl hN_4 (by kernel_rfl) (by kernel_rfl) (by kernel_rfl) old0 (by kernel_rfl) (by kernel_rfl) (by kernel_rfl) (fun _ => by kernel_rfl)) ?_
    refine pk_cons rfl rfl (st_pure [.bool true] [] (.bool true) rfl hN_4 (by kernel_rfl) (by kernel_rfl) (by kernel_rfl) old0 (by kernel_rfl) (by kernel_rfl) (by kernel_rfl) (fun _ => by kernel_rfl)) ?_
    exact pk_nil rfl
  intro W_5 x_ hC hall
  refine then_n ?_
  obtain ⟨a_5, ha⟩ : ∃ a, a = putE x_ a_4 [(0, some 22), (1, some 23), (2, some 24), (3, some 25), (4, some 26), (5, some 27), (6, some 28), (7, some 29), (8, some 2)] := ⟨_, rfl⟩
  rw [← ha]
  have hN_5 := size_behind ha hN_4
  have hD_5 := defers_behind ha hD_4
  have bb_5 := bb_4.trans hC.below
  have e0_5 := slot_old ha (by kernel_rfl) e0_4
  have e8_5 := slot_old ha (by kernel_rfl) e8_4
  have e11_5 := slot_old ha (by kernel_rfl) e11_4
  have e3_5 := slot_old ha (by kernel_rfl) e3_4
  have e4_5 := slot_old ha (by kernel_rfl) e4_4
  have e5_5 := slot_old ha (by kernel_rfl) e5_4
  have e6_5 := slot_old ha (by kernel_rfl) e6_4
  have p3_5 := hC.at0 p3_4
  have p3'_5 := hC.at0 p3'_4
  have p5_5 := hC.at0 p5_4
  have p5'_5 := hC.at0 p5'_4
  have e2_5 := (slot_new (t := 2) (i := 8) ha hN_4 (by kernel_rfl) (by kernel_rfl)).trans (show x_ 8 = .bool true from hall 8 (of_decide_eq_true (by kernel_rfl)))
  clear hall hC ha bb_4 hD_4 e0_4 e8_4 e11_4 e3_4 e4_4 e5_4 e6_4 p3_4 p3'_4 p5_4 p5'_4
  repeat (first | refine wp_seq ?_ | (refine wp_skip ?_; refine then_n ?_))
  refine wp_ret ?_
  repeat (refine then_r ?_)
  exact ret_one (t := 2) rfl hD_5 e2_5 ⟨rfl, bb_5⟩
set_option maxRecDepth 100000 in
set_option maxHeartbeats 8000000 in
theorem lawTexts_no {w : World} {s : ByteArray} (hbig : decide ((s.size : Int) > 100) = false) {px py : Int} (HP : Hid (∀ W, Below w.heap.size w W → Calls Tryz.prog 7 #[.string s] W (TellsPT W px py false))) (HR : Hid (∀ W, Below w.heap.size w W → Calls Tryz.prog 8 #[.string s] W (TellsPT W px py false))) (HT : Hid (Tab w ∧ 4 ≤ w.heap.size)) (hm : MaxL w) : Calls Tryz.prog 3 #[.string s] w fun e w' => e = .returned (.bool true) ∧ Below w.heap.size w w' := by
  have HM := Lib.hid hm
  have haw := fun (W : World) (hW : Below w.heap.size w W) => awake3_any (w := W) (Lib.hid ⟨HT.out.1.below hW HT.out.2, Nat.le_trans HT.out.2 hW.size⟩) (hm.below hW)
  have HA := Lib.hid haw
  have HBIG := Lib.hid hbig
  clear haw hm hbig
  go_enter Tryz.func3, Tryz.ntmps3
  repeat (refine wp_seq ?_)
  refine region_k ?_
  intro K hK
  have HK := Lib.hid hK
  clear hK
  go_wp2
  refine HK.out _ _ ?_
  clear HK
  refine then_n ?_
  have bb_0 : Below w.heap.size w w := Below.refl _ _
  refine name_frame (G := fun a => Code.wp _ _ _ a _) ?_
  intro a_0 ha
  have hN_0 : a_0.tmps.size = 30 := by subst ha; kernel_rfl
  have hD_0 : a_0.defers = [] := by subst ha; rfl
  have e0_0 : a_0.eval (.tmp 0) = .string s := by subst ha; kernel_rfl
  clear ha
  repeat (first | refine wp_seq ?_ | (refine wp_skip ?_; refine then_n ?_))
  refine wp_region_law hN_0 w.heap.size
    [kIs (.bool true), kIs (.bool false)]
    [ [], [(0, some 7)] ]
    [(0, some 7), (1, some 8)] [] [] (by kernel_rfl) (by kernel_rfl) (by kernel_rfl) (by kernel_rfl) (by kernel_rfl) (by kernel_rfl) (by kernel_rfl) bb_0.size ?_ ?_
  ·
    refine pk_cons rfl rfl (st_call0 [] hN_0 (by kernel_rfl) (by kernel_rfl) rfl rfl fun w x hC => ti (HA.out _ (bb_0.trans hC.below))) ?_
    refine pk_cons rfl rfl (st_pure [.bool true] [] (.bool false) rfl hN_0 (by kernel_rfl) (by kernel_rfl) (by kernel_rfl) old0 (by kernel_rfl) (by kernel_rfl) (by kernel_rfl) (fun _ => by kernel_rfl)) ?_
    exact pk_nil rfl
  intro W_1 x_ hC hall
  refine then_n ?_
  obtain ⟨a_1, ha⟩ : ∃ a, a = putE x_ a_0 [(0, some 7), (1, some 8)] := ⟨_, rfl⟩
  rw [← ha]
  have hN_1 := size_behind ha hN_0
  have hD_1 := defers_behind ha hD_0
  have bb_1 := bb_0.trans hC.below
  have e0_1 := slot_old ha (by kernel_rfl) e0_0
  have e8_1 := (slot_new (t := 8) (i := 1) ha hN_0 (by kernel_rfl) (by kernel_rfl)).trans (show x_ 1 = .bool false from hall 1 (of_decide_eq_true (by kernel_rfl)))
  clear hall hC ha bb_0 hD_0 e0_0
  refine wp_cond_false e8_1 ?_
  repeat (first | refine wp_seq ?_ | (refine wp_skip ?_; refine then_n ?_))
  refine wp_region_law hN_1 w.heap.size
    [kIs (.string s), kIs (.int .i64 (s.size : Int)), kIs (.bool false)]
    [ [], [(0, some 9)], [(1, some 10)] ]
    [(0, some 9), (1, some 10), (2, some 11)] [] [] (by kernel_rfl) (by kernel_rfl) (by kernel_rfl) (by kernel_rfl) (by kernel_rfl) (by kernel_rfl) (by kernel_rfl) bb_1.size ?_ ?_
  ·
    refine pk_cons rfl rfl (st_pure [] [(0, .string s)] (.string s) rfl hN_1 (by kernel_rfl) (by kernel_rfl) (by kernel_rfl) (old1 e0_1) (by kernel_rfl) (by kernel_rfl) (by kernel_rfl) (fun _ => by kernel_rfl)) ?_
    refine pk_cons rfl rfl (st_pure [.string s] [] (.int .i64 (s.size : Int)) rfl hN_1 (by kernel_rfl) (by kernel_rfl) (by kernel_rfl) old0 (by kernel_rfl) (by kernel_rfl) (by kernel_rfl) (fun _ => by kernel_rfl)) ?_
    refine pk_cons rfl rfl (st_pureV [.int .i64 (s.size : Int)] [] (.bool (decide ((s.size : Int) > 100))) (.bool false) (congrArg Value.bool HBIG.out) rfl hN_1 (by kernel_rfl) (by kernel_rfl) (by kernel_rfl) old0 (by kernel_rfl) (by kernel_rfl) (by kernel_rfl) (fun _ => by kernel_rfl)) ?_
    exact pk_nil rfl
  intro W_2 x_ hC hall
  refine then_n ?_
  obtain ⟨a_2, ha⟩ : ∃ a, a = putE x_ a_1 [(0, some 9), (1, some 10), (2, some 11)] := ⟨_, rfl⟩
  rw [← ha]
  have hN_2 := size_behind ha hN_1
  have hD_2 := defers_behind ha hD_1
  have bb_2 := bb_1.trans hC.below
  have e0_2 := slot_old ha (by kernel_rfl) e0_1
  have e8_2 := slot_old ha (by kernel_rfl) e8_1
  have e11_2 := (slot_new (t := 11) (i := 2) ha hN_1 (by kernel_rfl) (by kernel_rfl)).trans (show x_ 2 = .bool false from hall 2 (of_decide_eq_true (by kernel_rfl)))
  clear hall hC ha bb_1 hD_1 e0_1 e8_1
  refine wp_cond_false e11_2 ?_
  repeat (first | refine wp_seq ?_ | (refine wp_skip ?_; refine then_n ?_))
  refine wp_region_law hN_2 w.heap.size
    [kIs (.string s), kPT 19 (px) (py) (.bool false), kPT 19 (px) (py) (.bool false), kP 19 (px) (py), kIs (.bool false), PK.fresh 4, kPutP 5 19 (px) (py), kIs (.bool false)]
    [ [], [(0, some 13)], [(1, some 14)], [(2, some 12)], [(2, some 12)], [], [(5, some 3), (3, some 15)], [(4, some 16)] ]
    [(0, some 13), (1, some 14), (2, some 12), (3, some 15), (4, some 16), (5, some 3), (6, none), (7, some 4)] [] [] (by kernel_rfl) (by kernel_rfl) (by kernel_rfl) (by kernel_rfl) (by kernel_rfl) (by kernel_rfl) (by kernel_rfl) bb_2.size ?_ ?_
  ·
    refine pk_cons rfl rfl (st_pure [] [(0, .string s)] (.string s) rfl hN_2 (by kernel_rfl) (by kernel_rfl) (by kernel_rfl) (old1 e0_2) (by kernel_rfl) (by kernel_rfl) (by kernel_rfl) (fun _ => by kernel_rfl)) ?_
    refine pk_cons rfl rfl (st_call1 hN_2 (by kernel_rfl) (by kernel_rfl) (by kernel_rfl) rfl rfl fun w x v1 hC h1 => said_both HP h1 (bb_2.trans hC.below)) ?_
    refine pk_cons rfl rfl (st_move hN_2 (by kernel_rfl) (by kernel_rfl) rfl rfl) ?_
    refine pk_cons rfl rfl (st_ext hN_2 (by kernel_rfl) (by kernel_rfl) rfl rfl ext_p) ?_
    refine pk_cons rfl rfl (st_ext hN_2 (by kernel_rfl) (by kernel_rfl) rfl rfl ext_v) ?_
    refine pk_cons rfl rfl (st_allocP hN_2 (by kernel_rfl) (Nat.le_refl _) rfl) ?_
    refine pk_cons rfl rfl (st_putP hN_2 (by kernel_rfl) (by kernel_rfl) (by kernel_rfl) rfl rfl rfl) ?_
    refine pk_cons rfl rfl (st_pure [.bool false] [] (.bool false) rfl hN_2 (by kernel_rfl) (by kernel_rfl) (by kernel_rfl) old0 (by kernel_rfl) (by kernel_rfl) (by kernel_rfl) (fun _ => by kernel_rfl)) ?_
    exact pk_nil rfl
  intro W_3 x_ hC hall
  refine then_n ?_
  obtain ⟨a_3, ha⟩ : ∃ a, a = putE x_ a_2 [(0, some 13), (1, some 14), (2, some 12), (3, some 15), (4, some 16), (5, some 3), (6, none), (7, some 4)] := ⟨_, rfl⟩
  rw [← ha]
  have hN_3 := size_behind ha hN_2
  have hD_3 := defers_behind ha hD_2
  have bb_3 := bb_2.trans hC.below
  have e0_3 := slot_old ha (by kernel_rfl) e0_2
  have e8_3 := slot_old ha (by kernel_rfl) e8_2
  have e11_3 := slot_old ha (by kernel_rfl) e11_2
  obtain ⟨g3, hx, hge, p3_3, p3'_3⟩ := put_atP (show (kPutP 5 19 (px) (py)).sem _ _ _ _ from hall 6 (of_decide_eq_true (by kernel_rfl)))
  have e3_3 := (slot_new (t := 3) (i := 5) ha hN_2 (by kernel_rfl) (by kernel_rfl)).trans hx
  clear hx hge
  have e4_3 := (slot_new (t := 4) (i := 7) ha hN_2 (by kernel_rfl) (by kernel_rfl)).trans (show x_ 7 = .bool false from hall 7 (of_decide_eq_true (by kernel_rfl)))
  clear hall hC ha bb_2 hD_2 e0_2 e8_2 e11_2
  repeat (first | refine wp_seq ?_ | (refine wp_skip ?_; refine then_n ?_))
  refine wp_region_law hN_3 w.heap.size
    [kIs (.string s), kPT 19 (px) (py) (.bool false), kPT 19 (px) (py) (.bool false), kP 19 (px) (py), kIs (.bool false), PK.fresh 4, kPutP 5 19 (px) (py), kIs (.bool false)]
    [ [], [(0, some 18)], [(1, some 19)], [(2, some 17)], [(2, some 17)], [], [(5, some 5), (3, some 20)], [(4, some 21)] ]
    [(0, some 18), (1, some 19), (2, some 17), (3, some 20), (4, some 21), (5, some 5), (6, none), (7, some 6)] [] [] (by kernel_rfl) (by kernel_rfl) (by kernel_rfl) (by kernel_rfl) (by kernel_rfl) (by kernel_rfl) (by kernel_rfl) bb_3.size ?_ ?_
  ·
    refine pk_cons rfl rfl (st_pure [] [(0, .string s)] (.string s) rfl hN_3 (by kernel_rfl) (by kernel_rfl) (by kernel_rfl) (old1 e0_3) (by kernel_rfl) (by kernel_rfl) (by kernel_rfl) (fun _ => by kernel_rfl)) ?_
    refine pk_cons rfl rfl (st_call1 hN_3 (by kernel_rfl) (by kernel_rfl) (by kernel_rfl) rfl rfl fun w x v1 hC h1 => said_both HR h1 (bb_3.trans hC.below)) ?_
    refine pk_cons rfl rfl (st_move hN_3 (by kernel_rfl) (by kernel_rfl) rfl rfl) ?_
    refine pk_cons rfl rfl (st_ext hN_3 (by kernel_rfl) (by kernel_rfl) rfl rfl ext_p) ?_
    refine pk_cons rfl rfl (st_ext hN_3 (by kernel_rfl) (by kernel_rfl) rfl rfl ext_v) ?_
    refine pk_cons rfl rfl (st_allocP hN_3 (by kernel_rfl) (Nat.le_refl _) rfl) ?_
    refine pk_cons rfl rfl (st_putP hN_3 (by kernel_rfl) (by kernel_rfl) (by kernel_rfl) rfl rfl rfl) ?_
    refine pk_cons rfl rfl (st_pure [.bool false] [] (.bool false) rfl hN_3 (by kernel_rfl) (by kernel_rfl) (by kernel_rfl) old0 (by kernel_rfl) (by kernel_rfl) (by kernel_rfl) (fun _ => by kernel_rfl)) ?_
    exact pk_nil rfl
  intro W_4 x_ hC hall
  refine then_n ?_
  obtain ⟨a_4, ha⟩ : ∃ a, a = putE x_ a_3 [(0, some 18), (1, some 19), (2, some 17), (3, some 20), (4, some 21), (5, some 5), (6, none), (7, some 6)] := ⟨_, rfl⟩
  rw [← ha]
  have hN_4 := size_behind ha hN_3
  have hD_4 := defers_behind ha hD_3
  have bb_4 := bb_3.trans hC.below
  have e0_4 := slot_old ha (by kernel_rfl) e0_3
  have e8_4 := slot_old ha (by kernel_rfl) e8_3
  have e11_4 := slot_old ha (by kernel_rfl) e11_3
  have e3_4 := slot_old ha (by kernel_rfl) e3_3
  have e4_4 := slot_old ha (by kernel_rfl) e4_3
  have p3_4 := hC.at0 p3_3
  have p3'_4 := hC.at0 p3'_3
  obtain ⟨g5, hx, hge, p5_4, p5'_4⟩ := put_atP (show (kPutP 5 19 (px) (py)).sem _ _ _ _ from hall 6 (of_decide_eq_true (by kernel_rfl)))
  have e5_4 := (slot_new (t := 5) (i := 5) ha hN_3 (by kernel_rfl) (by kernel_rfl)).trans hx
  clear hx hge
  have e6_4 := (slot_new (t := 6) (i := 7) ha hN_3 (by kernel_rfl) (by kernel_rfl)).trans (show x_ 7 = .bool false from hall 7 (of_decide_eq_true (by kernel_rfl)))
  clear hall hC ha bb_3 hD_3 e0_3 e8_3 e11_3 e3_3 e4_3 p3_3 p3'_3
  repeat (first | refine wp_seq ?_ | (refine wp_skip ?_; refine then_n ?_))
  refine wp_region_law hN_4 w.heap.size
    [kIs (.bool false), kIs (.bool false), kIs (.bool true), kIs (.bool true), kP 19 (px) (py), kP 19 (px) (py), kIs (.bool true), kIs (.bool true), kIs (.bool true)]
    [ [], [], [(0, some 22), (1, some 23)], [(2, some 24)], [], [], [(4, some 26), (5, some 27)], [(3, some 25), (6, some 28)], [(7, some 29)] ]
    [(0, some 22), (1, some 23), (2, some 24), (3, some 25), (4, some 26), (5, some 27), (6, some 28), (7, some 29), (8, some 2)] [(3, true)] [] (by kernel_rfl) (by kernel_rfl) (by kernel_rfl) (by kernel_rfl) (by kernel_rfl) (by kernel_rfl) (by kernel_rfl) bb_4.size ?_ ?_
  ·
    refine pk_cons rfl rfl (st_pure [] [(4, .bool false)] (.bool false) rfl hN_4 (by kernel_rfl) (by kernel_rfl) (by kernel_rfl) (old1 e4_4) (by kernel_rfl) (by kernel_rfl) (by kernel_rfl) (fun _ => by kernel_rfl)) ?_
    refine pk_cons rfl rfl (st_pure [] [(6, .bool false)] (.bool false) rfl hN_4 (by kernel_rfl) (by kernel_rfl) (by kernel_rfl) (old1 e6_4) (by kernel_rfl) (by kernel_rfl) (by kernel_rfl) (fun _ => by kernel_rfl)) ?_
    refine pk_cons rfl rfl (st_pure [.bool false, .bool false] [] (.bool true) rfl hN_4 (by kernel_rfl) (by kernel_rfl) (by kernel_rfl) old0 (by kernel_rfl) (by kernel_rfl) (by kernel_rfl) (fun _ => by kernel_rfl)) ?_
    refine pk_cons rfl rfl (st_pure [.bool true] [] (.bool true) rfl hN_4 (by kernel_rfl) (by kernel_rfl) (by kernel_rfl) old0 (by kernel_rfl) (by kernel_rfl) (by kernel_rfl) (fun _ => by kernel_rfl)) ?_
    refine pk_cons rfl rfl (st_load4P p3_4 p3'_4 (by simp) e3_4 hN_4 (by kernel_rfl) rfl) ?_
    refine pk_cons rfl rfl (st_load4P p5_4 p5'_4 (by simp) e5_4 hN_4 (by kernel_rfl) rfl) ?_
    refine pk_cons rfl rfl (st_call2 hN_4 (by kernel_rfl) (by kernel_rfl) (by kernel_rfl) (by kernel_rfl) (by kernel_rfl) rfl rfl rfl fun w x v1 v2 hC h1 h2 => ti (lawSame_19 (pm (by decide) h1) (pm (by decide) h2))) ?_
    refine pk_cons rfl rfl (st_pure [.bool true, .bool true] [] (.bool true) rfl hN_4 (by kernel_rfl) (by kernel_rfl) (by kernel_rfl) old0 (by kernel_rfl) (by kernel_rfl) (by kernel_rfl) (fun _ => by kernel_rfl)) ?_
    refine pk_cons rfl rfl (st_pure [.bool true] [] (.bool true) rfl hN_4 (by kernel_rfl) (by kernel_rfl) (by kernel_rfl) old0 (by kernel_rfl) (by kernel_rfl) (by kernel_rfl) (fun _ => by kernel_rfl)) ?_
    exact pk_nil rfl
  intro W_5 x_ hC hall
  refine then_n ?_
  obtain ⟨a_5, ha⟩ : ∃ a, a = putE x_ a_4 [(0, some 22), (1, some 23), (2, some 24), (3, some 25), (4, some 26), (5, some 27), (6, some 28), (7, some 29), (8, some 2)] := ⟨_, rfl⟩
  rw [← ha]
  have hN_5 := size_behind ha hN_4
  have hD_5 := defers_behind ha hD_4
  have bb_5 := bb_4.trans hC.below
  have e0_5 := slot_old ha (by kernel_rfl) e0_4
  have e8_5 := slot_old ha (by kernel_rfl) e8_4
  have e11_5 := slot_old ha (by kernel_rfl) e11_4
  have e3_5 := slot_old ha (by kernel_rfl) e3_4
  have e4_5 := slot_old ha (by kernel_rfl) e4_4
  have e5_5 := slot_old ha (by kernel_rfl) e5_4
  have e6_5 := slot_old ha (by kernel_rfl) e6_4
  have p3_5 := hC.at0 p3_4
  have p3'_5 := hC.at0 p3'_4
  have p5_5 := hC.at0 p5_4
  have p5'_5 := hC.at0 p5'_4
  have e2_5 := (slot_new (t := 2) (i := 8) ha hN_4 (by kernel_rfl) (by kernel_rfl)).trans (show x_ 8 = .bool true from hall 8 (of_decide_eq_true (by kernel_rfl)))
  clear hall hC ha bb_4 hD_4 e0_4 e8_4 e11_4 e3_4 e4_4 e5_4 e6_4 p3_4 p3'_4 p5_4 p5'_4
  repeat (first | refine wp_seq ?_ | (refine wp_skip ?_; refine then_n ?_))
  refine wp_ret ?_
  repeat (refine then_r ?_)
  exact ret_one (t := 2) rfl hD_5 e2_5 ⟨rfl, bb_5⟩
theorem lawTexts_any {w : World} (s : ByteArray) (HT : Hid (Tab w ∧ 4 ≤ w.heap.size)) (hm : MaxL w) : Calls Tryz.prog 3 #[.string s] w fun e w' => e = .returned (.bool true) ∧ Below w.heap.size w w' := by
  by_cases h : 100 < s.size
  · exact lawTexts_big (decide_eq_true (by omega)) HT hm
  · obtain ⟨px, py, ok, h1, h2⟩ := parse_both w s (by omega) HT hm
    cases ok with
    | true => exact lawTexts_yes (decide_eq_false (by omega)) (Lib.hid h1) (Lib.hid h2) HT hm
    | false => exact lawTexts_no (decide_eq_false (by omega)) (Lib.hid h1) (Lib.hid h2) HT hm
end Go.Proofs.YthgclmkhmcfflaaGreatDoor
namespace Go.Proofs.YthgclmkhmcfflaaGreatDoor
open Go.ChangeShapes Go.WideShapes Go.ChangeAt Go.WideMaps Go.WideElems Go.RowKit
open Go.ChangeMaps (setBlock shut_map_nil open_string shut_string keptBut_setBlock frozen?_setBlock heap_setBlock_same)
set_option maxRecDepth 100000 in
theorem ratioTexts_lifted (os : Os) (started : os.Started) (H : Type) (enc : TypeId × Value → H) :
    ReturnsInHanded {} Tryz.checked os 3 .any (fun w args => (Rows.ratioTextsSpec.pre enc Tryz.prog Tryz.f3 [] false w args ∧ laidMetH Tryz.prog laid3 w) ∧ sizedMet enc Tryz.prog Tryz.f3 (OpenSpec.ofChange Rows.ratioTextsSpec) false w args)
      (Rows.ratioTextsSpec.post enc Tryz.prog Tryz.f3 false true false false) := by
  refine handed_and_shape (X := fun w => laidMetH Tryz.prog laid3 w) (fun _ _ hh h => h.of_heap hh) started (by kernel_rfl) Tryz.func3
    (ChangeSpec.witness_shaped (enc := enc) (C := Tryz.checked) (os := os) (X := fun w _ => laidMetH Tryz.prog laid3 w) false (World.doorLaid Tryz.prog 400 os) #[.string ⟨#[]⟩] 8 rfl (World.shaped_of_RefB (by kernel_rfl) (by kernel_rfl)) (by kernel_rfl) (by kernel_rfl) (by kernel_rfl) (door_met os _)) ?_
  intro W base args ds gs before hval0 hW hsh hL _
  have hval : ∀ (j : Nat) t v, Tryz.f3.params[j]? = some t → args[j]? = some v → Value.okWide Tryz.prog W .any base t v := hval0
  have hW' := hW
  obtain ⟨p, q, hA0, hV, rfl, hfz, hnd⟩ := hW
  have hA : DataW.TrodAll enc Tryz.prog W 0 (fun _ => true) true Tryz.f3.params.toList args.toList ds p := hA0
  rw [ Tryz.params3 ] at hA hval
  obtain ⟨v0, d0, rfl, rfl, h0⟩ := trodAll_one hA
  obtain ⟨rfl, rfl⟩ := trodVars_none hV
  obtain ⟨s, rfl, rfl, rfl, hs⟩ := open_string Tryz.underlying9 (hval 0 9 v0 rfl rfl) h0
  obtain ⟨ht, hw3⟩ := tab_of_laid hL
  have hm := maxL_of hsh
  clear hA0 hval0 hsh
  simp only [List.append_nil] at hW'
  have e1 : Rows.ratioTextsSpec.fn H ([.lit (.string s.data.toList)] ++ []) = { results := [.lit (.bool true)], args := [.lit (.string s.data.toList)] } := by simp [Rows.ratioTextsSpec]
  refine (lawTexts_any s (Lib.hid ⟨ht, hw3⟩) hm).mono fun e W' ⟨he, hb⟩ => ?_
  subst he
  refine ⟨_, rfl, _, _, _, [], [], [], hW', ?_, ?_, ?_, hb.frame _, fun h => by cases h⟩
  · rw [e1]; exact trodAll_mk1 (shut_bool Tryz.underlying4 true)
  · rw [e1]; exact trodAll_mk1 (shut_string Tryz.underlying9 hs)
  · rw [e1]; rfl
theorem ratioTexts_said : Rows.RatioTextsSaid :=
  OpenClaim.holds_of_wide 3 Tryz.f3 rfl rfl rfl rfl rfl rfl rfl ⟨rfl, rfl, rfl, rfl, rfl⟩ rfl rfl rfl rfl rfl (by kernel_rfl) Tryz.func3 (by kernel_rfl)
    (of_decide_eq_true (by kernel_rfl)) (by unfold Func.isWrapper; first | (rw [if_pos (by decide +kernel)]; kernel_rfl) | (rw [if_neg (by decide +kernel)]; exact ⟨rfl, rfl⟩))
    (fun os started H enc _ => ratioTexts_lifted os started H enc)
theorem ratioTexts_card : Rows.RatioTextsCardSaid :=
  Claim7.holds_tied_plain_at .later [] [.data, .data, .data] true (true, Rows.ratioTextsCard.stood.harness.2) false
    ratioTexts_said (fun _ h => by cases h) (by kernel_rfl) (fun _ h => by cases h) ratioTexts_row_tie rfl ⟨rfl, rfl⟩ (by kernel_rfl) rfl
    (fun f fn hf hfn => by
      obtain rfl : f = 3 := Option.some.inj ((show Tryz.prog.funcNamed "whetstone/whetstonelaw03.RatioTexts" = some 3 by kernel_rfl).symm.trans hf) |>.symm
      obtain rfl : fn = Tryz.f3 := (Option.some.inj (Tryz.func3.symm.trans hfn)).symm
      exact ⟨by kernel_rfl, fun j t ht => by
        rw [ Tryz.params3 ] at ht
        have hm : t ∈ [ 9 ] := by simpa using Array.mem_of_getElem? ht
        have hall : ([ 9 ].all fun u => !Tryz.prog.wantsStandIn u) = true := by kernel_rfl
        exact (show Tryz.prog.wantsStandIn t = false by simpa using List.all_eq_true.1 hall t hm)⟩)
    (by kernel_rfl)
/-- RatioTexts: for every text the call returns true, and it reads behind the call as it read before. -/
theorem ratioTexts_proved : Rows.RatioTextsCardSaid := ratioTexts_card
end Go.Proofs.YthgclmkhmcfflaaGreatDoor

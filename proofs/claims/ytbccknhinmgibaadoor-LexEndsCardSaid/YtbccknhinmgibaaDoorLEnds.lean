/- The law LexEnds, which takes no argument. Premise: the cell that the library's search asks holds a number. -/
import Derived.Test.YtbccknhinmgibaaDoorLPsLaw
import Derived.Test.YtbccknhinmgibaaDoorLShow
import Derived.Test.YtbccknhinmgibaaDoorLEndP
import Derived.Test.YtbccknhinmgibaaDoorBkL
import Derived.Deep.LoopGhost
set_option linter.unusedVariables false
set_option linter.unusedSimpArgs false
namespace Go.Proofs.YtbccknhinmgibaaDoor
open Go.RowKit

theorem replace_ok {w : World} {s : ByteArray} {b : UInt8} {m : Int} (hm : w.cell? ⟨0, 0, none⟩ = some (.int .i64 m)) (hs : s.size ≤ 5) : Calls Tryd.prog 5 #[.string s, .string ⟨#[97]⟩, .string ⟨#[b]⟩, .int .i64 1] w fun e w' => ∃ T : ByteArray, e = .returned (.string T) ∧ T.size ≤ 1000 ∧ Below w.heap.size w w' := by
  have hc := Lib.countB_mul_le ⟨#[97]⟩ (show 1 ≤ (⟨#[97]⟩ : ByteArray).size by decide) s.size s (Nat.le_refl _)
  have h1 : (⟨#[b]⟩ : ByteArray).size = 1 := rfl
  have h2 : (⟨#[97]⟩ : ByteArray).size = 1 := rfl
  rw [h2] at hc
  refine (Tryd.strings_Replace s ⟨#[97]⟩ ⟨#[b]⟩ 1 m w (by omega) hm (by decide) (by rw [h1]; omega)).mono ?_
  rintro e w' ⟨rfl, hb⟩
  refine ⟨_, rfl, ?_, hb⟩
  have := replace_len s.data.toList [97] [b]
  have hsz : s.data.toList.length = s.size := by simp
  show (Lib.replace s.data.toList [97] [b] 1).toArray.size ≤ 1000
  simp only [List.size_toArray]
  simp only [List.length_cons, List.length_nil] at this
  omega

theorem repeat_ok {w : World} {s : ByteArray} {k : Nat} {v : Int} (hv : v = (k : Int)) (hl : s.size * k ≤ 1000000000) (hk : k ≤ 1000000000) : Calls Tryd.prog 6 #[.string s, .int .i64 v] w fun e w' => ∃ T : ByteArray, e = .returned (.string T) ∧ T.data.toList = Lib.repeatL s.data.toList k ∧ T.size = k * s.size ∧ Below w.heap.size w w' := by
  subst hv
  refine (Tryd.strings_Repeat s k w (by omega) (by omega)).mono ?_
  rintro e w' ⟨rfl, hb⟩
  refine ⟨_, rfl, rfl, ?_, hb⟩
  show (Lib.repeatL s.data.toList k).toArray.size = _
  rw [List.size_toArray, Lib.repeatL_length]
  simp
set_option maxRecDepth 100000 in
set_option maxHeartbeats 6400000 in
theorem lexEnds_ok {w : World} (hm : ∃ m : Int, w.cell? ⟨0, 0, none⟩ = some (.int .i64 m)) : Calls Tryd.prog 3 #[] w fun e w' => e = .returned (.bool true) ∧ Below w.heap.size w w' := by
  have HM := Lib.hid hm
  clear hm
  go_enter Tryd.func3, Tryd.ntmps3
  go_wp2
  go_loopw [1] (fun cv wr => ∃ c : Nat, c ≤ 256 ∧ cv = .int .i64 (c : Int) ∧ Hid (Below w.heap.size w wr)) (fun cv _ => 256 - (intOf cv).toNat)
  case atStart => exact ⟨0, by omega, rfl, Lib.hid (Below.refl _ _)⟩
  case round =>
    obtain ⟨c, hc, rfl, HR⟩ := hrel
    by_cases hlt : c < 256
    · have hltd : decide ((c : Int) < 256) = true := decide_eq_true (by omega)
      go_wp2
      rename World => wo
      obtain ⟨w1, hw1⟩ : ∃ w1, w1 = wo.alloc (.cells #[.string ⟨#[97]⟩, .string ⟨#[97, 97, 32, 97]⟩, .string ⟨#[40, 97]⟩, .string ⟨#[97, 41]⟩, .string ⟨#[40, 97, 32, 97, 41]⟩, .string ⟨#[40, 41, 32, 97]⟩, .string ⟨#[97, 40, 41]⟩] 9) := ⟨_, rfl⟩
      have H1 := Lib.hid (show Below w.heap.size w w1 ∧ ∀ i, i < 7 → ∃ s : ByteArray, s.size ≤ 5 ∧ w1.cell? ⟨wo.heap.size, i, none⟩ = some (.string s) from by
        refine ⟨by rw [hw1]; exact HR.out.alloc HR.out.size _, fun i hi => ?_⟩
        rw [hw1]
        match i, hi with
        | 0, _ => exact ⟨_, by decide, (cell_of_row _ _ 0 _ _ _ (heap_alloc_new _ _)).trans rfl⟩
        | 1, _ => exact ⟨_, by decide, (cell_of_row _ _ 1 _ _ _ (heap_alloc_new _ _)).trans rfl⟩
        | 2, _ => exact ⟨_, by decide, (cell_of_row _ _ 2 _ _ _ (heap_alloc_new _ _)).trans rfl⟩
        | 3, _ => exact ⟨_, by decide, (cell_of_row _ _ 3 _ _ _ (heap_alloc_new _ _)).trans rfl⟩
        | 4, _ => exact ⟨_, by decide, (cell_of_row _ _ 4 _ _ _ (heap_alloc_new _ _)).trans rfl⟩
        | 5, _ => exact ⟨_, by decide, (cell_of_row _ _ 5 _ _ _ (heap_alloc_new _ _)).trans rfl⟩
        | 6, _ => exact ⟨_, by decide, (cell_of_row _ _ 6 _ _ _ (heap_alloc_new _ _)).trans rfl⟩)
      rw [← hw1]
      clear hw1
      go_loopw [3] (fun iv wr => ∃ i : Nat, i ≤ 7 ∧ iv = .int .i64 (i : Int) ∧ Hid (Below w1.heap.size w1 wr)) (fun iv _ => 7 - (intOf iv).toNat)
      case atStart => exact ⟨0, by omega, rfl, Lib.hid (Below.refl _ _)⟩
      case round =>
        obtain ⟨i, hi, rfl, HR2⟩ := hrel
        by_cases hi7 : i < 7
        · have hid : decide ((i : Int) < 7) = true := decide_eq_true (by omega)
          go_wp2_with fail
          obtain ⟨s, hsz, hs0⟩ := H1.out.2 i hi7
          have hs : wr.cell? ((⟨wo.heap.size, 0, none⟩ : Addr).add i) = some (.string s) := by rw [add_eq0]; exact (HR2.out.cell (cell_lt hs0)).trans hs0
          obtain ⟨b, hb⟩ : ∃ b : UInt8, b.toNat = c := ⟨UInt8.ofNat c, by simp; omega⟩
          have hwr : IntKind.u8.wrap (c : Int) = (b.toNat : Int) := by rw [hb, IntKind.wrap_u8]; omega
          have HMM := Lib.hid (show ∀ W', Below wr.heap.size wr W' → ∃ m : Int, W'.cell? ⟨0, 0, none⟩ = some (.int .i64 m) from fun W' hw => by
            obtain ⟨m, h⟩ := HM.out
            have hb2 := H1.out.1.trans (HR2.out.mono H1.out.1.size)
            exact ⟨m, ((hb2.trans (hw.mono hb2.size)).cell (cell_lt h)).trans h⟩)
          clear hs0 hb
          refine name_frame (G := fun a => Code.wp _ _ _ a _) ?_
          intro a0 hA0
          have hN : a0.tmps.size = 164 := by rw [hA0]; rfl
          have e1 : a0.eval (.tmp 1) = .int .i64 (c : Int) := by rw [hA0]; rfl
          have e2 : a0.eval (.tmp 2) = .slice (some ⟨wo.heap.size, 0, none⟩) 7 7 := by rw [hA0]; rfl
          have e3 : a0.eval (.tmp 3) = .int .i64 (i : Int) := by rw [hA0]; rfl
          refine wp_region_bk hN [bIs (.slice (some ⟨wo.heap.size, 0, none⟩) 7 7), bIs (.int .i64 (i : Int)), bIs (.pointer (some ((⟨wo.heap.size, 0, none⟩ : Addr).add i))), bIs (.string s), bIs (.int .i64 (c : Int)), bIs (.int .u8 (b.toNat : Int)), bOne b, bIs (.string ⟨#[b]⟩), bTxt, bIs (.bool true), bIs (.bool false), bIs (.bool false), bIs (.slice (some ⟨wo.heap.size, 0, none⟩) 7 7), bIs (.int .i64 (i : Int)), bIs (.pointer (some ((⟨wo.heap.size, 0, none⟩ : Addr).add i))), bIs (.string s), bIs (.int .i64 (c : Int)), bIs (.int .u8 (b.toNat : Int)), bOne b, bIs (.string ⟨#[b]⟩), bIs (.string (s ++ ⟨#[b]⟩)), bIs (.bool true), bIs (.bool false), bIs (.bool false), bIs (.bool false), bIs (.int .i64 (c : Int)), bIs (.int .u8 (b.toNat : Int)), bOne b, bIs (.string ⟨#[b]⟩), bIs (.slice (some ⟨wo.heap.size, 0, none⟩) 7 7), bIs (.int .i64 (i : Int)), bIs (.pointer (some ((⟨wo.heap.size, 0, none⟩ : Addr).add i))), bIs (.string s), bIs (.string (⟨#[b]⟩ ++ s)), bIs (.bool true), bIs (.bool false), bIs (.bool false)] [ [ ], [ ], [(0, some 29), (1, some 30)], [(2, some 31)], [ ], [(4, some 33)], [(5, some 34)], [(6, some 35)], [(3, some 32), (7, some 36)], [(8, some 37)], [(9, some 38)], [(10, some 39)], [ ], [ ], [(12, some 41), (13, some 42)], [(14, some 43)], [ ], [(16, some 45)], [(17, some 46)], [(18, some 47)], [(15, some 44), (19, some 48)], [(20, some 49)], [(21, some 50)], [(11, some 40), (22, some 51)], [(23, some 52)], [ ], [(25, some 54)], [(26, some 55)], [(27, some 56)], [ ], [ ], [(29, some 58), (30, some 59)], [(31, some 60)], [(28, some 57), (32, some 61)], [(33, some 62)], [(34, some 63)], [(24, some 53), (35, some 64)] ] [(0, some 29), (1, some 30), (2, some 31), (3, some 32), (4, some 33), (5, some 34), (6, some 35), (7, some 36), (8, some 37), (9, some 38), (10, some 39), (11, some 40), (12, some 41), (13, some 42), (14, some 43), (15, some 44), (16, some 45), (17, some 46), (18, some 47), (19, some 48), (20, some 49), (21, some 50), (22, some 51), (23, some 52), (24, some 53), (25, some 54), (26, some 55), (27, some 56), (28, some 57), (29, some 58), (30, some 59), (31, some 60), (32, some 61), (33, some 62), (34, some 63), (35, some 64), (36, some 65)] [(11, false), (24, false)] [] rfl (by kernel_rfl) (by kernel_rfl) rfl rfl ?_ ?_
          rotate_left
          · intro W x hbW hall
            have e36 : x 36 = .bool false := hall 36 (of_decide_eq_true (by kernel_rfl))
            have ef : putE x a0 [(0, some 29), (1, some 30), (2, some 31), (3, some 32), (4, some 33), (5, some 34), (6, some 35), (7, some 36), (8, some 37), (9, some 38), (10, some 39), (11, some 40), (12, some 41), (13, some 42), (14, some 43), (15, some 44), (16, some 45), (17, some 46), (18, some 47), (19, some 48), (20, some 49), (21, some 50), (22, some 51), (23, some 52), (24, some 53), (25, some 54), (26, some 55), (27, some 56), (28, some 57), (29, some 58), (30, some 59), (31, some 60), (32, some 61), (33, some 62), (34, some 63), (35, some 64), (36, some 65)] = { tmps := #[u0, .int .i64 (c : Int), .slice (some ⟨wo.heap.size, 0, none⟩) 7 7, .int .i64 (i : Int), undef, undef, undef, undef, undef, undef, undef, undef, undef, undef, undef, undef, undef, undef, .int .i64 (c : Int), .bool true, u20, u21, .slice (some ⟨wo.heap.size, 0, none⟩) 7 7, .int .i64 (i : Int), .slice (some ⟨wo.heap.size, 0, none⟩) 7 7, .int .i64 7, .bool true, u27, u28, x 0, x 1, x 2, x 3, x 4, x 5, x 6, x 7, x 8, x 9, x 10, x 11, x 12, x 13, x 14, x 15, x 16, x 17, x 18, x 19, x 20, x 21, x 22, x 23, x 24, x 25, x 26, x 27, x 28, x 29, x 30, x 31, x 32, x 33, x 34, x 35, .bool false, undef, undef, undef, undef, undef, undef, undef, undef, undef, undef, undef, undef, undef, undef, undef, undef, undef, undef, undef, undef, undef, undef, undef, undef, undef, undef, undef, undef, undef, undef, undef, undef, undef, undef, undef, undef, undef, undef, undef, undef, undef, undef, undef, undef, undef, undef, undef, undef, undef, undef, undef, undef, undef, undef, undef, undef, undef, undef, undef, undef, undef, undef, undef, undef, undef, undef, undef, undef, undef, undef, undef, undef, undef, undef, undef, undef, undef, undef, undef, undef, undef, undef, undef, undef, undef, undef, undef, undef, undef, undef, undef, undef, undef, undef, undef, undef, undef, undef], defers := [] } := by subst hA0; rw [← e36]; kernel_rfl
            rw [ef]
            clear ef hN e1 e2 e3 hA0 hall HMM hwr hs e36
            generalize x 0 = x0, x 1 = x1, x 2 = x2, x 3 = x3, x 4 = x4, x 5 = x5, x 6 = x6, x 7 = x7, x 8 = x8, x 9 = x9, x 10 = x10, x 11 = x11, x 12 = x12, x 13 = x13, x 14 = x14, x 15 = x15, x 16 = x16, x 17 = x17, x 18 = x18, x 19 = x19, x 20 = x20, x 21 = x21, x 22 = x22, x 23 = x23, x 24 = x24, x 25 = x25, x 26 = x26, x 27 = x27, x 28 = x28, x 29 = x29, x 30 = x30, x 31 = x31, x 32 = x32, x 33 = x33, x 34 = x34, x 35 = x35
            dsimp only
            go_wp2
            exact ⟨⟨i + 1, by omega, by go_num, Lib.hid (HR2.out.trans (hbW.mono HR2.out.size))⟩, by simp [intOf]; omega⟩
          clear HR2 H1 HM
          refine b_cons rfl rfl ?_ ?_
          · exact b_pure [] [(2, .slice (some ⟨wo.heap.size, 0, none⟩) 7 7)] (.slice (some ⟨wo.heap.size, 0, none⟩) 7 7) (.slice (some ⟨wo.heap.size, 0, none⟩) 7 7) rfl rfl hN (by kernel_rfl) (by kernel_rfl) rfl (old1 e2) (by kernel_rfl) (by kernel_rfl) rfl (fun _ => by kernel_rfl)
          refine b_cons rfl rfl ?_ ?_
          · exact b_pure [] [(3, .int .i64 (i : Int))] (.int .i64 (i : Int)) (.int .i64 (i : Int)) rfl rfl hN (by kernel_rfl) (by kernel_rfl) rfl (old1 e3) (by kernel_rfl) (by kernel_rfl) rfl (fun _ => by kernel_rfl)
          refine b_cons rfl rfl ?_ ?_
          · exact b_idxs hi7 hN (by kernel_rfl) (by kernel_rfl) (by kernel_rfl) (by kernel_rfl) rfl rfl rfl
          refine b_cons rfl rfl ?_ ?_
          · exact b_lds hs hN (by kernel_rfl) (by kernel_rfl) rfl rfl
          refine b_cons rfl rfl ?_ ?_
          · exact b_pure [] [(1, .int .i64 (c : Int))] (.int .i64 (c : Int)) (.int .i64 (c : Int)) rfl rfl hN (by kernel_rfl) (by kernel_rfl) rfl (old1 e1) (by kernel_rfl) (by kernel_rfl) rfl (fun _ => by kernel_rfl)
          refine b_cons rfl rfl ?_ ?_
          · exact b_pure [.int .i64 (c : Int)] [] (.int .u8 (IntKind.u8.wrap (c : Int))) (.int .u8 (b.toNat : Int)) (by rw [hwr]) rfl hN (by kernel_rfl) (by kernel_rfl) rfl old0 (by kernel_rfl) (by kernel_rfl) rfl (fun _ => by kernel_rfl)
          refine b_cons rfl rfl ?_ ?_
          · exact b_one hN (by kernel_rfl) (by kernel_rfl) rfl rfl
          refine b_cons rfl rfl ?_ ?_
          · exact b_text hN (by kernel_rfl) (by kernel_rfl) rfl rfl
          refine b_cons rfl rfl ?_ ?_
          · refine b_call (ss := [.dep 3, .val (.string ⟨#[97]⟩), .dep 7, .val (.int .i64 1)]) hN (by kernel_rfl) (by kernel_rfl) (by kernel_rfl) (by kernel_rfl) fun W x hb hd => ?_
            have g0 := hd (3, some 32) (by simp)
            have g1 := hd (7, some 36) (by simp)
            replace g0 : x 3 = .string s := g0
            replace g1 : x 7 = .string ⟨#[b]⟩ := g1
            show Calls _ _ #[x 3, .string ⟨#[97]⟩, x 7, .int .i64 1] _ _
            rw [g0, g1]
            obtain ⟨m, hm⟩ := HMM.out W hb
            refine (replace_ok (w := W) (b := b) hm hsz).mono ?_
            rintro e W' ⟨T, rfl, hT, h1⟩
            exact ⟨_, rfl, h1, T, rfl, hT⟩
          refine b_cons rfl rfl ?_ ?_
          · refine b_call (ss := [.dep 8]) hN (by kernel_rfl) (by kernel_rfl) (by kernel_rfl) (by kernel_rfl) fun W x hb hd => ?_
            have g0 := hd (8, some 37) (by simp)
            obtain ⟨T, hT, hTs⟩ := g0
            show Calls _ _ #[x 8] _ _
            rw [hT]
            refine (parses_ok (w := W) (by omega)).mono ?_
            rintro e W' ⟨rfl, h1⟩
            exact ⟨_, rfl, h1, rfl⟩
          refine b_cons rfl rfl ?_ ?_
          · exact b_pure [.bool true] [] (.bool false) (.bool false) rfl rfl hN (by kernel_rfl) (by kernel_rfl) rfl old0 (by kernel_rfl) (by kernel_rfl) rfl (fun _ => by kernel_rfl)
          refine b_cons rfl rfl ?_ ?_
          · exact b_pure [.bool false] [] (.bool false) (.bool false) rfl rfl hN (by kernel_rfl) (by kernel_rfl) rfl old0 (by kernel_rfl) (by kernel_rfl) rfl (fun _ => by kernel_rfl)
          refine b_cons rfl rfl ?_ ?_
          · exact b_pure [] [(2, .slice (some ⟨wo.heap.size, 0, none⟩) 7 7)] (.slice (some ⟨wo.heap.size, 0, none⟩) 7 7) (.slice (some ⟨wo.heap.size, 0, none⟩) 7 7) rfl rfl hN (by kernel_rfl) (by kernel_rfl) rfl (old1 e2) (by kernel_rfl) (by kernel_rfl) rfl (fun _ => by kernel_rfl)
          refine b_cons rfl rfl ?_ ?_
          · exact b_pure [] [(3, .int .i64 (i : Int))] (.int .i64 (i : Int)) (.int .i64 (i : Int)) rfl rfl hN (by kernel_rfl) (by kernel_rfl) rfl (old1 e3) (by kernel_rfl) (by kernel_rfl) rfl (fun _ => by kernel_rfl)
          refine b_cons rfl rfl ?_ ?_
          · exact b_idxs hi7 hN (by kernel_rfl) (by kernel_rfl) (by kernel_rfl) (by kernel_rfl) rfl rfl rfl
          refine b_cons rfl rfl ?_ ?_
          · exact b_lds hs hN (by kernel_rfl) (by kernel_rfl) rfl rfl
          refine b_cons rfl rfl ?_ ?_
          · exact b_pure [] [(1, .int .i64 (c : Int))] (.int .i64 (c : Int)) (.int .i64 (c : Int)) rfl rfl hN (by kernel_rfl) (by kernel_rfl) rfl (old1 e1) (by kernel_rfl) (by kernel_rfl) rfl (fun _ => by kernel_rfl)
          refine b_cons rfl rfl ?_ ?_
          · exact b_pure [.int .i64 (c : Int)] [] (.int .u8 (IntKind.u8.wrap (c : Int))) (.int .u8 (b.toNat : Int)) (by rw [hwr]) rfl hN (by kernel_rfl) (by kernel_rfl) rfl old0 (by kernel_rfl) (by kernel_rfl) rfl (fun _ => by kernel_rfl)
          refine b_cons rfl rfl ?_ ?_
          · exact b_one hN (by kernel_rfl) (by kernel_rfl) rfl rfl
          refine b_cons rfl rfl ?_ ?_
          · exact b_text hN (by kernel_rfl) (by kernel_rfl) rfl rfl
          refine b_cons rfl rfl ?_ ?_
          · exact b_add (by have : (⟨#[b]⟩ : ByteArray).size = 1 := rfl; omega) hN (by kernel_rfl) (by kernel_rfl) (by kernel_rfl) (by kernel_rfl) rfl rfl rfl
          refine b_cons rfl rfl ?_ ?_
          · refine b_call (ss := [.dep 20]) hN (by kernel_rfl) (by kernel_rfl) (by kernel_rfl) (by kernel_rfl) fun W x hb hd => ?_
            have g0 := hd (20, some 49) (by simp)
            replace g0 : x 20 = .string (s ++ ⟨#[b]⟩) := g0
            show Calls _ _ #[x 20] _ _
            rw [g0]
            refine (parses_ok (w := W) (by rw [ByteArray.size_append]; have : (⟨#[b]⟩ : ByteArray).size = 1 := rfl; omega)).mono ?_
            rintro e W' ⟨rfl, h1⟩
            exact ⟨_, rfl, h1, rfl⟩
          refine b_cons rfl rfl ?_ ?_
          · exact b_pure [.bool true] [] (.bool false) (.bool false) rfl rfl hN (by kernel_rfl) (by kernel_rfl) rfl old0 (by kernel_rfl) (by kernel_rfl) rfl (fun _ => by kernel_rfl)
          refine b_cons rfl rfl ?_ ?_
          · exact b_pure [.bool false, .bool false] [] (.bool false) (.bool false) rfl rfl hN (by kernel_rfl) (by kernel_rfl) rfl old0 (by kernel_rfl) (by kernel_rfl) rfl (fun _ => by kernel_rfl)
          refine b_cons rfl rfl ?_ ?_
          · exact b_pure [.bool false] [] (.bool false) (.bool false) rfl rfl hN (by kernel_rfl) (by kernel_rfl) rfl old0 (by kernel_rfl) (by kernel_rfl) rfl (fun _ => by kernel_rfl)
          refine b_cons rfl rfl ?_ ?_
          · exact b_pure [] [(1, .int .i64 (c : Int))] (.int .i64 (c : Int)) (.int .i64 (c : Int)) rfl rfl hN (by kernel_rfl) (by kernel_rfl) rfl (old1 e1) (by kernel_rfl) (by kernel_rfl) rfl (fun _ => by kernel_rfl)
          refine b_cons rfl rfl ?_ ?_
          · exact b_pure [.int .i64 (c : Int)] [] (.int .u8 (IntKind.u8.wrap (c : Int))) (.int .u8 (b.toNat : Int)) (by rw [hwr]) rfl hN (by kernel_rfl) (by kernel_rfl) rfl old0 (by kernel_rfl) (by kernel_rfl) rfl (fun _ => by kernel_rfl)
          refine b_cons rfl rfl ?_ ?_
          · exact b_one hN (by kernel_rfl) (by kernel_rfl) rfl rfl
          refine b_cons rfl rfl ?_ ?_
          · exact b_text hN (by kernel_rfl) (by kernel_rfl) rfl rfl
          refine b_cons rfl rfl ?_ ?_
          · exact b_pure [] [(2, .slice (some ⟨wo.heap.size, 0, none⟩) 7 7)] (.slice (some ⟨wo.heap.size, 0, none⟩) 7 7) (.slice (some ⟨wo.heap.size, 0, none⟩) 7 7) rfl rfl hN (by kernel_rfl) (by kernel_rfl) rfl (old1 e2) (by kernel_rfl) (by kernel_rfl) rfl (fun _ => by kernel_rfl)
          refine b_cons rfl rfl ?_ ?_
          · exact b_pure [] [(3, .int .i64 (i : Int))] (.int .i64 (i : Int)) (.int .i64 (i : Int)) rfl rfl hN (by kernel_rfl) (by kernel_rfl) rfl (old1 e3) (by kernel_rfl) (by kernel_rfl) rfl (fun _ => by kernel_rfl)
          refine b_cons rfl rfl ?_ ?_
          · exact b_idxs hi7 hN (by kernel_rfl) (by kernel_rfl) (by kernel_rfl) (by kernel_rfl) rfl rfl rfl
          refine b_cons rfl rfl ?_ ?_
          · exact b_lds hs hN (by kernel_rfl) (by kernel_rfl) rfl rfl
          refine b_cons rfl rfl ?_ ?_
          · exact b_add (by have : (⟨#[b]⟩ : ByteArray).size = 1 := rfl; omega) hN (by kernel_rfl) (by kernel_rfl) (by kernel_rfl) (by kernel_rfl) rfl rfl rfl
          refine b_cons rfl rfl ?_ ?_
          · refine b_call (ss := [.dep 33]) hN (by kernel_rfl) (by kernel_rfl) (by kernel_rfl) (by kernel_rfl) fun W x hb hd => ?_
            have g0 := hd (33, some 62) (by simp)
            replace g0 : x 33 = .string (⟨#[b]⟩ ++ s) := g0
            show Calls _ _ #[x 33] _ _
            rw [g0]
            refine (parses_ok (w := W) (by rw [ByteArray.size_append]; have : (⟨#[b]⟩ : ByteArray).size = 1 := rfl; omega)).mono ?_
            rintro e W' ⟨rfl, h1⟩
            exact ⟨_, rfl, h1, rfl⟩
          refine b_cons rfl rfl ?_ ?_
          · exact b_pure [.bool true] [] (.bool false) (.bool false) rfl rfl hN (by kernel_rfl) (by kernel_rfl) rfl old0 (by kernel_rfl) (by kernel_rfl) rfl (fun _ => by kernel_rfl)
          refine b_cons rfl rfl ?_ ?_
          · exact b_pure [.bool false, .bool false] [] (.bool false) (.bool false) rfl rfl hN (by kernel_rfl) (by kernel_rfl) rfl old0 (by kernel_rfl) (by kernel_rfl) rfl (fun _ => by kernel_rfl)
          exact b_nil rfl
        · have hid : decide ((i : Int) < 7) = false := decide_eq_false (by omega)
          have HE := Lib.hid (H1.out.1.trans (HR2.out.mono H1.out.1.size))
          clear H1 HR2 hi7 hi
          go_wp2
          exact ⟨⟨c + 1, by omega, by go_num, HE⟩, by simp [intOf]; omega⟩
    · have hltd : decide ((c : Int) < 256) = false := decide_eq_false (by omega)
      have HB0 := HR
      clear HR hlt hc
      go_wp2
      clear hltd
      go_loopw [4] (fun cv wr => ∃ n : Nat, 398 ≤ n ∧ n ≤ 403 ∧ cv = .int .i64 (n : Int) ∧ Hid (Below w.heap.size w wr)) (fun cv _ => 403 - (intOf cv).toNat)
      case atStart => exact ⟨398, by omega, by omega, rfl, HB0⟩
      case round =>
        obtain ⟨n, hn1, hn2, rfl, HR⟩ := hrel
        by_cases hlt : n < 403
        · have hltd : decide ((n : Int) < 403) = true := decide_eq_true (by omega)
          have HC := Lib.hid (fun (W : World) (s : ByteArray) (k : Nat) (v : Int) (hs : s.size ≤ 2) (hk : k ≤ 500) (hv : v = (k : Int)) => repeat_ok (w := W) (s := s) (v := v) hv (by have := Nat.mul_le_mul hs hk; omega) (by omega))
          go_wp2_with fail
          refine (HC.out _ ⟨#[40]⟩ n _ (by decide) (by omega) rfl).mono ?_
          rintro e w1 ⟨o, rfl, -, ho, hb1⟩
          have HB1 := Lib.hid (HR.out.trans (hb1.mono HR.out.size))
          have HO := Lib.hid (show o.size ≤ 500 by rw [ho]; show n * 1 ≤ 500; omega)
          clear hb1 ho
          go_wp2_with fail
          refine (HC.out _ ⟨#[41]⟩ n _ (by decide) (by omega) rfl).mono ?_
          rintro e w2 ⟨T1, rfl, -, hT1, hb2⟩
          have HB2 := Lib.hid (HB1.out.trans (hb2.mono HB1.out.size))
          have HT1 := Lib.hid (show T1.size ≤ 500 by rw [hT1]; show n * 1 ≤ 500; omega)
          have c1 : ¬ 9223372036854775807 < o.size + T1.size := by have := HO.out; have := HT1.out; omega
          have c2 : ¬ 9223372036854775807 < o.size + 1 := by have := HO.out; omega
          clear hb2 hT1 HB1
          go_wp2_with fail
          refine (HC.out _ ⟨#[41, 32]⟩ (n - 1) _ (by decide) (by omega) (by omega)).mono ?_
          rintro e w3 ⟨T2, rfl, -, hT2, hb3⟩
          have HB3 := Lib.hid (HB2.out.trans (hb3.mono HB2.out.size))
          have HT2 := Lib.hid (show T2.size ≤ 1000 by rw [hT2]; show (n - 1) * 2 ≤ 1000; omega)
          have c3 : ¬ 9223372036854775807 < o.size + 1 + T2.size := by have := HO.out; have := HT2.out; omega
          clear hb3 hT2 HB2
          go_wp2_with fail
          refine (HC.out _ ⟨#[41]⟩ (n + 1) _ (by decide) (by omega) (by omega)).mono ?_
          rintro e w4 ⟨T3, rfl, -, hT3, hb4⟩
          have HB4 := Lib.hid (HB3.out.trans (hb4.mono HB3.out.size))
          have HT3 := Lib.hid (show T3.size ≤ 500 by rw [hT3]; show (n + 1) * 1 ≤ 500; omega)
          have c4 : ¬ 9223372036854775807 < o.size + T3.size := by have := HO.out; have := HT3.out; omega
          have c5 : ¬ 9223372036854775807 < 1 + o.size := by have := HO.out; omega
          have c6 : ¬ 9223372036854775807 < 1 + o.size + 1 := by have := HO.out; omega
          clear hb4 hT3 HB3 HC
          go_wp2_with fail
          obtain ⟨w5, hw5⟩ : ∃ w5, w5 = w4.alloc (.cells #[.string o, .string (o ++ T1), .string (o ++ ⟨#[97]⟩ ++ T2), .string (o ++ T3), .string (⟨#[97]⟩ ++ o ++ ⟨#[65]⟩)] 9) := ⟨_, rfl⟩
          have H5 := Lib.hid (show Below w.heap.size w w5 ∧ ∀ j, j < 5 → ∃ s : ByteArray, s.size ≤ 5000 ∧ w5.cell? ⟨w4.heap.size, j, none⟩ = some (.string s) from by
            have q0 := HO.out
            have q1 := HT1.out
            have q2 := HT2.out
            have q3 := HT3.out
            have z1 : (⟨#[97]⟩ : ByteArray).size = 1 := rfl
            have z2 : (⟨#[65]⟩ : ByteArray).size = 1 := rfl
            refine ⟨by rw [hw5]; exact HB4.out.alloc HB4.out.size _, fun j hj => ?_⟩
            rw [hw5]
            match j, hj with
            | 0, _ => exact ⟨_, by omega, (cell_of_row _ _ 0 _ _ _ (heap_alloc_new _ _)).trans rfl⟩
            | 1, _ => exact ⟨_, by rw [ByteArray.size_append]; omega, (cell_of_row _ _ 1 _ _ _ (heap_alloc_new _ _)).trans rfl⟩
            | 2, _ => exact ⟨_, by rw [ByteArray.size_append, ByteArray.size_append]; omega, (cell_of_row _ _ 2 _ _ _ (heap_alloc_new _ _)).trans rfl⟩
            | 3, _ => exact ⟨_, by rw [ByteArray.size_append]; omega, (cell_of_row _ _ 3 _ _ _ (heap_alloc_new _ _)).trans rfl⟩
            | 4, _ => exact ⟨_, by rw [ByteArray.size_append, ByteArray.size_append]; omega, (cell_of_row _ _ 4 _ _ _ (heap_alloc_new _ _)).trans rfl⟩)
          rw [← hw5]
          clear hw5 c1 c2 c3 c4 c5 c6 HO HT1 HT2 HT3 HB4 HR
          go_loopw [7] (fun iv wr => ∃ i : Nat, i ≤ 5 ∧ iv = .int .i64 (i : Int) ∧ Hid (Below w5.heap.size w5 wr)) (fun iv _ => 5 - (intOf iv).toNat)
          case atStart => exact ⟨0, by omega, rfl, Lib.hid (Below.refl _ _)⟩
          case round =>
            obtain ⟨i, hi, rfl, HR2⟩ := hrel
            by_cases hi5 : i < 5
            · have hid : decide ((i : Int) < 5) = true := decide_eq_true (by omega)
              obtain ⟨s, hsz, hs0⟩ := H5.out.2 i hi5
              have hs := (HR2.out.cell (cell_lt hs0)).trans hs0
              have x1 : (i : Int) < 5 := by omega
              have x0 : (0 : Int) ≤ (i : Int) := by omega
              clear hs0
              go_wp2_with fail
              refine (parses_ok (S := s) (by omega)).mono ?_
              rintro e w6 ⟨rfl, hb6⟩
              have HE := Lib.hid (HR2.out.trans (hb6.mono HR2.out.size))
              clear hb6 hs HR2
              go_wp2
              exact ⟨⟨i + 1, by omega, by go_num, HE⟩, by simp [intOf]; omega⟩
            · have hid : decide ((i : Int) < 5) = false := decide_eq_false (by omega)
              have HE := Lib.hid (H5.out.1.trans (HR2.out.mono H5.out.1.size))
              clear H5 HR2 hi5 hi
              go_wp2
              go_roundw
              case rel => exact ⟨n + 1, by omega, by omega, by go_num, HE⟩
              case measure => simp [intOf]; omega
        · have hltd : decide ((n : Int) < 403) = false := decide_eq_false (by omega)
          have HB1 := HR
          clear HR hlt hn1 hn2 HB0 HM
          obtain ⟨M, hM⟩ : ∃ M : Nat, M = 262144 := ⟨_, rfl⟩
          have HMM := Lib.hid hM
          have HC := Lib.hid (fun (W : World) => repeat_ok (w := W) (s := ⟨#[97]⟩) (k := M) (v := 262144) (by omega) (by show 1 * M ≤ _; omega) (by omega))
          have HD := Lib.hid (fun (W : World) (c : UInt8) => repeat_ok (w := W) (s := ⟨#[c]⟩) (k := 400) (v := 400) rfl (by show 1 * 400 ≤ _; omega) (by omega))
          clear hM
          go_wp2_with fail
          refine (HC.out _).mono ?_
          rintro e w2 ⟨T, rfl, hT, hTs, hb2⟩
          have hT' : T.data.toList = List.replicate M 97 := by rw [hT]; exact repeat_one 97 M
          have hTs' : T.size = M := by rw [hTs]; exact Nat.mul_one M
          have HB2 := Lib.hid (HB1.out.trans (hb2.mono HB1.out.size))
          obtain ⟨f1, p1, n1, e1, d1, q1, h1⟩ := parse_any (S := T) (by rw [hTs', HMM.out]; omega)
          rw [hT', parse_word M 97 (by decide) (by have := HMM.out; omega) (by have := HMM.out; omega)] at e1
          simp only [Prod.mk.injEq] at e1
          obtain ⟨rfl, rfl, rfl⟩ := e1
          obtain ⟨f2, p2, n2, e2, d2, q2, h2⟩ := parse_any (S := T ++ ⟨#[65]⟩) (by rw [ByteArray.size_append, hTs', HMM.out]; decide)
          rw [parse_over (by rw [app_bytes, List.length_append, hT', List.length_replicate, HMM.out]; decide)] at e2
          simp only [Prod.mk.injEq] at e2
          obtain ⟨rfl, rfl, rfl⟩ := e2
          have c1 : ¬ 9223372036854775807 < T.size + 1 := by rw [hTs', HMM.out]; decide
          have HP1 := Lib.hid h1
          have HP2 := Lib.hid h2
          have HT := Lib.hid hTs'
          clear h1 h2 hT hTs hT' hTs' hb2 HB1 HC d1 q1 d2 q2
          go_wp2_with fail
          refine (HP1.out _).mono ?_
          rintro e w3 ⟨hb3, K1, k1, rfl, hf1⟩
          have HB3 := Lib.hid (show _ ∧ _ from ⟨HB2.out.trans (hb3.mono HB2.out.size), hf1⟩)
          clear hb3 hf1 HB2 HP1
          go_wp2_with fail
          refine (HP2.out _).mono ?_
          rintro e w4 ⟨hb4, K2, k2, rfl, -⟩
          have HB4 := Lib.hid (show _ ∧ _ from ⟨HB3.out.1.trans (hb4.mono HB3.out.1.size), HB3.out.2.below hb4⟩)
          clear hb4 HB3 HP2
          go_wp2_with fail
          refine (HD.out _ 40).mono ?_
          rintro e w5 ⟨T5, rfl, hT5, hs5, hb5⟩
          have HB5 := Lib.hid (show _ ∧ _ from ⟨HB4.out.1.trans (hb5.mono HB4.out.1.size), HB4.out.2.below hb5⟩)
          have HT5 := Lib.hid (show T5.data.toList = List.replicate 400 40 ∧ T5.size = 400 from ⟨by rw [hT5]; exact repeat_one 40 400, by rw [hs5]; rfl⟩)
          clear hb5 HB4 hT5 hs5
          go_wp2_with fail
          refine (HD.out _ 41).mono ?_
          rintro e w6 ⟨T6, rfl, hT6, hs6, hb6⟩
          have HB6 := Lib.hid (show _ ∧ _ from ⟨HB5.out.1.trans (hb6.mono HB5.out.1.size), HB5.out.2.below hb6⟩)
          have HT6 := Lib.hid (show T6.data.toList = List.replicate 400 41 ∧ T6.size = 400 from ⟨by rw [hT6]; exact repeat_one 41 400, by rw [hs6]; rfl⟩)
          have c2 : ¬ 9223372036854775807 < T5.size + T6.size := by rw [HT5.out.2, HT6.out.2]; omega
          obtain ⟨f3, p3, n3, e3, d3, q3, h3⟩ := parse_any (S := T5 ++ T6) (by rw [ByteArray.size_append, HT5.out.2, HT6.out.2]; omega)
          obtain ⟨fK, hK, hpK⟩ := parse_nest 400 (Nat.le_refl _)
          rw [app_bytes, HT5.out.1, HT6.out.1, hpK] at e3
          simp only [Prod.mk.injEq] at e3
          obtain ⟨rfl, rfl, rfl⟩ := e3
          have HP3 := Lib.hid h3
          have HK := Lib.hid (show fK.deep = 400 ∧ fK.nodes ≤ 262144 from ⟨hK, d3⟩)
          clear hb6 HB5 hT6 hs6 h3 hK hpK d3 q3 HT5 HT6
          go_wp2_with fail
          refine (HP3.out _).mono ?_
          rintro e w7 ⟨hb7, K3, k3, rfl, hf3⟩
          have HB7 := Lib.hid (show _ ∧ _ ∧ _ from ⟨HB6.out.1.trans (hb7.mono HB6.out.1.size), HB6.out.2.below hb7, hf3⟩)
          clear hb7 hf3 HB6 HP3 HD c1 c2
          have T0 := Lib.hid (fun (W : World) => show Calls Tryd.prog 9 #[.slice none 0 0] W fun e w' => e = .returned (.string ⟨#[]⟩) ∧ Below W.heap.size W w' from Text_ok (K := none) (c := 0) (f := .nil) ⟨none, 0, rfl, Nat.le_refl _, Nat.zero_le _, Nat.zero_le _, trivial⟩ (by decide) (by decide))
          have D0 := Lib.hid (fun (W : World) => show Calls Tryd.prog 8 #[.slice none 0 0] W fun e w' => e = .returned (.int .i64 0) ∧ Below W.heap.size W w' from Deep_ok (K := none) (c := 0) (f := .nil) ⟨none, 0, rfl, Nat.le_refl _, Nat.zero_le _, Nat.zero_le _, trivial⟩ (by decide))
          have hDp := Deep_ok HB7.out.2.2 (by have := HK.out.2; omega)
          rw [HK.out.1] at hDp
          have HDp := Lib.hid hDp
          clear hDp
          have l1 : (Fo.one ⟨(List.replicate M 97).toArray⟩ .nil false 0).len = 1 := rfl
          have b1 : ((((Fo.one ⟨(List.replicate M 97).toArray⟩ .nil false 0).len : Nat) : Int) == 1) = true := rfl
          have b4 : (((400 : Nat) : Int) == 400) = true := rfl
          have es0 : ((⟨#[]⟩ : ByteArray).toList == (⟨#[]⟩ : ByteArray).toList) = true := beq_self_eq_true _
          go_wp2_with fail
          refine HDp.out.mono ?_
          rintro e w8 ⟨rfl, hb8⟩
          have HB8 := Lib.hid (show _ ∧ _ from ⟨HB7.out.1.trans (hb8.mono HB7.out.1.size), HB7.out.2.1.below hb8⟩)
          clear hb8 HB7 HDp HK
          go_wp2_with fail
          refine (T0.out _).mono ?_
          rintro e w9 ⟨rfl, hb9⟩
          have HB9 := Lib.hid (show _ ∧ _ from ⟨HB8.out.1.trans (hb9.mono HB8.out.1.size), HB8.out.2.below hb9⟩)
          clear hb9 HB8 T0
          go_wp2_with fail
          refine (D0.out _).mono ?_
          rintro e wa ⟨rfl, hba⟩
          have HBa := Lib.hid (show _ ∧ _ from ⟨HB9.out.1.trans (hba.mono HB9.out.1.size), HB9.out.2.below hba⟩)
          clear hba HB9 D0
          obtain ⟨f1, hf1e⟩ : ∃ f1, f1 = Fo.one ⟨(List.replicate M 97).toArray⟩ .nil false 0 := ⟨_, rfl⟩
          have hSh : Calls Tryd.prog 10 #[.slice (some ⟨wa.heap.size, 0, none⟩) 2 2] (wa.alloc (.cells #[.string ⟨#[120]⟩, .slice none 0 0, .bool true, .int .i64 0, .string ⟨#[]⟩, .slice K1 f1.len k1, .bool false, .int .i64 0] 35)) fun e w' => e = .returned (.bool true) ∧ Below wa.heap.size wa w' := by
            have ha := heap_alloc_new wa (.cells #[.string ⟨#[120]⟩, .slice none 0 0, .bool true, .int .i64 0, .string ⟨#[]⟩, .slice K1 f1.len k1, .bool false, .int .i64 0] 35)
            have hb : Below wa.heap.size wa (wa.alloc (.cells #[.string ⟨#[120]⟩, .slice none 0 0, .bool true, .int .i64 0, .string ⟨#[]⟩, .slice K1 f1.len k1, .bool false, .int .i64 0] 35)) := (Below.refl _ _).alloc (Nat.le_refl _) _
            have h2 := HBa.out.2
            rw [← hf1e] at h2
            obtain ⟨K', k', ee, hle, hmx, hl, hf⟩ := h2.below hb
            simp only [Value.slice.injEq, true_and] at ee
            obtain ⟨rfl, rfl⟩ := ee
            have hs : (⟨(List.replicate M 97).toArray⟩ : ByteArray).size = M := by
              show (List.replicate M 97).toArray.size = M
              simp
            refine (lexShows_ok (K := some ⟨wa.heap.size, 0, none⟩) (c := 2) (f := .cons ⟨#[120]⟩ .nil true 0 (.cons ⟨#[]⟩ f1 false 0 .nil)) ⟨_, 2, rfl, Nat.le_refl _, by unfold maxLen; exact Nat.le_of_ble_eq_true rfl, by exact Nat.le_of_ble_eq_true rfl,
              ⟨wa.heap.size, 0, none, 0, rfl, (cell_of_row _ _ 0 _ _ _ ha).trans rfl, (cell_of_row _ _ 1 _ _ _ ha).trans rfl, (cell_of_row _ _ 2 _ _ _ ha).trans rfl, (cell_of_row _ _ 3 _ _ _ ha).trans rfl, ⟨Nat.le_of_ble_eq_true rfl, Nat.le_refl _, Nat.zero_le _, Nat.zero_le _⟩, trivial⟩,
              ⟨wa.heap.size, 0, K1, k1, rfl, (cell_of_row _ _ 4 _ _ _ ha).trans rfl, (cell_of_row _ _ 5 _ _ _ ha).trans rfl, (cell_of_row _ _ 6 _ _ _ ha).trans rfl, (cell_of_row _ _ 7 _ _ _ ha).trans rfl, ⟨Nat.zero_le _, hle, hmx, hl⟩, hf⟩, trivial⟩ (by
                rw [hf1e]
                simp only [Fo.one, Fo.tot, hs]
                have := HMM.out
                have e1 : (⟨#[120]⟩ : ByteArray).size = 1 := rfl
                have e2 : (⟨#[]⟩ : ByteArray).size = 0 := rfl
                omega)).mono ?_
            rintro e w' ⟨rfl, hb'⟩
            exact ⟨rfl, hb.trans (hb'.mono hb.size)⟩
          have HSh := Lib.hid hSh
          rw [hf1e] at HSh
          clear hSh hf1e f1
          go_wp2_with fail
          refine HSh.out.mono ?_
          rintro e wc ⟨rfl, hbc⟩
          have HBc := Lib.hid (HBa.out.1.trans (hbc.mono HBa.out.1.size))
          have HA := Lib.hid (awake_ok wc)
          clear hbc HBa HSh
          go_wp2_with fail
          refine HA.out.mono ?_
          rintro e wd ⟨rfl, hbd⟩
          have HE := Lib.hid (HBc.out.trans (hbd.mono HBc.out.size))
          clear hbd HBc HA
          go_wp2
          go_ret
          exact ⟨rfl, HE.out⟩
end Go.Proofs.YtbccknhinmgibaaDoor

/- The answer's reader of Keys: term, for any text. -/
import Derived.Test.YtdkgpnkcdnfniaaDoorRTermQ
import Derived.Deep.DeepCutAuto
import Derived.Deep.CutBlock
set_option linter.unusedVariables false
set_option linter.unusedSimpArgs false
namespace Go.Proofs.YtdkgpnkcdnfniaaDoor
open Go.RowKit Go.Lib

set_option maxRecDepth 100000 in
set_option maxHeartbeats 12800000 in
theorem term_one {S : ByteArray} {k : Nat} (hS : S.size ≤ 1000000) (ih : TermR S k) : TermR S (k + 1) := by
  intro W g a0 hr ha hk
  have hgW : g < W.heap.size := hr.lt
  have N1 := hid (number_s (c := 32) (most := 255) (hr.to (W' := W.alloc (.cells #[.int .u8 0, .string ⟨#[]⟩, .bool false, .slice none 0 0, .slice none 0 0] 28)) (Below.heap_alloc _ _ _ hgW)) hS (by omega) (by omega))
  have HH := hid (show _ ∧ _ ∧ _ ∧ _ ∧ _ from ⟨hS, ih, hgW, ha, hk⟩)
  clear hr ha hk hgW hS ih
  go_enter Tryd.func26, Tryd.ntmps26
  go_wp2_with fail
  refine N1.out.mono ?_
  rintro e w1 ⟨n1, at1, b1, rfl, r1, o1, hn1, hat1, hlt1, hok1, hri1⟩
  have T1 := hid (fun cs => TR.start (cs := cs) HH.out.2.2.1 r1 o1)
  have M1 := hid (show Rem S a0 fun t rest => b1 = false ∧ n1 = t.kind.toNat ∧ txt S at1 = tl1 t rest from fun t rest hg e => hri1 t.kind.toNat (tl1 t rest) trivial (by have := (hg t (by rw [preT_eq]; exact List.mem_cons_self ..)).kind; omega) (by unfold isDig; decide) (by rw [e, key_tl]))
  have H1 := hid (show _ ∧ _ ∧ _ ∧ _ from ⟨hn1, hat1, hlt1, hok1⟩)
  obtain ⟨cs0, hcs0⟩ : ∃ cs0 : Array Value, cs0 = #[.int .u8 ((n1 : Int) % 256), .string ⟨#[]⟩, .bool false, .slice none 0 0, .slice none 0 0] := ⟨_, rfl⟩
  have T2 := hid (T1.out cs0)
  have q0 := T2.out.rd.c0
  have N2 := hid (number_s (c := 58) (most := S.size) T2.out.rd HH.out.1 (by have := H1.out; have := HH.out; omega) (by have := HH.out; omega))
  rw [hcs0] at q0 N2
  clear r1 o1 hn1 hat1 hlt1 hok1 hri1 N1 T1
  go_wp2_with fail
  refine N2.out.mono ?_
  rw [← hcs0]
  rintro e w3 ⟨n2, at2, b2, rfl, r2, o2, hn2, hat2, hlt2, hok2, hri2⟩
  have T3 := hid (T2.out.call r2 o2)
  have M2 := hid (show Rem S a0 fun t rest => b2 = false ∧ n1 = t.kind.toNat ∧ n2 = t.name.size ∧ txt S at2 = tl2 t rest from fun t rest hg e => by
    obtain ⟨e1, e2, e3⟩ := M1.out t rest hg e
    obtain ⟨f1, f2, f3⟩ := hri2 t.name.size (tl2 t rest) e1 (name_le e3) (by unfold isDig; decide) e3
    exact ⟨f1, e2, f2, f3⟩)
  have H2 := hid (show at2 ≤ S.size + 2 ∧ n2 ≤ 10 * S.size + 9 ∧ (b2 = false → a0 + 4 ≤ at2 ∧ at2 ≤ S.size ∧ n1 ≤ 255) from ⟨by have := H1.out; have := HH.out; omega, hn2, fun hb => by
    obtain ⟨e1, e2, e3, e4⟩ := hok2 hb
    obtain ⟨_, e5, e6, e7⟩ := H1.out.2.2.2 e1
    omega⟩)
  clear r2 o2 hn2 hat2 hlt2 hok2 hri2 N2 T2 M1 H1 q0
  have q0 := T3.out.rd.c0
  have q1 := T3.out.rd.c1
  have q2 := T3.out.rd.c2
  have qf2 : w3.frozen? ⟨g, 2, none⟩ = false := T3.out.rd.f
  by_cases hbad : b2 = true ∨ S.size < n2 + at2
  · have hb2 : b2 = true ∨ (b2 = false ∧ S.size < n2 + at2) := by
      cases b2 with
      | true => exact .inl rfl
      | false => exact .inr ⟨rfl, by rcases hbad with h | h; cases h; exact h⟩
    have T4 := hid (fun m => (T3.out.drew m).setBad true)
    rw [hcs0] at T4
    have HB := hid (fun (wr : World) (hs : TR W g w1.heap.size S at2 true #[.int .u8 ((n1 : Int) % 256), .string ⟨#[]⟩, .bool false, .slice none 0 0, .slice none 0 0] wr) (wf : World) hwf => bad_end (wf := wf) hs M2.out H2.out.1 hbad hwf)
    have hS8 : (S.size : Int) ≤ 1000000 := by have := HH.out; omega
    have hat8 : (at2 : Int) ≤ 1000002 := by have := H2.out; have := HH.out; omega
    clear hbad
    rcases hb2 with rfl | ⟨rfl, hlt⟩
    · clear T3 M2 H2
      go_wp2_with fail
      go_quiet (fail)
      obtain ⟨w4, hw4⟩ : ∃ w4, w4 = w3.drewN nq := ⟨_, rfl⟩
      have T5 := T4.out nq
      have g2 : w4.cell? ⟨g, 2, none⟩ = some (.bool true) := by rw [hw4]; exact q2
      have gf2 : w4.frozen? ⟨g, 2, none⟩ = false := by rw [hw4]; exact qf2
      rw [← hw4] at T5 ⊢
      have p0 := T5.cell 0 rfl
      have p1 := T5.cell 1 rfl
      have p2 := T5.cell 2 rfl
      have p3 := T5.cell 3 rfl
      have p4 := T5.cell 4 rfl
      have r0 := T5.res
      have s0 := cell_of_row _ W.heap.size 0 _ _ _ r0
      have s1 := cell_of_row _ W.heap.size 1 _ _ _ r0
      have s2 := cell_of_row _ W.heap.size 2 _ _ _ r0
      have s3 := cell_of_row _ W.heap.size 3 _ _ _ r0
      have s4 := cell_of_row _ W.heap.size 4 _ _ _ r0
      simp at s0 s1 s2 s3 s4
      have ff : ∀ o, (w4.setCell ⟨g, 2, none⟩ (.bool true)).frozen? ⟨W.heap.size, o, none⟩ = false := fun o => by simp [World.frozen?, r0]
      have f0 := ff 0
      have f1 := ff 1
      have f2 := ff 2
      have f3 := ff 3
      have f4 := ff 4
      have HE := hid (fun wf hwf => HB.out _ T5 wf hwf)
      clear ff r0 T5 hw4 q0 q1 q2 qf2 HB T4
      go_wp2
      obtain ⟨wf, hwf⟩ : ∃ wf, wf = (((((w4.setCell ⟨g, 2, none⟩ (.bool true)).setCell ⟨W.heap.size, 0, none⟩ (.int .u8 ((n1 : Int) % 256))).setCell ⟨W.heap.size, 1, none⟩ (.string ⟨#[]⟩)).setCell ⟨W.heap.size, 2, none⟩ (.bool false)).setCell ⟨W.heap.size, 3, none⟩ (.slice none 0 0)).setCell ⟨W.heap.size, 4, none⟩ (.slice none 0 0) := ⟨_, rfl⟩
      rw [← hwf]
      obtain ⟨q0, qP⟩ := HE.out wf hwf
      have t0 := cell_of_row wf W.heap.size 0 _ _ _ q0
      have t1 := cell_of_row wf W.heap.size 1 _ _ _ q0
      have t2 := cell_of_row wf W.heap.size 2 _ _ _ q0
      have t3 := cell_of_row wf W.heap.size 3 _ _ _ q0
      have t4 := cell_of_row wf W.heap.size 4 _ _ _ q0
      simp at t0 t1 t2 t3 t4
      exact bodyPost_ret (v := .agg #[.int .u8 ((n1 : Int) % 256), .string ⟨#[]⟩, .bool false, .slice none 0 0, .slice none 0 0]) (by simp [results, Tryd.results26, go_sem, t0, t1, t2, t3, t4]) rfl qP
    · have hlt1 : (S.size : Int) - (at2 : Int) < (n2 : Int) := by omega
      clear T3 M2 H2
      go_wp2_with fail
      go_quiet (fail)
      obtain ⟨w4, hw4⟩ : ∃ w4, w4 = w3.drewN nq := ⟨_, rfl⟩
      have T5 := T4.out nq
      have g2 : w4.cell? ⟨g, 2, none⟩ = some (.bool false) := by rw [hw4]; exact q2
      have gf2 : w4.frozen? ⟨g, 2, none⟩ = false := by rw [hw4]; exact qf2
      rw [← hw4] at T5 ⊢
      have p0 := T5.cell 0 rfl
      have p1 := T5.cell 1 rfl
      have p2 := T5.cell 2 rfl
      have p3 := T5.cell 3 rfl
      have p4 := T5.cell 4 rfl
      have r0 := T5.res
      have s0 := cell_of_row _ W.heap.size 0 _ _ _ r0
      have s1 := cell_of_row _ W.heap.size 1 _ _ _ r0
      have s2 := cell_of_row _ W.heap.size 2 _ _ _ r0
      have s3 := cell_of_row _ W.heap.size 3 _ _ _ r0
      have s4 := cell_of_row _ W.heap.size 4 _ _ _ r0
      simp at s0 s1 s2 s3 s4
      have ff : ∀ o, (w4.setCell ⟨g, 2, none⟩ (.bool true)).frozen? ⟨W.heap.size, o, none⟩ = false := fun o => by simp [World.frozen?, r0]
      have f0 := ff 0
      have f1 := ff 1
      have f2 := ff 2
      have f3 := ff 3
      have f4 := ff 4
      have HE := hid (fun wf hwf => HB.out _ T5 wf hwf)
      clear ff r0 T5 hw4 q0 q1 q2 qf2 HB T4
      go_wp2
      obtain ⟨wf, hwf⟩ : ∃ wf, wf = (((((w4.setCell ⟨g, 2, none⟩ (.bool true)).setCell ⟨W.heap.size, 0, none⟩ (.int .u8 ((n1 : Int) % 256))).setCell ⟨W.heap.size, 1, none⟩ (.string ⟨#[]⟩)).setCell ⟨W.heap.size, 2, none⟩ (.bool false)).setCell ⟨W.heap.size, 3, none⟩ (.slice none 0 0)).setCell ⟨W.heap.size, 4, none⟩ (.slice none 0 0) := ⟨_, rfl⟩
      rw [← hwf]
      obtain ⟨q0, qP⟩ := HE.out wf hwf
      have t0 := cell_of_row wf W.heap.size 0 _ _ _ q0
      have t1 := cell_of_row wf W.heap.size 1 _ _ _ q0
      have t2 := cell_of_row wf W.heap.size 2 _ _ _ q0
      have t3 := cell_of_row wf W.heap.size 3 _ _ _ q0
      have t4 := cell_of_row wf W.heap.size 4 _ _ _ q0
      simp at t0 t1 t2 t3 t4
      exact bodyPost_ret (v := .agg #[.int .u8 ((n1 : Int) % 256), .string ⟨#[]⟩, .bool false, .slice none 0 0, .slice none 0 0]) (by simp [results, Tryd.results26, go_sem, t0, t1, t2, t3, t4]) rfl qP
  · have hb : b2 = false := by
      cases b2 with
      | false => rfl
      | true => exact absurd (.inl rfl) hbad
    subst hb
    have hle : ¬ S.size < n2 + at2 := fun h => hbad (.inr h)
    have hle1 : decide ((S.size : Int) - (at2 : Int) < (n2 : Int)) = false := decide_eq_false (by omega)
    have hle2 : decide (S.size < n2 + at2) = false := decide_eq_false (by omega)
    have hle3 : (n2 : Int) + (at2 : Int) ≤ (S.size : Int) := by omega
    have hS8 : (S.size : Int) ≤ 1000000 := by have := HH.out; omega
    clear hbad
    go_wp2_with fail
    go_quiet (fail)
    obtain ⟨w4, hw4⟩ : ∃ w4, w4 = w3.drewN nq := ⟨_, rfl⟩
    have T4 := hid (show TR W g w1.heap.size S at2 false cs0 w4 from by rw [hw4]; exact T3.out.drew nq)
    rw [← hw4]
    clear hw4 q0 q1 q2 qf2
    go_wp2_with fail
    have q0 : w4.drew.cell? ⟨g, 0, none⟩ = some (.string S) := T4.out.rd.c0
    have q1 : w4.drew.cell? ⟨g, 1, none⟩ = some (.int .i64 at2) := T4.out.rd.c1
    have q0' : w4.cell? ⟨g, 0, none⟩ = some (.string S) := q0
    have q1' : w4.cell? ⟨g, 1, none⟩ = some (.int .i64 at2) := q1
    have hn0 : (0 : Int) ≤ (n2 : Int) := by omega
    have ha0 : (0 : Int) ≤ (at2 : Int) := by omega
    have hs1 : (at2 : Int) + (n2 : Int) ≤ (S.size : Int) := by omega
    have hs2 : (at2 : Int) ≤ (at2 : Int) + (n2 : Int) := by omega
    have hs3 : (at2 : Int) ≤ 1000000 := by omega
    have hs4 : (n2 : Int) ≤ 1000000 := by omega
    have ewr : IntKind.i64.wrap ((at2 : Int) + (n2 : Int)) = (at2 : Int) + (n2 : Int) := by rw [IntKind.wrap_i64]; omega
    go_still_tail 16, (by kernel_rfl)
    change wpList _ _ _ _ _ w4.drew
    have T5 := hid (show TR W g w1.heap.size S at2 false cs0 w4.drew from T4.out.drew 1)
    obtain ⟨w5, hw5⟩ : ∃ w5, w5 = w4.drew := ⟨_, rfl⟩
    rw [← hw5] at T5 ⊢
    have k1 : w5.cell? ⟨w1.heap.size, 1, none⟩ = some (.string ⟨#[]⟩) := T5.out.cell 1 (by rw [hcs0]; rfl)
    have f1 : w5.frozen? ⟨w1.heap.size, 1, none⟩ = false := T5.out.fz 1
    have j1 := fun v => (T5.out.setT 1 v).rd.c1
    have jf := fun v => Rf.f (o := 1) (T5.out.setT 1 v).rd
    clear hw5 q0 q1 q0' q1' T4 T3 ewr
    go_wp2_with fail
    obtain ⟨nm, hnm⟩ : ∃ nm, nm = S.extract at2 (at2 + n2) := ⟨_, rfl⟩
    have HNM := hid (name_is hnm (by omega))
    rw [← hnm]
    obtain ⟨cs1, hcs1⟩ : ∃ cs1 : Array Value, cs1 = #[.int .u8 ((n1 : Int) % 256), .string nm, .bool false, .slice none 0 0, .slice none 0 0] := ⟨_, rfl⟩
    have e1 : ((at2 + n2 : Nat) : Int) = (at2 : Int) + (n2 : Int) := by omega
    have T6 := hid (show TR W g w1.heap.size S (at2 + n2) false cs1 _ from (by rw [hcs1, hcs0]; rfl : cs0.setIfInBounds 1 (.string nm) = cs1) ▸ (T5.out.setT 1 (.string nm)).setAt (at2 + n2))
    rw [e1] at T6
    have N6 := hid (sign_s (c := 32) T6.out.rd HH.out.1 (by omega))
    have HO := hid (show at2 + n2 ≤ S.size from by omega)
    clear k1 f1 j1 jf hnm hn0 ha0 hs1 hs2 hs3 hs4 hle hle1 hle2 hle3 T5 e1
    refine N6.out.mono ?_
    rintro e w6 ⟨⟨u, rfl⟩, b3, r3, o3, hok3, hri3⟩
    obtain ⟨at3, hat3⟩ : ∃ at3, at3 = at2 + n2 + 1 := ⟨_, rfl⟩
    rw [← hat3] at r3 hok3 hri3
    have T7 := hid (T6.out.call r3 o3)
    have M3 := hid (show Rem S a0 fun t rest => b3 = false ∧ n1 = t.kind.toNat ∧ nm = t.name ∧ txt S at3 = tl3 t rest from fun t rest hg e => by
      obtain ⟨f1, f2, f3, f4⟩ := M2.out t rest hg e
      obtain ⟨h1, h2⟩ := HNM.out.out t.name (32 :: tl3 t rest) f3 f4
      obtain ⟨h3, h4⟩ := hri3 (tl3 t rest) rfl h2
      exact ⟨h3, f2, h1, h4⟩)
    have H3 := hid (show at3 ≤ S.size + 1 ∧ n1 ≤ 255 ∧ nm.size ≤ S.size ∧ (b3 = false → a0 + 5 + nm.size ≤ at3 ∧ at3 ≤ S.size) from by
      obtain ⟨q1, q2, q3⟩ := H2.out
      obtain ⟨q4, q5, q6⟩ := q3 trivial
      have q7 := HNM.out.size
      have q8 := HO.out
      refine ⟨by omega, q6, by omega, fun hb => ?_⟩
      have := (hok3 hb).2
      omega)
    have N7 := hid (next_ok (c := 45) T7.out.rd (by have := HH.out; omega) (by have := H3.out; have := HH.out; omega))
    clear r3 o3 hok3 hri3 N6 T6 M2 H2 HNM HO hat3
    go_wp2_with fail
    refine N7.out.mono ?_
    rintro e w7 ⟨rfl, m, hw7⟩
    have T8 := hid (show TR W g w1.heap.size S at3 b3 cs1 w7 from by rw [hw7]; exact T7.out.drew m)
    clear hw7 N7 T7
    generalize hnx : isNext S at3 45 = nx
    rcases nx with _ | _
    · have MD := hid (dig_start_no M3.out H3.out hnx)
      clear hnx M3
      have D0 := hid (show DigS W g w1.heap.size S a0 n1 nm false at3 b3 (.slice none 0 0) [] w7 from ⟨by rw [← hcs1]; exact T8.out, World.ownsRow_nil _ _ _ _, MD.out⟩)
      clear T8 MD H3 hcs0
      go_upto_block 0 with fail
      go_cut [5] (fun v wx => ∃ (at_ : Nat) (b : Bool) (dv : Value) (ds : List Nat), Hid (DigS W g w1.heap.size S a0 n1 nm false at_ b dv ds wx ∧ (b = true ∨ isNext S at_ 32 = true)))
      case first =>
        go_wp2_with fail
        go_loopg [5] (left1 S at3 b3) (fun k v wr => ∃ (at_ : Nat) (b : Bool) (dv : Value) (ds : List Nat), Hid (k = left1 S at_ b ∧ DigS W g w1.heap.size S a0 n1 nm false at_ b dv ds wr))
        case atStart => exact ⟨at3, b3, _, [], hid ⟨rfl, D0.out⟩⟩
        case round =>
          obtain ⟨at_, b, dv, ds, HI⟩ := hrel
          obtain ⟨hk, hd⟩ := HI.out
          have q2 := hd.tr.rd.c2
          have hp := hd.p
          rcases b with _ | _
          · have hat : at_ ≤ S.size := (hp.2.1 rfl).2
            have NX := hid (next_ok (c := 32) hd.tr.rd (by omega) (by omega))
            have HD := hid hd
            have HK := hid hk
            clear hd hp hk HI
            go_wp2_with fail
            refine NX.out.mono ?_
            rintro e w8 ⟨rfl, m, hw8⟩
            have H8 := hid (show DigS W g w1.heap.size S a0 n1 nm false at_ false dv ds w8 from by rw [hw8]; exact HD.out.drew m)
            clear hw8 NX q2
            generalize hnx : isNext S at_ 32 = nx
            rcases nx with _ | _
            · have NB := hid (number_s (c := 46) (most := 4294967295) H8.out.tr.rd HH.out.1 (by omega) (by omega))
              have HX := hid hnx
              clear hnx
              go_wp2_with fail
              refine NB.out.mono ?_
              rintro e w9 ⟨n, at', b', rfl, r9, o9, hn9, hat9, hlt9, hok9, hri9⟩
              obtain ⟨T9, U9⟩ := H8.out.call r9 o9
              have P9 := hid (dig_step (b' := b') (at' := at') (n := n) H8.out.p HX.out hat9 (fun hb => ⟨(hok9 hb).2.1, (hok9 hb).2.2.1⟩) fun m rest hm e => hri9 m rest trivial hm (by unfold isDig; decide) e)
              have hdl : ds.length ≤ S.size + 1 := H8.out.p.2.2.2.2.2.1
              obtain ⟨A, c, rfl⟩ := U9.slice
              have k3 : w9.cell? ⟨w1.heap.size, 3, none⟩ = some (.slice A ds.length c) := T9.cell 3 rfl
              have hsz := T9.ltT
              have HM := hid (show left1 S at' b' < gk from left1_less HK.out hat hok9)
              obtain ⟨dd, hdd⟩ : ∃ dd : Nat, (dd : Int) = (n : Int) % 4294967296 := ⟨n % 4294967296, by omega⟩
              have hde : dd = n % 4294967296 := by omega
              rw [← hde] at P9
              have H9 := hid (show _ ∧ _ from ⟨T9, U9⟩)
              have hdd' := hdd.symm
              clear r9 o9 hn9 hat9 hlt9 hok9 hri9 T9 U9 hdd hde NB
              go_wp2_with (at_builtin; refine wpList_u32 w9 rfl _ _ dd rfl rfl H9.out.2 hsz rfl (by omega) ?_)
              intro v' w10 u10 g10
              obtain ⟨A', c', rfl⟩ := u10.slice
              have eL : (ds ++ [dd]).length = ds.length + 1 := by simp
              rw [eL] at u10
              have T10 := H9.out.1.grown g10 (fun k hk => (World.ownsRow.lt H9.out.2 k hk).1)
              have k3 : w10.cell? ⟨w1.heap.size, 3, none⟩ = some (.slice A ds.length c) := T10.cell 3 rfl
              have f3 : w10.frozen? ⟨w1.heap.size, 3, none⟩ = false := T10.fz 3
              have HE := hid (show DigS W g w1.heap.size S a0 n1 nm false at' b' (.slice A' (ds.length + 1) c') (ds ++ [dd]) (w10.setCell ⟨w1.heap.size, 3, none⟩ (.slice A' (ds.length + 1) c')) from ⟨T10.setT 3 _, u10.kept fun k hk _ => Below.heap_setCell _ _ _ _ (by have := (World.ownsRow.lt u10 k hk).1; show k ≠ w1.heap.size; omega), P9.out⟩)
              clear T10 u10 g10 H9 P9 H8 HX hdl hsz hdd' eL
              go_wp2
              go_roundg (left1 S at' b')
              case rel => exact ⟨at', b', _, ds ++ [dd], hid ⟨rfl, HE.out⟩⟩
              case measure => exact HM.out
            · have HX := hid hnx
              clear hnx
              go_wp2_with fail
              go_meet
              exact ⟨at_, false, dv, ds, hid ⟨H8.out, .inr HX.out⟩⟩
          · have HE := hid hd
            clear hd hp hk HI
            go_wp2_with fail
            go_meet
            exact ⟨at_, true, dv, ds, hid ⟨HE.out, .inl rfl⟩⟩
      case rest =>
        obtain ⟨at4, b4, dv, ds, HR⟩ := hcut
        obtain ⟨hd, hx⟩ := HR.out
        obtain ⟨A, c, rfl⟩ := hd.row.slice
        have h45 : at4 ≤ S.size + 5 := hd.p.2.2.1
        have NS := hid (sign_s (c := 32) hd.tr.rd HH.out.1 (by omega))
        have HD := hid (show _ ∧ _ from ⟨hd, hx⟩)
        clear hd hx HR D0
        go_wp2_with fail
        refine NS.out.mono ?_
        rintro e w11 ⟨⟨u, rfl⟩, b5, r5, o5, hok5, hri5⟩
        obtain ⟨T11, U11⟩ := HD.out.1.call r5 o5
        have q0 := T11.rd.c0
        have NN := hid (number_s (c := 59) (most := S.size) T11.rd HH.out.1 (by omega) (by omega))
        have H11 := hid (show _ ∧ _ from ⟨T11, U11⟩)
        have HO5 := hid (show _ ∧ _ from ⟨hok5, hri5⟩)
        clear r5 o5 T11 U11 hok5 hri5 NS
        go_wp2_with fail
        refine NN.out.mono ?_
        rintro e w12 ⟨n6, at6, b6, rfl, r6, o6, hn6, hat6, hlt6, hok6, hri6⟩
        have T12 := H11.out.1.call r6 o6
        have U12 : U32s w12 (w1.heap.size + 1) (.slice A ds.length c) ds := H11.out.2.kept fun k hk hkl => o6.block k hkl (by have := (World.ownsRow.lt H11.out.2 k hk).1; have := T12.lo; omega)
        have P12 := kid_start HD.out.1.p HD.out.2 (fun hb => HO5.out.1 hb) (fun rest hb e => HO5.out.2 rest hb e) (fun hb => hok6 hb) (fun m rest hb hm e => hri6 m rest hb hm (by unfold isDig; decide) e) hat6 hn6
        have K0 := hid (show KidS W g w1.heap.size w12.heap.size S a0 n1 nm false A c ds n6 at6 b6 (.slice none 0 0) [] [] w12 from ⟨T12, fun j v hj => (by
          obtain ⟨a, ha, hc⟩ := U12.row.1 j v hj
          have h1 := cell_lt hc
          rw [add_block] at h1
          exact ⟨a, ha, hc, U12.row.2 a ha, h1⟩), ⟨World.ownsRow_nil _ _ _ _, fun j t _ h => absurd h (by simp)⟩, Nat.le_refl _, T12.ltT, P12⟩)
        clear r6 o6 hn6 hat6 hlt6 hok6 hri6 T12 U12 P12 H11 HO5 HD NN q0
        go_wp2_with fail
        go_loopw [6] (fun iv wr => ∃ (kids : List Tm) (at_ : Nat) (b : Bool) (kv : Value) (E : List Value), iv = .int .i64 kids.length ∧ Hid (KidS W g w1.heap.size w12.heap.size S a0 n1 nm false A c ds n6 at_ b kv kids E wr)) (fun iv _ => n6 - (RowKit.intOf iv).toNat)
        case atStart => exact ⟨[], at6, b6, _, [], rfl, K0⟩
        case round =>
          obtain ⟨kids, at_, b, kv, E, rfl, HI⟩ := hrel
          have hs := HI.out
          obtain ⟨K, d, rfl⟩ := hs.slice
          have q2 := hs.tr.rd.c2
          have hn6 : n6 ≤ 10000009 := by have := hs.p.2.2.2.2.2.2.2.2; have := HH.out; omega
          by_cases hgo : kids.length < n6 ∧ b = false
          · obtain ⟨hlt, rfl⟩ := hgo
            have hlt' : (kids.length : Int) < (n6 : Int) := by omega
            have hp := hs.p.2.1 rfl
            have NT := hid (HH.out.2.1 wr g at_ hs.tr.rd hp.2 (by have := HH.out; omega))
            clear hs hp
            go_wp2_with fail
            refine NT.out.mono ?_
            rintro e w13 ⟨kd', nm', ng', ds', kids', A', K', c', c2', at', b', rfl, hdep, r13, o13, hat13, hok13, hri13⟩
            have T13 := HI.out.tr.call r13 o13
            have hs := HI.out
            have lo := hs.lo
            have lo2 := hs.tr.lo
            have hbk := hs.size
            have s13 := o13.size
            have hct := hs.ct.keep (fun m h1 h2 => o13.block m h2 (by omega))
            have hrow := hct.row
            obtain ⟨i0, hi, hz0, hz1, hz2⟩ := info_parts info_term
            have k4 : w13.cell? ⟨w1.heap.size, 4, none⟩ = some (.slice K kids.length d) := T13.cell 4 rfl
            have hlt2 : w1.heap.size < w13.heap.size := T13.ltT
            have HD := hid (show _ ∧ _ ∧ _ ∧ _ ∧ _ ∧ _ from ⟨hdep, o13, kid_step hs.p hlt hat13 hok13 hri13, T13, hct, lo2⟩)
            clear hdep r13 o13 hat13 hok13 hri13 hs T13 hct NT q2 hlt
            go_wp2_with (at_builtin; refine wpList_append_own_at _ rfl _ _ 26 rfl w12.heap.size 28 i0 _ 5 80 Tryd.underlying26 hi hz0 hz1 hz2 rfl (by decide) (.slice K kids.length d) kids.length E rfl ((hrow.alloc _).alloc _) ⟨w13.heap.size + 1, 0, none⟩ 1 1 [.int .u8 kd', .string nm', .bool ng', .slice A' ds'.length c', .slice K' kids'.length c2'] rfl rfl five_news ?c2 ?c3 ?c4 ?c5 ?_)
            case c2 =>
              intro u hu
              simp at hu
              rcases hu with rfl | rfl | rfl | rfl | rfl <;> rfl
            case c3 => unfold maxLen; omega
            case c4 => omega
            case c5 => rw [World.size_alloc, World.size_alloc]; omega
            intro v' w14 r14 g14 _ hw
            obtain ⟨K2, d2, rfl⟩ : ∃ K2 d2, v' = .slice K2 (kids.length + 1) d2 := by
              rcases r14.2 with ⟨_, h0⟩ | ⟨_, _, _, e, _⟩
              · exact absurd h0 (by omega)
              · exact ⟨_, _, e⟩
            have HE := hid (kid_next HI.out HD.out.1 HD.out.2.1 HD.out.2.2.1 HD.out.2.2.2.1 r14 g14 hw)
            have k5 : w14.cell? ⟨w1.heap.size, 4, none⟩ = some (.slice K kids.length d) := HE.out.2.1
            have f5 : w14.frozen? ⟨w1.heap.size, 4, none⟩ = false := HE.out.2.2
            clear r14 g14 hw HD hrow k4
            go_wp2
            go_roundw
            case rel => exact ⟨kids ++ [.mk kd' nm' ng' ds' kids'], at', b', _, _, by simp, hid HE.out.1⟩
            case measure => simp [RowKit.intOf]; omega
          · have hx := hgo
            have p0 := hs.tr.cell 0 rfl
            have p1 := hs.tr.cell 1 rfl
            have p2 := hs.tr.cell 2 rfl
            have p3 := hs.tr.cell 3 rfl
            have p4 := hs.tr.cell 4 rfl
            have r0 := hs.tr.res
            have s0 : wr.cell? ⟨W.heap.size, 0, none⟩ = some (.int .u8 0) := cell_of_row wr _ 0 _ _ _ r0
            have s1 : wr.cell? ⟨W.heap.size, 1, none⟩ = some (.string ⟨#[]⟩) := cell_of_row wr _ 1 _ _ _ r0
            have s2 : wr.cell? ⟨W.heap.size, 2, none⟩ = some (.bool false) := cell_of_row wr _ 2 _ _ _ r0
            have s3 : wr.cell? ⟨W.heap.size, 3, none⟩ = some (.slice none 0 0) := cell_of_row wr _ 3 _ _ _ r0
            have s4 : wr.cell? ⟨W.heap.size, 4, none⟩ = some (.slice none 0 0) := cell_of_row wr _ 4 _ _ _ r0
            have ff : ∀ o, wr.frozen? ⟨W.heap.size, o, none⟩ = false := fun o => by simp [World.frozen?, r0]
            have f0 := ff 0
            have f1 := ff 1
            have f2 := ff 2
            have f3 := ff 3
            have f4 := ff 4
            have HE := hid (fun wf hwf => kid_end (wf := wf) HI.out hgo hwf HH.out.1)
            clear ff r0 hs hx
            by_cases hlt : kids.length < n6
            · have hb : b = true := by
                cases b with
                | true => rfl
                | false => exact absurd ⟨hlt, rfl⟩ hgo
              subst hb
              have hlt' : (kids.length : Int) < (n6 : Int) := by omega
              clear hgo
              go_wp2
              obtain ⟨wf, hwf⟩ : ∃ wf, wf = ((((wr.setCell ⟨W.heap.size, 0, none⟩ (.int .u8 ((n1 : Int) % 256))).setCell ⟨W.heap.size, 1, none⟩ (.string nm)).setCell ⟨W.heap.size, 2, none⟩ (.bool false)).setCell ⟨W.heap.size, 3, none⟩ (.slice A ds.length c)).setCell ⟨W.heap.size, 4, none⟩ (.slice K kids.length d) := ⟨_, rfl⟩
              rw [← hwf]
              obtain ⟨q0, qP⟩ := HE.out wf hwf
              have t0 := cell_of_row wf W.heap.size 0 _ _ _ q0
              have t1 := cell_of_row wf W.heap.size 1 _ _ _ q0
              have t2 := cell_of_row wf W.heap.size 2 _ _ _ q0
              have t3 := cell_of_row wf W.heap.size 3 _ _ _ q0
              have t4 := cell_of_row wf W.heap.size 4 _ _ _ q0
              simp at t0 t1 t2 t3 t4
              exact bodyPost_ret (v := .agg #[.int .u8 ((n1 : Int) % 256), .string nm, .bool false, .slice A ds.length c, .slice K kids.length d]) (by simp [results, Tryd.results26, go_sem, t0, t1, t2, t3, t4]) rfl qP
            · have hlt' : decide ((kids.length : Int) < (n6 : Int)) = false := decide_eq_false (by omega)
              have hlt2 : decide (kids.length < n6) = false := decide_eq_false hlt
              clear hgo
              go_wp2
              obtain ⟨wf, hwf⟩ : ∃ wf, wf = ((((wr.setCell ⟨W.heap.size, 0, none⟩ (.int .u8 ((n1 : Int) % 256))).setCell ⟨W.heap.size, 1, none⟩ (.string nm)).setCell ⟨W.heap.size, 2, none⟩ (.bool false)).setCell ⟨W.heap.size, 3, none⟩ (.slice A ds.length c)).setCell ⟨W.heap.size, 4, none⟩ (.slice K kids.length d) := ⟨_, rfl⟩
              rw [← hwf]
              obtain ⟨q0, qP⟩ := HE.out wf hwf
              have t0 := cell_of_row wf W.heap.size 0 _ _ _ q0
              have t1 := cell_of_row wf W.heap.size 1 _ _ _ q0
              have t2 := cell_of_row wf W.heap.size 2 _ _ _ q0
              have t3 := cell_of_row wf W.heap.size 3 _ _ _ q0
              have t4 := cell_of_row wf W.heap.size 4 _ _ _ q0
              simp at t0 t1 t2 t3 t4
              exact bodyPost_ret (v := .agg #[.int .u8 ((n1 : Int) % 256), .string nm, .bool false, .slice A ds.length c, .slice K kids.length d]) (by simp [results, Tryd.results26, go_sem, t0, t1, t2, t3, t4]) rfl qP
    · have MD := hid (dig_start_yes M3.out H3.out hnx)
      clear hnx M3
      have e1 : ((at3 + 1 : Nat) : Int) = (at3 : Int) + 1 := by omega
      have D0 := hid (show DigS W g w1.heap.size S a0 n1 nm true (at3 + 1) b3 (.slice none 0 0) [] ((w7.setCell ⟨w1.heap.size, 2, none⟩ (.bool true)).setCell ⟨g, 1, none⟩ (.int .i64 ((at3 : Int) + 1))) from ⟨by
        have h := (T8.out.setT 2 (.bool true)).setAt (at3 + 1)
        rw [e1, hcs1] at h
        exact h, World.ownsRow_nil _ _ _ _, MD.out⟩)
      have m2 : w7.cell? ⟨w1.heap.size, 2, none⟩ = some (.bool false) := T8.out.cell 2 (by rw [hcs1]; rfl)
      have mf : w7.frozen? ⟨w1.heap.size, 2, none⟩ = false := T8.out.fz 2
      have j1 := (T8.out.setT 2 (.bool true)).rd.c1
      have jf := Rf.f (o := 1) (T8.out.setT 2 (.bool true)).rd
      have hat8 : (at3 : Int) ≤ 1000002 := by have := H3.out; have := HH.out; omega
      clear T8 MD H3 hcs0 e1
      go_upto_block 0 with fail
      go_cut [5] (fun v wx => ∃ (at_ : Nat) (b : Bool) (dv : Value) (ds : List Nat), Hid (DigS W g w1.heap.size S a0 n1 nm true at_ b dv ds wx ∧ (b = true ∨ isNext S at_ 32 = true)))
      case first =>
        go_wp2_with fail
        go_loopg [5] (left1 S (at3 + 1) b3) (fun k v wr => ∃ (at_ : Nat) (b : Bool) (dv : Value) (ds : List Nat), Hid (k = left1 S at_ b ∧ DigS W g w1.heap.size S a0 n1 nm true at_ b dv ds wr))
        case atStart => exact ⟨at3 + 1, b3, _, [], hid ⟨rfl, D0.out⟩⟩
        case round =>
          obtain ⟨at_, b, dv, ds, HI⟩ := hrel
          obtain ⟨hk, hd⟩ := HI.out
          have q2 := hd.tr.rd.c2
          have hp := hd.p
          rcases b with _ | _
          · have hat : at_ ≤ S.size := (hp.2.1 rfl).2
            have NX := hid (next_ok (c := 32) hd.tr.rd (by omega) (by omega))
            have HD := hid hd
            have HK := hid hk
            clear hd hp hk HI
            go_wp2_with fail
            refine NX.out.mono ?_
            rintro e w8 ⟨rfl, m, hw8⟩
            have H8 := hid (show DigS W g w1.heap.size S a0 n1 nm true at_ false dv ds w8 from by rw [hw8]; exact HD.out.drew m)
            clear hw8 NX q2
            generalize hnx : isNext S at_ 32 = nx
            rcases nx with _ | _
            · have NB := hid (number_s (c := 46) (most := 4294967295) H8.out.tr.rd HH.out.1 (by omega) (by omega))
              have HX := hid hnx
              clear hnx
              go_wp2_with fail
              refine NB.out.mono ?_
              rintro e w9 ⟨n, at', b', rfl, r9, o9, hn9, hat9, hlt9, hok9, hri9⟩
              obtain ⟨T9, U9⟩ := H8.out.call r9 o9
              have P9 := hid (dig_step (b' := b') (at' := at') (n := n) H8.out.p HX.out hat9 (fun hb => ⟨(hok9 hb).2.1, (hok9 hb).2.2.1⟩) fun m rest hm e => hri9 m rest trivial hm (by unfold isDig; decide) e)
              have hdl : ds.length ≤ S.size + 1 := H8.out.p.2.2.2.2.2.1
              obtain ⟨A, c, rfl⟩ := U9.slice
              have k3 : w9.cell? ⟨w1.heap.size, 3, none⟩ = some (.slice A ds.length c) := T9.cell 3 rfl
              have hsz := T9.ltT
              have HM := hid (show left1 S at' b' < gk from left1_less HK.out hat hok9)
              obtain ⟨dd, hdd⟩ : ∃ dd : Nat, (dd : Int) = (n : Int) % 4294967296 := ⟨n % 4294967296, by omega⟩
              have hde : dd = n % 4294967296 := by omega
              rw [← hde] at P9
              have H9 := hid (show _ ∧ _ from ⟨T9, U9⟩)
              have hdd' := hdd.symm
              clear r9 o9 hn9 hat9 hlt9 hok9 hri9 T9 U9 hdd hde NB
              go_wp2_with (at_builtin; refine wpList_u32 w9 rfl _ _ dd rfl rfl H9.out.2 hsz rfl (by omega) ?_)
              intro v' w10 u10 g10
              obtain ⟨A', c', rfl⟩ := u10.slice
              have eL : (ds ++ [dd]).length = ds.length + 1 := by simp
              rw [eL] at u10
              have T10 := H9.out.1.grown g10 (fun k hk => (World.ownsRow.lt H9.out.2 k hk).1)
              have k3 : w10.cell? ⟨w1.heap.size, 3, none⟩ = some (.slice A ds.length c) := T10.cell 3 rfl
              have f3 : w10.frozen? ⟨w1.heap.size, 3, none⟩ = false := T10.fz 3
              have HE := hid (show DigS W g w1.heap.size S a0 n1 nm true at' b' (.slice A' (ds.length + 1) c') (ds ++ [dd]) (w10.setCell ⟨w1.heap.size, 3, none⟩ (.slice A' (ds.length + 1) c')) from ⟨T10.setT 3 _, u10.kept fun k hk _ => Below.heap_setCell _ _ _ _ (by have := (World.ownsRow.lt u10 k hk).1; show k ≠ w1.heap.size; omega), P9.out⟩)
              clear T10 u10 g10 H9 P9 H8 HX hdl hsz hdd' eL
              go_wp2
              go_roundg (left1 S at' b')
              case rel => exact ⟨at', b', _, ds ++ [dd], hid ⟨rfl, HE.out⟩⟩
              case measure => exact HM.out
            · have HX := hid hnx
              clear hnx
              go_wp2_with fail
              go_meet
              exact ⟨at_, false, dv, ds, hid ⟨H8.out, .inr HX.out⟩⟩
          · have HE := hid hd
            clear hd hp hk HI
            go_wp2_with fail
            go_meet
            exact ⟨at_, true, dv, ds, hid ⟨HE.out, .inl rfl⟩⟩
      case rest =>
        obtain ⟨at4, b4, dv, ds, HR⟩ := hcut
        obtain ⟨hd, hx⟩ := HR.out
        obtain ⟨A, c, rfl⟩ := hd.row.slice
        have h45 : at4 ≤ S.size + 5 := hd.p.2.2.1
        have NS := hid (sign_s (c := 32) hd.tr.rd HH.out.1 (by omega))
        have HD := hid (show _ ∧ _ from ⟨hd, hx⟩)
        clear hd hx HR D0
        go_wp2_with fail
        refine NS.out.mono ?_
        rintro e w11 ⟨⟨u, rfl⟩, b5, r5, o5, hok5, hri5⟩
        obtain ⟨T11, U11⟩ := HD.out.1.call r5 o5
        have q0 := T11.rd.c0
        have NN := hid (number_s (c := 59) (most := S.size) T11.rd HH.out.1 (by omega) (by omega))
        have H11 := hid (show _ ∧ _ from ⟨T11, U11⟩)
        have HO5 := hid (show _ ∧ _ from ⟨hok5, hri5⟩)
        clear r5 o5 T11 U11 hok5 hri5 NS
        go_wp2_with fail
        refine NN.out.mono ?_
        rintro e w12 ⟨n6, at6, b6, rfl, r6, o6, hn6, hat6, hlt6, hok6, hri6⟩
        have T12 := H11.out.1.call r6 o6
        have U12 : U32s w12 (w1.heap.size + 1) (.slice A ds.length c) ds := H11.out.2.kept fun k hk hkl => o6.block k hkl (by have := (World.ownsRow.lt H11.out.2 k hk).1; have := T12.lo; omega)
        have P12 := kid_start HD.out.1.p HD.out.2 (fun hb => HO5.out.1 hb) (fun rest hb e => HO5.out.2 rest hb e) (fun hb => hok6 hb) (fun m rest hb hm e => hri6 m rest hb hm (by unfold isDig; decide) e) hat6 hn6
        have K0 := hid (show KidS W g w1.heap.size w12.heap.size S a0 n1 nm true A c ds n6 at6 b6 (.slice none 0 0) [] [] w12 from ⟨T12, fun j v hj => (by
          obtain ⟨a, ha, hc⟩ := U12.row.1 j v hj
          have h1 := cell_lt hc
          rw [add_block] at h1
          exact ⟨a, ha, hc, U12.row.2 a ha, h1⟩), ⟨World.ownsRow_nil _ _ _ _, fun j t _ h => absurd h (by simp)⟩, Nat.le_refl _, T12.ltT, P12⟩)
        clear r6 o6 hn6 hat6 hlt6 hok6 hri6 T12 U12 P12 H11 HO5 HD NN q0
        go_wp2_with fail
        go_loopw [6] (fun iv wr => ∃ (kids : List Tm) (at_ : Nat) (b : Bool) (kv : Value) (E : List Value), iv = .int .i64 kids.length ∧ Hid (KidS W g w1.heap.size w12.heap.size S a0 n1 nm true A c ds n6 at_ b kv kids E wr)) (fun iv _ => n6 - (RowKit.intOf iv).toNat)
        case atStart => exact ⟨[], at6, b6, _, [], rfl, K0⟩
        case round =>
          obtain ⟨kids, at_, b, kv, E, rfl, HI⟩ := hrel
          have hs := HI.out
          obtain ⟨K, d, rfl⟩ := hs.slice
          have q2 := hs.tr.rd.c2
          have hn6 : n6 ≤ 10000009 := by have := hs.p.2.2.2.2.2.2.2.2; have := HH.out; omega
          by_cases hgo : kids.length < n6 ∧ b = false
          · obtain ⟨hlt, rfl⟩ := hgo
            have hlt' : (kids.length : Int) < (n6 : Int) := by omega
            have hp := hs.p.2.1 rfl
            have NT := hid (HH.out.2.1 wr g at_ hs.tr.rd hp.2 (by have := HH.out; omega))
            clear hs hp
            go_wp2_with fail
            refine NT.out.mono ?_
            rintro e w13 ⟨kd', nm', ng', ds', kids', A', K', c', c2', at', b', rfl, hdep, r13, o13, hat13, hok13, hri13⟩
            have T13 := HI.out.tr.call r13 o13
            have hs := HI.out
            have lo := hs.lo
            have lo2 := hs.tr.lo
            have hbk := hs.size
            have s13 := o13.size
            have hct := hs.ct.keep (fun m h1 h2 => o13.block m h2 (by omega))
            have hrow := hct.row
            obtain ⟨i0, hi, hz0, hz1, hz2⟩ := info_parts info_term
            have k4 : w13.cell? ⟨w1.heap.size, 4, none⟩ = some (.slice K kids.length d) := T13.cell 4 rfl
            have hlt2 : w1.heap.size < w13.heap.size := T13.ltT
            have HD := hid (show _ ∧ _ ∧ _ ∧ _ ∧ _ ∧ _ from ⟨hdep, o13, kid_step hs.p hlt hat13 hok13 hri13, T13, hct, lo2⟩)
            clear hdep r13 o13 hat13 hok13 hri13 hs T13 hct NT q2 hlt
            go_wp2_with (at_builtin; refine wpList_append_own_at _ rfl _ _ 26 rfl w12.heap.size 28 i0 _ 5 80 Tryd.underlying26 hi hz0 hz1 hz2 rfl (by decide) (.slice K kids.length d) kids.length E rfl ((hrow.alloc _).alloc _) ⟨w13.heap.size + 1, 0, none⟩ 1 1 [.int .u8 kd', .string nm', .bool ng', .slice A' ds'.length c', .slice K' kids'.length c2'] rfl rfl five_news ?c2 ?c3 ?c4 ?c5 ?_)
            case c2 =>
              intro u hu
              simp at hu
              rcases hu with rfl | rfl | rfl | rfl | rfl <;> rfl
            case c3 => unfold maxLen; omega
            case c4 => omega
            case c5 => rw [World.size_alloc, World.size_alloc]; omega
            intro v' w14 r14 g14 _ hw
            obtain ⟨K2, d2, rfl⟩ : ∃ K2 d2, v' = .slice K2 (kids.length + 1) d2 := by
              rcases r14.2 with ⟨_, h0⟩ | ⟨_, _, _, e, _⟩
              · exact absurd h0 (by omega)
              · exact ⟨_, _, e⟩
            have HE := hid (kid_next HI.out HD.out.1 HD.out.2.1 HD.out.2.2.1 HD.out.2.2.2.1 r14 g14 hw)
            have k5 : w14.cell? ⟨w1.heap.size, 4, none⟩ = some (.slice K kids.length d) := HE.out.2.1
            have f5 : w14.frozen? ⟨w1.heap.size, 4, none⟩ = false := HE.out.2.2
            clear r14 g14 hw HD hrow k4
            go_wp2
            go_roundw
            case rel => exact ⟨kids ++ [.mk kd' nm' ng' ds' kids'], at', b', _, _, by simp, hid HE.out.1⟩
            case measure => simp [RowKit.intOf]; omega
          · have hx := hgo
            have p0 := hs.tr.cell 0 rfl
            have p1 := hs.tr.cell 1 rfl
            have p2 := hs.tr.cell 2 rfl
            have p3 := hs.tr.cell 3 rfl
            have p4 := hs.tr.cell 4 rfl
            have r0 := hs.tr.res
            have s0 : wr.cell? ⟨W.heap.size, 0, none⟩ = some (.int .u8 0) := cell_of_row wr _ 0 _ _ _ r0
            have s1 : wr.cell? ⟨W.heap.size, 1, none⟩ = some (.string ⟨#[]⟩) := cell_of_row wr _ 1 _ _ _ r0
            have s2 : wr.cell? ⟨W.heap.size, 2, none⟩ = some (.bool false) := cell_of_row wr _ 2 _ _ _ r0
            have s3 : wr.cell? ⟨W.heap.size, 3, none⟩ = some (.slice none 0 0) := cell_of_row wr _ 3 _ _ _ r0
            have s4 : wr.cell? ⟨W.heap.size, 4, none⟩ = some (.slice none 0 0) := cell_of_row wr _ 4 _ _ _ r0
            have ff : ∀ o, wr.frozen? ⟨W.heap.size, o, none⟩ = false := fun o => by simp [World.frozen?, r0]
            have f0 := ff 0
            have f1 := ff 1
            have f2 := ff 2
            have f3 := ff 3
            have f4 := ff 4
            have HE := hid (fun wf hwf => kid_end (wf := wf) HI.out hgo hwf HH.out.1)
            clear ff r0 hs hx
            by_cases hlt : kids.length < n6
            · have hb : b = true := by
                cases b with
                | true => rfl
                | false => exact absurd ⟨hlt, rfl⟩ hgo
              subst hb
              have hlt' : (kids.length : Int) < (n6 : Int) := by omega
              clear hgo
              go_wp2
              obtain ⟨wf, hwf⟩ : ∃ wf, wf = ((((wr.setCell ⟨W.heap.size, 0, none⟩ (.int .u8 ((n1 : Int) % 256))).setCell ⟨W.heap.size, 1, none⟩ (.string nm)).setCell ⟨W.heap.size, 2, none⟩ (.bool true)).setCell ⟨W.heap.size, 3, none⟩ (.slice A ds.length c)).setCell ⟨W.heap.size, 4, none⟩ (.slice K kids.length d) := ⟨_, rfl⟩
              rw [← hwf]
              obtain ⟨q0, qP⟩ := HE.out wf hwf
              have t0 := cell_of_row wf W.heap.size 0 _ _ _ q0
              have t1 := cell_of_row wf W.heap.size 1 _ _ _ q0
              have t2 := cell_of_row wf W.heap.size 2 _ _ _ q0
              have t3 := cell_of_row wf W.heap.size 3 _ _ _ q0
              have t4 := cell_of_row wf W.heap.size 4 _ _ _ q0
              simp at t0 t1 t2 t3 t4
              exact bodyPost_ret (v := .agg #[.int .u8 ((n1 : Int) % 256), .string nm, .bool true, .slice A ds.length c, .slice K kids.length d]) (by simp [results, Tryd.results26, go_sem, t0, t1, t2, t3, t4]) rfl qP
            · have hlt' : decide ((kids.length : Int) < (n6 : Int)) = false := decide_eq_false (by omega)
              have hlt2 : decide (kids.length < n6) = false := decide_eq_false hlt
              clear hgo
              go_wp2
              obtain ⟨wf, hwf⟩ : ∃ wf, wf = ((((wr.setCell ⟨W.heap.size, 0, none⟩ (.int .u8 ((n1 : Int) % 256))).setCell ⟨W.heap.size, 1, none⟩ (.string nm)).setCell ⟨W.heap.size, 2, none⟩ (.bool true)).setCell ⟨W.heap.size, 3, none⟩ (.slice A ds.length c)).setCell ⟨W.heap.size, 4, none⟩ (.slice K kids.length d) := ⟨_, rfl⟩
              rw [← hwf]
              obtain ⟨q0, qP⟩ := HE.out wf hwf
              have t0 := cell_of_row wf W.heap.size 0 _ _ _ q0
              have t1 := cell_of_row wf W.heap.size 1 _ _ _ q0
              have t2 := cell_of_row wf W.heap.size 2 _ _ _ q0
              have t3 := cell_of_row wf W.heap.size 3 _ _ _ q0
              have t4 := cell_of_row wf W.heap.size 4 _ _ _ q0
              simp at t0 t1 t2 t3 t4
              exact bodyPost_ret (v := .agg #[.int .u8 ((n1 : Int) % 256), .string nm, .bool true, .slice A ds.length c, .slice K kids.length d]) (by simp [results, Tryd.results26, go_sem, t0, t1, t2, t3, t4]) rfl qP
theorem term_all {S : ByteArray} (hS : S.size ≤ 1000000) : ∀ k, TermR S k
  | 0 => fun W g a0 _ _ h => absurd h (Nat.not_lt_zero _)
  | k + 1 => term_one hS (term_all hS k)
end Go.Proofs.YtdkgpnkcdnfniaaDoor

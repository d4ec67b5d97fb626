/- Contract of ratio.Parse: Steps and contracts for the laws of package ratio: Awake of layer 3. Contract of whetstoneref01.Text: Contracts of the answers of stage 2 (whetstoneref02) over numbers of at most 1000 digits: Contracts of the answers of stages 2 and 3 over right numbers and ratios: Contract of whetstoneref01.Add: Contract of whetstoneref01.times: Contract of whetstoneref01.Mul: Contracts of the answers of stage 2 (whetstoneref02) over right numbers and lists of numbers: -/
import Derived.Test.YtnbhihhjgpddcaaGreatDoorPR6
import Derived.Test.YtnbhihhjgpddcaaGreatDoorPR4
import Derived.Laws.IdiomStrings
import Derived.Test.YtnbhihhjgpddcaaGreatDoorPR5
import Derived.Test.YtnbhihhjgpddcaaGreatDoorPR1
import Derived.Test.YtnbhihhjgpddcaaGreatDoorPR2
set_option maxRecDepth 100000
set_option maxHeartbeats 16000000
set_option linter.unusedVariables false
set_option linter.unusedSimpArgs false
namespace Go.Proofs.YtnbhihhjgpddcaaGreatDoor
open Go.RowKit
def MaxL (w : World) : Prop:=∃ m : Int,w.cell? ⟨0,0,none⟩ = some (.int .i64 m)
theorem MaxL.below {W w' : World} (h : MaxL W) (hb : Below W.heap.size W w') : MaxL w':=by
 obtain ⟨m,h⟩:=h
 exact ⟨m,(hb.cell (cell_lt h)).trans h⟩
theorem cf {P : Program} {F : FuncId} {v V : Value} {w : World} {c : PK} {S0 : Nat} {x : Nat → Value} (h : (kIs V).sem S0 x v w) (H : Calls P F #[V] w (Told c S0 x w)) : Calls P F #[v] w (Told c S0 x w):=by
 have e : v = V:=h
 subst e
 exact H
def CutIs (s A B : ByteArray) (b : Bool) : Prop:=∃ la lb,Lib.cut s.data.toList [47] = (la,lb,b) ∧ A = ⟨la.toArray⟩ ∧ B = ⟨lb.toArray⟩
theorem cut_told {s A B : ByteArray} {b : Bool} {w : World} {v : Value} (hc : CutIs s A B b) (hs : s.size ≤ 1000000) (h1 : v = .string s) (hm : MaxL w) : Calls Tryz.prog 81 #[v,.string ⟨#[47]⟩] w fun e w'=>e = .returned (.tuple #[.string A,.string B,.bool b]) ∧ Below w.heap.size w w':=by
 subst h1
 obtain ⟨m,hm⟩:=hm
 obtain ⟨la,lb,hc,rfl,rfl⟩:=hc
 refine (Tryz.strings_Cut s ⟨#[47]⟩ m w (by omega) hm).mono fun e w' h=>?_
 obtain ⟨h,n,hw⟩:=h
 rw [show (⟨#[47]⟩ : ByteArray).data.toList = [47] from rfl,hc] at h
 exact ⟨h,hw ▸ gt (Below.refl _ _) n⟩
section
variable {C : World → Prop} {S0 : Nat} {ks : List PK} {a0 : Act} {i : Nat} {N : Nat} {P : Program} {T : TypeId} {pos : String} {af : Array Edge} {gu : Option (Nat × Bool)} {ats : Array TypeId}
theorem kw {d F j1 t1 : Nat} {V : Value} {c1 c : PK}     (h1 : at_ ks j1 = c1) (hi : at_ ks i = c)
   (h : ∀ w x v1,C w → c1.sem S0 x v1 w → Calls P F #[v1,V] w (Told c S0 x w)) (hN : a0.tmps.size = N:=by assumption) (hd : decide (d < N) = true:=by kernel_rfl) (ht1 : decide (t1 < N) = true:=by kernel_rfl) (hF : enters P F = true:=by kernel_rfl) :
   PkStep P C S0 ks a0 i { dst:=some d,op:=.call { callee:=.value (.func F),args:=#[.tmp t1,.const V],argTypes:=ats },type:=T,pos:=pos,after:=af,guard:=gu } [(j1,some t1)] :=
 st_call (ss:=[.dep j1,.val V]) hN (by simp [esIn]; exact of_decide_eq_true ht1) hd hF (by simp [src,slotAt]) fun w x hC hdeps=>by
   have g1:=hdeps (j1,some t1) (by simp); rw [h1] at g1; rw [hi]; exact h w x (x j1) hC g1
end
theorem parse_cut_yes {w : World} {s A B t : ByteArray} {x y : Int} {okA okB : Bool} (hc : CutIs s A B true) (hs : s.size ≤ 1000000) (HM : Hid (∀ W, Below w.heap.size w W → MaxL W))
   (HA : Hid (∀ (W : World) {S0 : Nat} {x_ : Nat → Value},Calls Tryz.prog 82 #[.string A] W (Told (kZB 19 (x) okA) S0 x_ W))) (HB : Hid (∀ (W : World) {S0 : Nat} {x_ : Nat → Value},Calls Tryz.prog 82 #[.string (B)] W (Told (kZB 19 (y) okB) S0 x_ W)))
   (HX : Hid (∀ (W : World) (v : Value),Below w.heap.size w W → Pr W v 19 (x) (y) → Calls Tryz.prog 24 #[v] W fun e w'=>e = .returned (.string (t)) ∧ Below W.heap.size W w')) (hne : ((t).toList == (s).toList) = true) :
   Calls Tryz.prog 40 #[.string s] w fun e w'=>∃ v,e = .returned (.tuple #[v,.bool true]) ∧ Pr w' v 19 (x) (y) ∧ Below w.heap.size w w':=by
 have hm0:=HM.out w (Below.refl _ _)
 have hcell:=hm0
 go_enter Tryz.func40,Tryz.ntmps40
 repeat apply wp_seq
 refine mf fun K HK=>?_
 go_wp2
 refine HK.out _ _ (then_n ?_)
 refine mb (G:=fun W=>Code.wp _ _ _ _ W) ?_
 intro W_0 bb_0 K0
 have R_0:=ge K0
 clear K0 hcell
 refine ly (G:=fun a=>Code.wp _ _ _ a _) 35 ?_
 intro a_0 ha hN_0 hD_0
 have e0_0 : a_0.eval (.tmp 0) = .string s:=ma ha
 have e2_0:=lu ha 2 w.heap.size
 repeat first | apply lw | apply lx
 refine lm bb_0 [kIs (.string s),kIs (.tuple #[.string A,.string B,.bool true]),kIs (.tuple #[.string A,.string B,.bool true]),kIs (.string A),kIs (.string B),lq,kIs (.string A),kIs (.string B),lq] [[],[0],[1],[2],[2],[2],[3],[4],[5]] [9,10,8,11,12,13,4,5,6] [] [] ?_ ?_
 ·
   refine p01 e0_0 ?_; refine aa rfl rfl (kw rfl rfl fun w x v1 hC h1=>ti (cut_told hc hs h1 (HM.out _ (bb_0.trans hC.below)))) ?_; refine p10 ?_; refine p10 ?_; refine p10 ?_; refine p10 ?_; refine p10 ?_; refine p10 ?_; refine p10 ?_; exact ae rfl
 intro W_1 x_ a_1 hC hall ha hN_1 hD_1 bb_1
 have e0_1:=ab ha e0_0
 have e2_1:=ab ha e2_0
 have R_1:=hC.holds R_0
 have e4_1:=ln ha hall 4 6
 have e5_1:=ln ha hall 5 7
 have e6_1:=ln ha hall 6 8
 repeat first | apply lw | apply lx
 refine lm bb_1 [lq,lr] [[],[0]] [14,15] [] [] ?_ ?_
 ·
   refine p01 e6_1 ?_; refine p10 ?_; exact ae rfl
 intro W_2 x_ a_2 hC hall ha hN_2 hD_2 bb_2
 have e0_2:=ab ha e0_1
 have e2_2:=ab ha e2_1
 have e4_2:=ab ha e4_1
 have e5_2:=ab ha e5_1
 have R_2:=hC.holds R_1
 have e15_2:=ln ha hall 15 1
 refine wp_cond_false e15_2 ?_
 repeat first | apply lw | apply lx
 refine lm bb_2 [PK.fresh 4] [[]] [7] [] [] ?_ ?_
 · refine aa rfl rfl (bp rfl) ?_; exact ae rfl
 intro W_3 x_ a_3 hC hall ha hN_3 hD_3 bb_3
 have e0_3:=ab ha e0_2
 have e2_3:=ab ha e2_2
 have e4_3:=ab ha e4_2
 have e5_3:=ab ha e5_2
 have R_3:=hC.holds R_2
 obtain ⟨g7,cs,hx,hge,P_3,hsz⟩:=(show (PK.fresh 4).sem _ _ _ _ from hall 0 (of_decide_eq_true (by kernel_rfl)))
 obtain ⟨qa,qb,qc,qd,rfl⟩:=fl hsz
 have e7_3:=(ak (t:=7) (i:=0) ha).trans hx
 have d7:=Nat.lt_of_lt_of_le R_2.lt hge
 clear hall hC ha hx hge hsz
 repeat first | apply lw | apply lx
 refine ce w.heap.size g7 P_3 (by omega) 6 [6] [kIs (.string A),kZB 19 (x) okA,kZB 19 (x) okA,kZ 19 (x),kIs (.bool okA),kIs (.pointer (some ⟨g7,0,none⟩)),kLo g7 19 (x) qc qd] [ [],[(0,some 17)],[(1,some 18)],[(2,some 16)],[(2,some 16)],[],[(5,some 21),(3,some 19)] ] [(0,some 17),(1,some 18),(2,some 16),(3,some 19),(4,some 20),(5,some 21),(6,none)] [] [] rfl bb_3.size ?_ ?_
 ·
   refine ah rfl rfl (bq [] [(4,.string A)] (.string A) rfl (old1 e4_3)) ?_; refine ah rfl rfl (ac rfl rfl fun hC h1=>cf h1 (HA.out _)) ?_; refine ah rfl rfl (bg rfl rfl) ?_; refine ah rfl rfl (eq rfl rfl ext_z) ?_; refine ah rfl rfl (eq rfl rfl ext_ok) ?_; refine ah rfl rfl (bq [] [(7,.pointer (some ⟨g7,0,none⟩))] (.pointer (some ⟨g7,0,none⟩)) rfl (old1 e7_3)) ?_; refine bj rfl rfl rfl ?_ ?_
   · exact st_lo P_3 rfl rfl rfl
   exact cn rfl
 intro W_4 x_ hC hall
 refine then_n ?_
 obtain ⟨a_4,ha⟩ : ∃ a,a = putE x_ a_3 [(0,some 17),(1,some 18),(2,some 16),(3,some 19),(4,some 20),(5,some 21),(6,none)]:=⟨_,rfl⟩
 rw [← ha]
 have hN_4:=size_behind ha hN_3
 have hD_4:=defers_behind ha hD_3
 have bb_4:=bb_3.trans hC.below
 have e0_4:=ab ha e0_3
 have e2_4:=ab ha e2_3
 have e5_4:=ab ha e5_3
 have e7_4:=ab ha e7_3
 have R_4:=hC.holdsG (by simp only [List.mem_singleton]; omega) R_3
 obtain ⟨_,P_4,A5,l5,c5,rfl,Z_4⟩:=(show (kLo g7 19 (x) qc qd).sem _ _ _ _ from hall 6 (of_decide_eq_true (by kernel_rfl)))
 repeat first | apply lw | apply lx
 refine ce w.heap.size g7 P_4 (by omega) 6 [6] [kIs (.string B),kZB 19 (y) okB,kZB 19 (y) okB,kZ 19 (y),kIs (.bool okB),kIs (.pointer (some ⟨g7,2,none⟩)),kRes g7 19 (x) (y)] [ [],[(0,some 23)],[(1,some 24)],[(2,some 22)],[(2,some 22)],[],[(5,some 27),(3,some 25)] ] [(0,some 23),(1,some 24),(2,some 22),(3,some 25),(4,some 26),(5,some 27),(6,none)] [] [] rfl bb_4.size ?_ ?_
 ·
   refine ah rfl rfl (bq [] [(5,.string B)] (.string B) rfl (old1 e5_4)) ?_; refine ah rfl rfl (ac rfl rfl fun hC h1=>cf h1 (HB.out _)) ?_; refine ah rfl rfl (bg rfl rfl) ?_; refine ah rfl rfl (eq rfl rfl ext_z) ?_; refine ah rfl rfl (eq rfl rfl ext_ok) ?_; refine ah rfl rfl (bq [] [(7,.pointer (some ⟨g7,0,none⟩))] (.pointer (some ⟨g7,2,none⟩)) rfl (old1 e7_4)) ?_; refine bj rfl rfl rfl ?_ ?_
   · exact st_hi P_4 Z_4 rfl rfl rfl
   exact cn rfl
 intro W_5 x_ hC hall
 refine then_n ?_
 obtain ⟨a_5,ha⟩ : ∃ a,a = putE x_ a_4 [(0,some 23),(1,some 24),(2,some 22),(3,some 25),(4,some 26),(5,some 27),(6,none)]:=⟨_,rfl⟩
 rw [← ha]
 have hN_5:=size_behind ha hN_4
 have hD_5:=defers_behind ha hD_4
 have bb_5:=bb_4.trans hC.below
 have e0_5:=ab ha e0_4
 have e2_5:=ab ha e2_4
 have e7_5:=ab ha e7_4
 have R_5:=hC.holdsG (by simp only [List.mem_singleton]; omega) R_4
 obtain ⟨f7_5,f7'_5⟩:=dt (me hall 6)
 repeat first | apply lw | apply lx
 refine lm bb_5 [kP 19 (x) (y),kIs (.string (t)),kIs (.string s),lr] [[],[0],[],[1,2]] [28,29,30,31] [] [] ?_ ?_
 ·
   refine aa rfl rfl (aw f7_5 f7'_5 e7_5 rfl) ?_; refine aa rfl rfl (ac rfl rfl fun hC h1=>ti (HX.out _ _ (bb_5.trans hC.below) h1)) ?_; refine p01 e0_5 ?_; refine aa rfl rfl (ck [.string (t),.string s] [] (.bool (!((t).toList == (s).toList))) (.bool false) (congrArg Value.bool (by rw [hne]; rfl)) rfl old0) ?_; exact ae rfl
 intro W_6 x_ a_6 hC hall ha hN_6 hD_6 bb_6
 have e2_6:=ab ha e2_5
 have e7_6:=ab ha e7_5
 have R_6:=hC.holds R_5
 have f7_6:=hC.at0 f7_5
 have f7'_6:=hC.at0 f7'_5
 have e31_6:=ln ha hall 31 3
 refine wp_cond_false e31_6 ?_
 repeat first | apply lw | apply lx
 refine mg bb_6 R_6 [kP 19 (x) (y),kRes (w.heap.size) 19 (x) (y),lq] [[],[0],[]] [34,999,3] [] [] ?_ ?_
 ·
   refine aa rfl rfl (aw (hG:=(by simp only [List.mem_singleton]; omega)) f7_6 f7'_6 e7_6 rfl) ?_; refine aa rfl rfl (bd R_6 rfl e2_6 rfl rfl) ?_; refine p00 ?_; exact ae rfl
 intro W x_ a1 hC hall ha hN1 hD1 bb1
 obtain ⟨cs,hg,hP⟩:=me hall 1
 have e1:=ab (t:=2) ha e2_6
 have e2:=ln ha hall 3 2
 repeat first | apply lw | apply lx
 refine wp_ret ?_
 repeat (refine then_r ?_)
 exact bi (t:=2) (u:=3) rfl hD1 e1 e2 hg hP fun v hv=>⟨v,rfl,hv,bb1⟩
theorem parse_cut_no {w : World} {s A B t : ByteArray} {x y : Int} {okA okB : Bool} (hc : CutIs s A B true) (hs : s.size ≤ 1000000) (HM : Hid (∀ W, Below w.heap.size w W → MaxL W))
   (HA : Hid (∀ (W : World) {S0 : Nat} {x_ : Nat → Value},Calls Tryz.prog 82 #[.string A] W (Told (kZB 19 (x) okA) S0 x_ W))) (HB : Hid (∀ (W : World) {S0 : Nat} {x_ : Nat → Value},Calls Tryz.prog 82 #[.string (B)] W (Told (kZB 19 (y) okB) S0 x_ W)))
   (HX : Hid (∀ (W : World) (v : Value),Below w.heap.size w W → Pr W v 19 (x) (y) → Calls Tryz.prog 24 #[v] W fun e w'=>e = .returned (.string (t)) ∧ Below W.heap.size W w')) (hne : ((t).toList == (s).toList) = false) :
   Calls Tryz.prog 40 #[.string s] w fun e w'=>∃ v,e = .returned (.tuple #[v,.bool false]) ∧ Pr w' v 9 (0) (1) ∧ Below w.heap.size w w':=by
 have hm0:=HM.out w (Below.refl _ _)
 have hcell:=hm0
 go_enter Tryz.func40,Tryz.ntmps40
 repeat apply wp_seq
 refine mf fun K HK=>?_
 go_wp2
 refine HK.out _ _ (then_n ?_)
 refine mb (G:=fun W=>Code.wp _ _ _ _ W) ?_
 intro W_0 bb_0 K0
 have R_0:=ge K0
 clear K0 hcell
 refine ly (G:=fun a=>Code.wp _ _ _ a _) 35 ?_
 intro a_0 ha hN_0 hD_0
 have e0_0 : a_0.eval (.tmp 0) = .string s:=ma ha
 have e2_0:=lu ha 2 w.heap.size
 repeat first | apply lw | apply lx
 refine lm bb_0 [kIs (.string s),kIs (.tuple #[.string A,.string B,.bool true]),kIs (.tuple #[.string A,.string B,.bool true]),kIs (.string A),kIs (.string B),lq,kIs (.string A),kIs (.string B),lq] [[],[0],[1],[2],[2],[2],[3],[4],[5]] [9,10,8,11,12,13,4,5,6] [] [] ?_ ?_
 ·
   refine p01 e0_0 ?_; refine aa rfl rfl (kw rfl rfl fun w x v1 hC h1=>ti (cut_told hc hs h1 (HM.out _ (bb_0.trans hC.below)))) ?_; refine p10 ?_; refine p10 ?_; refine p10 ?_; refine p10 ?_; refine p10 ?_; refine p10 ?_; refine p10 ?_; exact ae rfl
 intro W_1 x_ a_1 hC hall ha hN_1 hD_1 bb_1
 have e0_1:=ab ha e0_0
 have e2_1:=ab ha e2_0
 have R_1:=hC.holds R_0
 have e4_1:=ln ha hall 4 6
 have e5_1:=ln ha hall 5 7
 have e6_1:=ln ha hall 6 8
 repeat first | apply lw | apply lx
 refine lm bb_1 [lq,lr] [[],[0]] [14,15] [] [] ?_ ?_
 ·
   refine p01 e6_1 ?_; refine p10 ?_; exact ae rfl
 intro W_2 x_ a_2 hC hall ha hN_2 hD_2 bb_2
 have e0_2:=ab ha e0_1
 have e2_2:=ab ha e2_1
 have e4_2:=ab ha e4_1
 have e5_2:=ab ha e5_1
 have R_2:=hC.holds R_1
 have e15_2:=ln ha hall 15 1
 refine wp_cond_false e15_2 ?_
 repeat first | apply lw | apply lx
 refine lm bb_2 [PK.fresh 4] [[]] [7] [] [] ?_ ?_
 · refine aa rfl rfl (bp rfl) ?_; exact ae rfl
 intro W_3 x_ a_3 hC hall ha hN_3 hD_3 bb_3
 have e0_3:=ab ha e0_2
 have e2_3:=ab ha e2_2
 have e4_3:=ab ha e4_2
 have e5_3:=ab ha e5_2
 have R_3:=hC.holds R_2
 obtain ⟨g7,cs,hx,hge,P_3,hsz⟩:=(show (PK.fresh 4).sem _ _ _ _ from hall 0 (of_decide_eq_true (by kernel_rfl)))
 obtain ⟨qa,qb,qc,qd,rfl⟩:=fl hsz
 have e7_3:=(ak (t:=7) (i:=0) ha).trans hx
 have d7:=Nat.lt_of_lt_of_le R_2.lt hge
 clear hall hC ha hx hge hsz
 repeat first | apply lw | apply lx
 refine ce w.heap.size g7 P_3 (by omega) 6 [6] [kIs (.string A),kZB 19 (x) okA,kZB 19 (x) okA,kZ 19 (x),kIs (.bool okA),kIs (.pointer (some ⟨g7,0,none⟩)),kLo g7 19 (x) qc qd] [ [],[(0,some 17)],[(1,some 18)],[(2,some 16)],[(2,some 16)],[],[(5,some 21),(3,some 19)] ] [(0,some 17),(1,some 18),(2,some 16),(3,some 19),(4,some 20),(5,some 21),(6,none)] [] [] rfl bb_3.size ?_ ?_
 ·
   refine ah rfl rfl (bq [] [(4,.string A)] (.string A) rfl (old1 e4_3)) ?_; refine ah rfl rfl (ac rfl rfl fun hC h1=>cf h1 (HA.out _)) ?_; refine ah rfl rfl (bg rfl rfl) ?_; refine ah rfl rfl (eq rfl rfl ext_z) ?_; refine ah rfl rfl (eq rfl rfl ext_ok) ?_; refine ah rfl rfl (bq [] [(7,.pointer (some ⟨g7,0,none⟩))] (.pointer (some ⟨g7,0,none⟩)) rfl (old1 e7_3)) ?_; refine bj rfl rfl rfl ?_ ?_
   · exact st_lo P_3 rfl rfl rfl
   exact cn rfl
 intro W_4 x_ hC hall
 refine then_n ?_
 obtain ⟨a_4,ha⟩ : ∃ a,a = putE x_ a_3 [(0,some 17),(1,some 18),(2,some 16),(3,some 19),(4,some 20),(5,some 21),(6,none)]:=⟨_,rfl⟩
 rw [← ha]
 have hN_4:=size_behind ha hN_3
 have hD_4:=defers_behind ha hD_3
 have bb_4:=bb_3.trans hC.below
 have e0_4:=ab ha e0_3
 have e2_4:=ab ha e2_3
 have e5_4:=ab ha e5_3
 have e7_4:=ab ha e7_3
 have R_4:=hC.holdsG (by simp only [List.mem_singleton]; omega) R_3
 obtain ⟨_,P_4,A5,l5,c5,rfl,Z_4⟩:=(show (kLo g7 19 (x) qc qd).sem _ _ _ _ from hall 6 (of_decide_eq_true (by kernel_rfl)))
 repeat first | apply lw | apply lx
 refine ce w.heap.size g7 P_4 (by omega) 6 [6] [kIs (.string B),kZB 19 (y) okB,kZB 19 (y) okB,kZ 19 (y),kIs (.bool okB),kIs (.pointer (some ⟨g7,2,none⟩)),kRes g7 19 (x) (y)] [ [],[(0,some 23)],[(1,some 24)],[(2,some 22)],[(2,some 22)],[],[(5,some 27),(3,some 25)] ] [(0,some 23),(1,some 24),(2,some 22),(3,some 25),(4,some 26),(5,some 27),(6,none)] [] [] rfl bb_4.size ?_ ?_
 ·
   refine ah rfl rfl (bq [] [(5,.string B)] (.string B) rfl (old1 e5_4)) ?_; refine ah rfl rfl (ac rfl rfl fun hC h1=>cf h1 (HB.out _)) ?_; refine ah rfl rfl (bg rfl rfl) ?_; refine ah rfl rfl (eq rfl rfl ext_z) ?_; refine ah rfl rfl (eq rfl rfl ext_ok) ?_; refine ah rfl rfl (bq [] [(7,.pointer (some ⟨g7,0,none⟩))] (.pointer (some ⟨g7,2,none⟩)) rfl (old1 e7_4)) ?_; refine bj rfl rfl rfl ?_ ?_
   · exact st_hi P_4 Z_4 rfl rfl rfl
   exact cn rfl
 intro W_5 x_ hC hall
 refine then_n ?_
 obtain ⟨a_5,ha⟩ : ∃ a,a = putE x_ a_4 [(0,some 23),(1,some 24),(2,some 22),(3,some 25),(4,some 26),(5,some 27),(6,none)]:=⟨_,rfl⟩
 rw [← ha]
 have hN_5:=size_behind ha hN_4
 have hD_5:=defers_behind ha hD_4
 have bb_5:=bb_4.trans hC.below
 have e0_5:=ab ha e0_4
 have e2_5:=ab ha e2_4
 have e7_5:=ab ha e7_4
 have R_5:=hC.holdsG (by simp only [List.mem_singleton]; omega) R_4
 obtain ⟨f7_5,f7'_5⟩:=dt (me hall 6)
 repeat first | apply lw | apply lx
 refine lm bb_5 [kP 19 (x) (y),kIs (.string (t)),kIs (.string s),lq] [[],[0],[],[1,2]] [28,29,30,31] [] [] ?_ ?_
 ·
   refine aa rfl rfl (aw f7_5 f7'_5 e7_5 rfl) ?_; refine aa rfl rfl (ac rfl rfl fun hC h1=>ti (HX.out _ _ (bb_5.trans hC.below) h1)) ?_; refine p01 e0_5 ?_; refine aa rfl rfl (ck [.string (t),.string s] [] (.bool (!((t).toList == (s).toList))) (.bool true) (congrArg Value.bool (by rw [hne]; rfl)) rfl old0) ?_; exact ae rfl
 intro W_6 x_ a_6 hC hall ha hN_6 hD_6 bb_6
 have e2_6:=ab ha e2_5
 have R_6:=hC.holds R_5
 have e31_6:=ln ha hall 31 3
 refine wp_cond_true e31_6 ?_
 repeat first | apply lw | apply lx
 refine mg bb_6 R_6 [kP 9 (0) (1),kP 9 (0) (1),kRes (w.heap.size) 9 (0) (1),lr] [[],[0],[1],[]] [32,33,999,3] [] [] ?_ ?_
 ·
   refine aa rfl rfl (aq [] rfl rfl fun hC=>tp jw) ?_; refine aa rfl rfl (dj rfl rfl) ?_; refine aa rfl rfl (bd R_6 rfl e2_6 rfl rfl) ?_; refine p00 ?_; exact ae rfl
 intro W x_ a1 hC hall ha hN1 hD1 bb1
 obtain ⟨cs,hg,hP⟩:=me hall 2
 have e1:=ab (t:=2) ha e2_6
 have e2:=ln ha hall 3 3
 repeat first | apply lw | apply lx
 refine wp_ret ?_
 repeat (refine then_r ?_)
 exact bi (t:=2) (u:=3) rfl hD1 e1 e2 hg hP fun v hv=>⟨v,rfl,hv,bb1⟩
theorem parse_whole_yes {w : World} {s A B t : ByteArray} {x y : Int} {okA okB : Bool} (hc : CutIs s A B false) (hs : s.size ≤ 1000000) (HM : Hid (∀ W, Below w.heap.size w W → MaxL W))
   (HA : Hid (∀ (W : World) {S0 : Nat} {x_ : Nat → Value},Calls Tryz.prog 82 #[.string A] W (Told (kZB 19 (x) okA) S0 x_ W))) (HB : Hid (∀ (W : World) {S0 : Nat} {x_ : Nat → Value},Calls Tryz.prog 82 #[.string (⟨#[49]⟩)] W (Told (kZB 19 (y) okB) S0 x_ W)))
   (HX : Hid (∀ (W : World) (v : Value),Below w.heap.size w W → Pr W v 19 (x) (y) → Calls Tryz.prog 24 #[v] W fun e w'=>e = .returned (.string (t)) ∧ Below W.heap.size W w')) (hne : ((t).toList == (s).toList) = true) :
   Calls Tryz.prog 40 #[.string s] w fun e w'=>∃ v,e = .returned (.tuple #[v,.bool true]) ∧ Pr w' v 19 (x) (y) ∧ Below w.heap.size w w':=by
 have hm0:=HM.out w (Below.refl _ _)
 have hcell:=hm0
 go_enter Tryz.func40,Tryz.ntmps40
 repeat apply wp_seq
 refine mf fun K HK=>?_
 go_wp2
 refine HK.out _ _ (then_n ?_)
 refine mb (G:=fun W=>Code.wp _ _ _ _ W) ?_
 intro W_0 bb_0 K0
 have R_0:=ge K0
 clear K0 hcell
 refine ly (G:=fun a=>Code.wp _ _ _ a _) 35 ?_
 intro a_0 ha hN_0 hD_0
 have e0_0 : a_0.eval (.tmp 0) = .string s:=ma ha
 have e2_0:=lu ha 2 w.heap.size
 repeat first | apply lw | apply lx
 refine lm bb_0 [kIs (.string s),kIs (.tuple #[.string A,.string B,.bool false]),kIs (.tuple #[.string A,.string B,.bool false]),kIs (.string A),kIs (.string B),lr,kIs (.string A),kIs (.string B),lr] [[],[0],[1],[2],[2],[2],[3],[4],[5]] [9,10,8,11,12,13,4,5,6] [] [] ?_ ?_
 ·
   refine p01 e0_0 ?_; refine aa rfl rfl (kw rfl rfl fun w x v1 hC h1=>ti (cut_told hc hs h1 (HM.out _ (bb_0.trans hC.below)))) ?_; refine p10 ?_; refine p10 ?_; refine p10 ?_; refine p10 ?_; refine p10 ?_; refine p10 ?_; refine p10 ?_; exact ae rfl
 intro W_1 x_ a_1 hC hall ha hN_1 hD_1 bb_1
 have e0_1:=ab ha e0_0
 have e2_1:=ab ha e2_0
 have R_1:=hC.holds R_0
 have e4_1:=ln ha hall 4 6
 have e5_1:=ln ha hall 5 7
 have e6_1:=ln ha hall 6 8
 repeat first | apply lw | apply lx
 refine lm bb_1 [lr,lq] [[],[0]] [14,15] [] [] ?_ ?_
 ·
   refine p01 e6_1 ?_; refine p10 ?_; exact ae rfl
 intro W_2 x_ a_2 hC hall ha hN_2 hD_2 bb_2
 have e0_2:=ab ha e0_1
 have e2_2:=ab ha e2_1
 have e4_2:=ab ha e4_1
 have R_2:=hC.holds R_1
 have e15_2:=ln ha hall 15 1
 refine wp_cond_true e15_2 ?_
 repeat first | apply lw | apply lx
 refine lm bb_2 [kIs (.string ⟨#[49]⟩)] [[]] [5] [] [] ?_ ?_
 ·
   refine p00 ?_; exact ae rfl
 intro W_3 x_ a_3 hC hall ha hN_3 hD_3 bb_3
 have e0_3:=ab ha e0_2
 have e2_3:=ab ha e2_2
 have e4_3:=ab ha e4_2
 have R_3:=hC.holds R_2
 have e5_3:=ln ha hall 5 0
 repeat first | apply lw | apply lx
 refine lm bb_3 [PK.fresh 4] [[]] [7] [] [] ?_ ?_
 · refine aa rfl rfl (bp rfl) ?_; exact ae rfl
 intro W_4 x_ a_4 hC hall ha hN_4 hD_4 bb_4
 have e0_4:=ab ha e0_3
 have e2_4:=ab ha e2_3
 have e4_4:=ab ha e4_3
 have e5_4:=ab ha e5_3
 have R_4:=hC.holds R_3
 obtain ⟨g7,cs,hx,hge,P_4,hsz⟩:=(show (PK.fresh 4).sem _ _ _ _ from hall 0 (of_decide_eq_true (by kernel_rfl)))
 obtain ⟨qa,qb,qc,qd,rfl⟩:=fl hsz
 have e7_4:=(ak (t:=7) (i:=0) ha).trans hx
 have d7:=Nat.lt_of_lt_of_le R_3.lt hge
 clear hall hC ha hx hge hsz
 repeat first | apply lw | apply lx
 refine ce w.heap.size g7 P_4 (by omega) 6 [6] [kIs (.string A),kZB 19 (x) okA,kZB 19 (x) okA,kZ 19 (x),kIs (.bool okA),kIs (.pointer (some ⟨g7,0,none⟩)),kLo g7 19 (x) qc qd] [ [],[(0,some 17)],[(1,some 18)],[(2,some 16)],[(2,some 16)],[],[(5,some 21),(3,some 19)] ] [(0,some 17),(1,some 18),(2,some 16),(3,some 19),(4,some 20),(5,some 21),(6,none)] [] [] rfl bb_4.size ?_ ?_
 ·
   refine ah rfl rfl (bq [] [(4,.string A)] (.string A) rfl (old1 e4_4)) ?_; refine ah rfl rfl (ac rfl rfl fun hC h1=>cf h1 (HA.out _)) ?_; refine ah rfl rfl (bg rfl rfl) ?_; refine ah rfl rfl (eq rfl rfl ext_z) ?_; refine ah rfl rfl (eq rfl rfl ext_ok) ?_; refine ah rfl rfl (bq [] [(7,.pointer (some ⟨g7,0,none⟩))] (.pointer (some ⟨g7,0,none⟩)) rfl (old1 e7_4)) ?_; refine bj rfl rfl rfl ?_ ?_
   · exact st_lo P_4 rfl rfl rfl
   exact cn rfl
 intro W_5 x_ hC hall
 refine then_n ?_
 obtain ⟨a_5,ha⟩ : ∃ a,a = putE x_ a_4 [(0,some 17),(1,some 18),(2,some 16),(3,some 19),(4,some 20),(5,some 21),(6,none)]:=⟨_,rfl⟩
 rw [← ha]
 have hN_5:=size_behind ha hN_4
 have hD_5:=defers_behind ha hD_4
 have bb_5:=bb_4.trans hC.below
 have e0_5:=ab ha e0_4
 have e2_5:=ab ha e2_4
 have e5_5:=ab ha e5_4
 have e7_5:=ab ha e7_4
 have R_5:=hC.holdsG (by simp only [List.mem_singleton]; omega) R_4
 obtain ⟨_,P_5,A5,l5,c5,rfl,Z_5⟩:=(show (kLo g7 19 (x) qc qd).sem _ _ _ _ from hall 6 (of_decide_eq_true (by kernel_rfl)))
 repeat first | apply lw | apply lx
 refine ce w.heap.size g7 P_5 (by omega) 6 [6] [kIs (.string ⟨#[49]⟩),kZB 19 (y) okB,kZB 19 (y) okB,kZ 19 (y),kIs (.bool okB),kIs (.pointer (some ⟨g7,2,none⟩)),kRes g7 19 (x) (y)] [ [],[(0,some 23)],[(1,some 24)],[(2,some 22)],[(2,some 22)],[],[(5,some 27),(3,some 25)] ] [(0,some 23),(1,some 24),(2,some 22),(3,some 25),(4,some 26),(5,some 27),(6,none)] [] [] rfl bb_5.size ?_ ?_
 ·
   refine ah rfl rfl (bq [] [(5,.string ⟨#[49]⟩)] (.string ⟨#[49]⟩) rfl (old1 e5_5)) ?_; refine ah rfl rfl (ac rfl rfl fun hC h1=>cf h1 (HB.out _)) ?_; refine ah rfl rfl (bg rfl rfl) ?_; refine ah rfl rfl (eq rfl rfl ext_z) ?_; refine ah rfl rfl (eq rfl rfl ext_ok) ?_; refine ah rfl rfl (bq [] [(7,.pointer (some ⟨g7,0,none⟩))] (.pointer (some ⟨g7,2,none⟩)) rfl (old1 e7_5)) ?_; refine bj rfl rfl rfl ?_ ?_
   · exact st_hi P_5 Z_5 rfl rfl rfl
   exact cn rfl
 intro W_6 x_ hC hall
 refine then_n ?_
 obtain ⟨a_6,ha⟩ : ∃ a,a = putE x_ a_5 [(0,some 23),(1,some 24),(2,some 22),(3,some 25),(4,some 26),(5,some 27),(6,none)]:=⟨_,rfl⟩
 rw [← ha]
 have hN_6:=size_behind ha hN_5
 have hD_6:=defers_behind ha hD_5
 have bb_6:=bb_5.trans hC.below
 have e0_6:=ab ha e0_5
 have e2_6:=ab ha e2_5
 have e7_6:=ab ha e7_5
 have R_6:=hC.holdsG (by simp only [List.mem_singleton]; omega) R_5
 obtain ⟨f7_6,f7'_6⟩:=dt (me hall 6)
 repeat first | apply lw | apply lx
 refine lm bb_6 [kP 19 (x) (y),kIs (.string (t)),kIs (.string s),lr] [[],[0],[],[1,2]] [28,29,30,31] [] [] ?_ ?_
 ·
   refine aa rfl rfl (aw f7_6 f7'_6 e7_6 rfl) ?_; refine aa rfl rfl (ac rfl rfl fun hC h1=>ti (HX.out _ _ (bb_6.trans hC.below) h1)) ?_; refine p01 e0_6 ?_; refine aa rfl rfl (ck [.string (t),.string s] [] (.bool (!((t).toList == (s).toList))) (.bool false) (congrArg Value.bool (by rw [hne]; rfl)) rfl old0) ?_; exact ae rfl
 intro W_7 x_ a_7 hC hall ha hN_7 hD_7 bb_7
 have e2_7:=ab ha e2_6
 have e7_7:=ab ha e7_6
 have R_7:=hC.holds R_6
 have f7_7:=hC.at0 f7_6
 have f7'_7:=hC.at0 f7'_6
 have e31_7:=ln ha hall 31 3
 refine wp_cond_false e31_7 ?_
 repeat first | apply lw | apply lx
 refine mg bb_7 R_7 [kP 19 (x) (y),kRes (w.heap.size) 19 (x) (y),lq] [[],[0],[]] [34,999,3] [] [] ?_ ?_
 ·
   refine aa rfl rfl (aw (hG:=(by simp only [List.mem_singleton]; omega)) f7_7 f7'_7 e7_7 rfl) ?_; refine aa rfl rfl (bd R_7 rfl e2_7 rfl rfl) ?_; refine p00 ?_; exact ae rfl
 intro W x_ a1 hC hall ha hN1 hD1 bb1
 obtain ⟨cs,hg,hP⟩:=me hall 1
 have e1:=ab (t:=2) ha e2_7
 have e2:=ln ha hall 3 2
 repeat first | apply lw | apply lx
 refine wp_ret ?_
 repeat (refine then_r ?_)
 exact bi (t:=2) (u:=3) rfl hD1 e1 e2 hg hP fun v hv=>⟨v,rfl,hv,bb1⟩
theorem parse_whole_no {w : World} {s A B t : ByteArray} {x y : Int} {okA okB : Bool} (hc : CutIs s A B false) (hs : s.size ≤ 1000000) (HM : Hid (∀ W, Below w.heap.size w W → MaxL W))
   (HA : Hid (∀ (W : World) {S0 : Nat} {x_ : Nat → Value},Calls Tryz.prog 82 #[.string A] W (Told (kZB 19 (x) okA) S0 x_ W))) (HB : Hid (∀ (W : World) {S0 : Nat} {x_ : Nat → Value},Calls Tryz.prog 82 #[.string (⟨#[49]⟩)] W (Told (kZB 19 (y) okB) S0 x_ W)))
   (HX : Hid (∀ (W : World) (v : Value),Below w.heap.size w W → Pr W v 19 (x) (y) → Calls Tryz.prog 24 #[v] W fun e w'=>e = .returned (.string (t)) ∧ Below W.heap.size W w')) (hne : ((t).toList == (s).toList) = false) :
   Calls Tryz.prog 40 #[.string s] w fun e w'=>∃ v,e = .returned (.tuple #[v,.bool false]) ∧ Pr w' v 9 (0) (1) ∧ Below w.heap.size w w':=by
 have hm0:=HM.out w (Below.refl _ _)
 have hcell:=hm0
 go_enter Tryz.func40,Tryz.ntmps40
 repeat apply wp_seq
 refine mf fun K HK=>?_
 go_wp2
 refine HK.out _ _ (then_n ?_)
 refine mb (G:=fun W=>Code.wp _ _ _ _ W) ?_
 intro W_0 bb_0 K0
 have R_0:=ge K0
 clear K0 hcell
 refine ly (G:=fun a=>Code.wp _ _ _ a _) 35 ?_
 intro a_0 ha hN_0 hD_0
 have e0_0 : a_0.eval (.tmp 0) = .string s:=ma ha
 have e2_0:=lu ha 2 w.heap.size
 repeat first | apply lw | apply lx
 refine lm bb_0 [kIs (.string s),kIs (.tuple #[.string A,.string B,.bool false]),kIs (.tuple #[.string A,.string B,.bool false]),kIs (.string A),kIs (.string B),lr,kIs (.string A),kIs (.string B),lr] [[],[0],[1],[2],[2],[2],[3],[4],[5]] [9,10,8,11,12,13,4,5,6] [] [] ?_ ?_
 ·
   refine p01 e0_0 ?_; refine aa rfl rfl (kw rfl rfl fun w x v1 hC h1=>ti (cut_told hc hs h1 (HM.out _ (bb_0.trans hC.below)))) ?_; refine p10 ?_; refine p10 ?_; refine p10 ?_; refine p10 ?_; refine p10 ?_; refine p10 ?_; refine p10 ?_; exact ae rfl
 intro W_1 x_ a_1 hC hall ha hN_1 hD_1 bb_1
 have e0_1:=ab ha e0_0
 have e2_1:=ab ha e2_0
 have R_1:=hC.holds R_0
 have e4_1:=ln ha hall 4 6
 have e5_1:=ln ha hall 5 7
 have e6_1:=ln ha hall 6 8
 repeat first | apply lw | apply lx
 refine lm bb_1 [lr,lq] [[],[0]] [14,15] [] [] ?_ ?_
 ·
   refine p01 e6_1 ?_; refine p10 ?_; exact ae rfl
 intro W_2 x_ a_2 hC hall ha hN_2 hD_2 bb_2
 have e0_2:=ab ha e0_1
 have e2_2:=ab ha e2_1
 have e4_2:=ab ha e4_1
 have R_2:=hC.holds R_1
 have e15_2:=ln ha hall 15 1
 refine wp_cond_true e15_2 ?_
 repeat first | apply lw | apply lx
 refine lm bb_2 [kIs (.string ⟨#[49]⟩)] [[]] [5] [] [] ?_ ?_
 ·
   refine p00 ?_; exact ae rfl
 intro W_3 x_ a_3 hC hall ha hN_3 hD_3 bb_3
 have e0_3:=ab ha e0_2
 have e2_3:=ab ha e2_2
 have e4_3:=ab ha e4_2
 have R_3:=hC.holds R_2
 have e5_3:=ln ha hall 5 0
 repeat first | apply lw | apply lx
 refine lm bb_3 [PK.fresh 4] [[]] [7] [] [] ?_ ?_
 · refine aa rfl rfl (bp rfl) ?_; exact ae rfl
 intro W_4 x_ a_4 hC hall ha hN_4 hD_4 bb_4
 have e0_4:=ab ha e0_3
 have e2_4:=ab ha e2_3
 have e4_4:=ab ha e4_3
 have e5_4:=ab ha e5_3
 have R_4:=hC.holds R_3
 obtain ⟨g7,cs,hx,hge,P_4,hsz⟩:=(show (PK.fresh 4).sem _ _ _ _ from hall 0 (of_decide_eq_true (by kernel_rfl)))
 obtain ⟨qa,qb,qc,qd,rfl⟩:=fl hsz
 have e7_4:=(ak (t:=7) (i:=0) ha).trans hx
 have d7:=Nat.lt_of_lt_of_le R_3.lt hge
 clear hall hC ha hx hge hsz
 repeat first | apply lw | apply lx
 refine ce w.heap.size g7 P_4 (by omega) 6 [6] [kIs (.string A),kZB 19 (x) okA,kZB 19 (x) okA,kZ 19 (x),kIs (.bool okA),kIs (.pointer (some ⟨g7,0,none⟩)),kLo g7 19 (x) qc qd] [ [],[(0,some 17)],[(1,some 18)],[(2,some 16)],[(2,some 16)],[],[(5,some 21),(3,some 19)] ] [(0,some 17),(1,some 18),(2,some 16),(3,some 19),(4,some 20),(5,some 21),(6,none)] [] [] rfl bb_4.size ?_ ?_
 ·
   refine ah rfl rfl (bq [] [(4,.string A)] (.string A) rfl (old1 e4_4)) ?_; refine ah rfl rfl (ac rfl rfl fun hC h1=>cf h1 (HA.out _)) ?_; refine ah rfl rfl (bg rfl rfl) ?_; refine ah rfl rfl (eq rfl rfl ext_z) ?_; refine ah rfl rfl (eq rfl rfl ext_ok) ?_; refine ah rfl rfl (bq [] [(7,.pointer (some ⟨g7,0,none⟩))] (.pointer (some ⟨g7,0,none⟩)) rfl (old1 e7_4)) ?_; refine bj rfl rfl rfl ?_ ?_
   · exact st_lo P_4 rfl rfl rfl
   exact cn rfl
 intro W_5 x_ hC hall
 refine then_n ?_
 obtain ⟨a_5,ha⟩ : ∃ a,a = putE x_ a_4 [(0,some 17),(1,some 18),(2,some 16),(3,some 19),(4,some 20),(5,some 21),(6,none)]:=⟨_,rfl⟩
 rw [← ha]
 have hN_5:=size_behind ha hN_4
 have hD_5:=defers_behind ha hD_4
 have bb_5:=bb_4.trans hC.below
 have e0_5:=ab ha e0_4
 have e2_5:=ab ha e2_4
 have e5_5:=ab ha e5_4
 have e7_5:=ab ha e7_4
 have R_5:=hC.holdsG (by simp only [List.mem_singleton]; omega) R_4
 obtain ⟨_,P_5,A5,l5,c5,rfl,Z_5⟩:=(show (kLo g7 19 (x) qc qd).sem _ _ _ _ from hall 6 (of_decide_eq_true (by kernel_rfl)))
 repeat first | apply lw | apply lx
 refine ce w.heap.size g7 P_5 (by omega) 6 [6] [kIs (.string ⟨#[49]⟩),kZB 19 (y) okB,kZB 19 (y) okB,kZ 19 (y),kIs (.bool okB),kIs (.pointer (some ⟨g7,2,none⟩)),kRes g7 19 (x) (y)] [ [],[(0,some 23)],[(1,some 24)],[(2,some 22)],[(2,some 22)],[],[(5,some 27),(3,some 25)] ] [(0,some 23),(1,some 24),(2,some 22),(3,some 25),(4,some 26),(5,some 27),(6,none)] [] [] rfl bb_5.size ?_ ?_
 ·
   refine ah rfl rfl (bq [] [(5,.string ⟨#[49]⟩)] (.string ⟨#[49]⟩) rfl (old1 e5_5)) ?_; refine ah rfl rfl (ac rfl rfl fun hC h1=>cf h1 (HB.out _)) ?_; refine ah rfl rfl (bg rfl rfl) ?_; refine ah rfl rfl (eq rfl rfl ext_z) ?_; refine ah rfl rfl (eq rfl rfl ext_ok) ?_; refine ah rfl rfl (bq [] [(7,.pointer (some ⟨g7,0,none⟩))] (.pointer (some ⟨g7,2,none⟩)) rfl (old1 e7_5)) ?_; refine bj rfl rfl rfl ?_ ?_
   · exact st_hi P_5 Z_5 rfl rfl rfl
   exact cn rfl
 intro W_6 x_ hC hall
 refine then_n ?_
 obtain ⟨a_6,ha⟩ : ∃ a,a = putE x_ a_5 [(0,some 23),(1,some 24),(2,some 22),(3,some 25),(4,some 26),(5,some 27),(6,none)]:=⟨_,rfl⟩
 rw [← ha]
 have hN_6:=size_behind ha hN_5
 have hD_6:=defers_behind ha hD_5
 have bb_6:=bb_5.trans hC.below
 have e0_6:=ab ha e0_5
 have e2_6:=ab ha e2_5
 have e7_6:=ab ha e7_5
 have R_6:=hC.holdsG (by simp only [List.mem_singleton]; omega) R_5
 obtain ⟨f7_6,f7'_6⟩:=dt (me hall 6)
 repeat first | apply lw | apply lx
 refine lm bb_6 [kP 19 (x) (y),kIs (.string (t)),kIs (.string s),lq] [[],[0],[],[1,2]] [28,29,30,31] [] [] ?_ ?_
 ·
   refine aa rfl rfl (aw f7_6 f7'_6 e7_6 rfl) ?_; refine aa rfl rfl (ac rfl rfl fun hC h1=>ti (HX.out _ _ (bb_6.trans hC.below) h1)) ?_; refine p01 e0_6 ?_; refine aa rfl rfl (ck [.string (t),.string s] [] (.bool (!((t).toList == (s).toList))) (.bool true) (congrArg Value.bool (by rw [hne]; rfl)) rfl old0) ?_; exact ae rfl
 intro W_7 x_ a_7 hC hall ha hN_7 hD_7 bb_7
 have e2_7:=ab ha e2_6
 have R_7:=hC.holds R_6
 have e31_7:=ln ha hall 31 3
 refine wp_cond_true e31_7 ?_
 repeat first | apply lw | apply lx
 refine mg bb_7 R_7 [kP 9 (0) (1),kP 9 (0) (1),kRes (w.heap.size) 9 (0) (1),lr] [[],[0],[1],[]] [32,33,999,3] [] [] ?_ ?_
 ·
   refine aa rfl rfl (aq [] rfl rfl fun hC=>tp jw) ?_; refine aa rfl rfl (dj rfl rfl) ?_; refine aa rfl rfl (bd R_7 rfl e2_7 rfl rfl) ?_; refine p00 ?_; exact ae rfl
 intro W x_ a1 hC hall ha hN1 hD1 bb1
 obtain ⟨cs,hg,hP⟩:=me hall 2
 have e1:=ab (t:=2) ha e2_7
 have e2:=ln ha hall 3 3
 repeat first | apply lw | apply lx
 refine wp_ret ?_
 repeat (refine then_r ?_)
 exact bi (t:=2) (u:=3) rfl hD1 e1 e2 hg hP fun v hv=>⟨v,rfl,hv,bb1⟩
def kPT (k : Nat) (x y : Int) (V : Value) : PK:=.p (fun v w=>∃ a,v = .tuple #[a,V] ∧ Pr w a k x y) (fun _ _ _ ⟨a,h1,h2⟩ hb=>⟨a,h1,h2.below hb⟩) (fun _ _ _ _ ⟨a,h1,h2⟩ hs=>⟨a,h1,h2.stored hs⟩)
theorem tpt {P : Program} {F : FuncId} {vs : Array Value} {w : World} {S0 : Nat} {x : Nat → Value} {k : Nat} {z1 z2 : Int} {V : Value} (h : Calls P F vs w fun e w'=>∃ v,e = .returned (.tuple #[v,V]) ∧ Pr w' v k z1 z2 ∧ Below w.heap.size w w') : Calls P F vs w (Told (kPT k z1 z2 V) S0 x w) :=
 h.mono fun _ _ ⟨v,e,h1,h2⟩=>⟨_,e,h2,v,rfl,h1⟩
theorem ext_p {S0 : Nat} {k : Nat} {z1 z2 : Int} {V : Value} : ∀ w x v,(kPT k z1 z2 V).sem S0 x v w → ∃ vs u,v = .tuple vs ∧ vs[0]? = some u ∧ (kP k z1 z2).move S0 x u w w ∧ (kP k z1 z2).sem S0 x u w:=fun _ _ _ ⟨a,h1,h2⟩=>⟨_,a,h1,rfl,Below.refl _ _,h2⟩
theorem ext_v {S0 : Nat} {k : Nat} {z1 z2 : Int} {V : Value} : ∀ w x v,(kPT k z1 z2 V).sem S0 x v w → ∃ vs u,v = .tuple vs ∧ vs[1]? = some u ∧ (kIs V).move S0 x u w w ∧ (kIs V).sem S0 x u w:=fun _ _ _ ⟨_,h1,_⟩=>⟨_,_,h1,rfl,Below.refl _ _,rfl⟩
theorem Text_9 {w : World} {v1 : Value} {a : Rat} (HT : Hid (Tab w ∧ 2 ≤ w.heap.size)) (h1 : Pr w v1 9 a.num (a.den : Int)) : Calls Tryz.prog 24 #[v1] w (fun e w'=>e = .returned (.string (textQ a)) ∧ Below w.heap.size w w'):=by
 by_cases h : a.den = 1
 · rw [gn h]; exact Text_9w HT h h1
 · rw [ff h]; exact Text_9b HT h h1
theorem Text_19 {w : World} {v1 : Value} {a : Rat} (HT : Hid (Tab w ∧ 2 ≤ w.heap.size)) (h1 : Pr w v1 19 a.num (a.den : Int)) : Calls Tryz.prog 24 #[v1] w (fun e w'=>e = .returned (.string (textQ a)) ∧ Below w.heap.size w w'):=by
 by_cases h : a.den = 1
 · rw [gn h]; exact Text_19w HT h h1
 · rw [ff h]; exact Text_19b HT h h1
theorem parse_z (z : Int) (hz : z.natAbs < 1000000000 ^ 19) (W : World) {S0 : Nat} {x : Nat → Value} : Calls Tryz.prog 82 #[.string (ztext z)] W (Told (kZB 19 z true) S0 x W):=parse_told 19 rfl hz (by decide)
theorem ztext_one : ztext 1 = ⟨#[49]⟩:=by decide +kernel
section
variable {G : List Nat} {S0 B : Nat} {ks : List PK} {a0 : Act} {i : Nat} {N : Nat} {W0 : World} {T : TypeId} {pos : String} {af : Array Edge} {gu : Option (Nat × Bool)}
theorem jx {d t g : Nat} {u v u' v' : Value} (hl : Holds_ W0 g #[u,v,u',v']) (hp : a0.eval (.tmp t) = .pointer (some ⟨g,0,none⟩))   (hi : at_ ks i = kIs (.agg #[u,v,u',v'])) (hN : a0.tmps.size = N:=by assumption) (hd : decide (d < N) = true:=by kernel_rfl) :
   PkStep Tryz.prog (Reg B W0 []) S0 ks a0 i { dst:=some d,op:=.load 26 (.tmp t),type:=T,pos:=pos,after:=af,guard:=gu } []:=by
 intro w x hC K hK
 obtain ⟨m1,m2,m3,m4,_,_,_,_⟩:=(hC.holds hl).four
 refine cb (v:=.agg #[u,v,u',v']) (w':=w) rfl hN hd ?_ (hK _ _ ?_ ?_)
 · exact ex_load hp (run_load4P m1 m2 m3 m4)
 · rw [hi]; exact Below.refl _ _
 · rw [hi]; rfl
end
def awQ : Rat:=Rat.divInt 6 (-4)
theorem awQ_num : awQ.num = -3:=by decide +kernel
theorem awQ_den : awQ.den = 2:=by decide +kernel
theorem awQ_text : (textQ awQ).toList = (⟨#[45,51,47,50]⟩ : ByteArray).toList:=by
 rw [ff (by rw [awQ_den]; decide),awQ_num,awQ_den]; decide +kernel
theorem ztext_six : ztext 6 = ⟨#[54]⟩:=by decide +kernel
theorem ztext_four : ztext 4 = ⟨#[52]⟩:=by decide +kernel
theorem parse_six {w : World} (HT : Hid (Tab w ∧ 2 ≤ w.heap.size)) (hm : MaxL w) :
   Calls Tryz.prog 40 #[.string ⟨#[54,47,52]⟩] w fun e w'=>∃ v,e = .returned (.tuple #[v,.bool false]) ∧ Pr w' v 9 0 1 ∧ Below w.heap.size w w':=by
 have HM : Hid (∀ W,Below w.heap.size w W → MaxL W):=Lib.hid fun W hW=>hm.below hW
 have hno : ¬ (0 < (4 : Int) ∧ ((zgcd [((6 : Int)),((4 : Int))] : Nat) : Int) = 1):=by decide
 have HX : Hid (∀ (W : World) (v : Value),Below w.heap.size w W → Pr W v 19 6 4 → Calls Tryz.prog 24 #[v] W fun e w'=>e = .returned (.string (ztext ((0 : Rat).num))) ∧ Below W.heap.size W w') :=
   Lib.hid fun W v hW hv=>Text_no_19 hno (Lib.hid ⟨HT.out.1.below hW HT.out.2,Nat.le_trans HT.out.2 hW.size⟩) hv
 have HA : Hid (∀ (W : World) {S0 : Nat} {x : Nat → Value},Calls Tryz.prog 82 #[.string ⟨#[54]⟩] W (Told (kZB 19 6 true) S0 x W)):=Lib.hid fun W {S0} {x}=>ztext_six ▸ parse_z 6 (by decide) W
 have HB : Hid (∀ (W : World) {S0 : Nat} {x : Nat → Value},Calls Tryz.prog 82 #[.string ⟨#[52]⟩] W (Told (kZB 19 4 true) S0 x W)):=Lib.hid fun W {S0} {x}=>ztext_four ▸ parse_z 4 (by decide) W
 exact parse_cut_no (s:=⟨#[54,47,52]⟩) (A:=⟨#[54]⟩) (B:=⟨#[52]⟩) ⟨[54],[52],by decide +kernel,rfl,rfl⟩ (by decide) HM HA HB HX (by decide +kernel)
theorem bytes_inj {x y : ByteArray} (h : x.toList = y.toList) : x = y:=by
 rw [ByteArray.toList_eq,ByteArray.toList_eq] at h
 cases x; cases y
 simp at h
 rw [h]
theorem awQ_floor : zq awQ.num (awQ.den : Int) = -2:=by rw [awQ_num,awQ_den]; decide +kernel
theorem told_of6 {w : World} {v1 v2 : Value} (h1 : Zr w v1 1 (6 : Int)) (h2 : Zr w v2 1 (-4 : Int)) : Calls Tryz.prog 11 #[v1,v2] w (fun e w'=>∃ v,e = .returned (.tuple #[v,.int .i64 (0)]) ∧ Pr w' v 9 (awQ.num) ((awQ.den : Int)) ∧ Below w.heap.size w w'):=Of_9 (by decide) (h1.mono (by decide)) (h2.mono (by decide))
theorem awake3_any {w : World} (HT : Hid (Tab w ∧ 2 ≤ w.heap.size)) (hm : MaxL w) : Calls Tryz.prog 6 #[] w fun e w'=>e = .returned (.bool true) ∧ Below w.heap.size w w':=by
 have HM:=Lib.hid hm
 clear hm
 go_enter Tryz.func6,Tryz.ntmps6
 repeat apply wp_seq
 refine mf fun K HK=>?_
 go_wp2
 refine HK.out _ _ (then_n ?_)
 have bb_0 : Below w.heap.size w w:=Below.refl _ _
 refine ly (G:=fun a=>Code.wp _ _ _ a _) 33 ?_
 intro a_0 ha hN_0 hD_0
 repeat first | apply lw | apply lx
 refine lm bb_0 [kZ 1 ((6 : Int)),kZ 1 ((-4 : Int)),kPT 9 (awQ.num) ((awQ.den : Int)) (.int .i64 (0)),kPT 9 (awQ.num) ((awQ.den : Int)) (.int .i64 (0)),kP 9 (awQ.num) ((awQ.den : Int)),kIs (.int .i64 (0)),PK.fresh 4,kPutP 6 9 (awQ.num) ((awQ.den : Int)),kIs (.int .i64 (0))] [[],[],[0,1],[2],[3],[3],[],[6,4],[5]] [6,7,8,5,9,10,1,999,2] [] [] ?_ ?_
 ·
   refine aa rfl rfl (aq [.int .i64 (6)] rfl rfl fun hC=>tz (z_of (6) 1 (by decide) (by decide) (by decide))) ?_; refine aa rfl rfl (aq [Value.int IntKind.i64 (-4)] rfl rfl fun hC=>tz (z_of (-4) 1 (by decide) (by decide) (by decide))) ?_; refine aa rfl rfl (ai rfl rfl rfl fun hC h1 h2=>tpt (told_of6 (rr h1) (rr h2))) ?_; refine aa rfl rfl (bg rfl rfl) ?_; refine ap ext_p ?_; refine ap ext_v ?_; refine aa rfl rfl (bp rfl) ?_; refine aa rfl rfl (du rfl rfl rfl) ?_; refine p10 ?_; exact ae rfl
 intro W_1 x a_1 hC hall ha hN_1 hD_1 bb_1
 obtain ⟨g1,hx,hge,p1_1,p1'_1⟩:=di (me hall 7)
 have e1_1:=(ak (t:=1) (i:=6) ha).trans hx
 clear hx hge
 have e2_1:=ln ha hall 2 8
 repeat first | apply lw | apply lx
 refine lm bb_1 [kPT 9 ((0 : Rat).num) (((0 : Rat).den : Int)) (.bool false),kPT 9 ((0 : Rat).num) (((0 : Rat).den : Int)) (.bool false),kP 9 ((0 : Rat).num) (((0 : Rat).den : Int)),lr,PK.fresh 4,kPutP 4 9 ((0 : Rat).num) (((0 : Rat).den : Int)),lr] [[],[0],[1],[1],[],[4,2],[3]] [12,11,13,14,3,999,4] [] [] ?_ ?_
 ·
   refine aa rfl rfl (aq [Value.string { data:=#[54,47,52] }] rfl rfl fun hC=>tpt (parse_six (Lib.hid ⟨HT.out.1.below (bb_1.trans hC.below) HT.out.2,Nat.le_trans HT.out.2 (bb_1.trans hC.below).size⟩) (HM.out.below (bb_1.trans hC.below)))) ?_; refine aa rfl rfl (bg rfl rfl) ?_; refine ap ext_p ?_; refine ap ext_v ?_; refine aa rfl rfl (bp rfl) ?_; refine aa rfl rfl (du rfl rfl rfl) ?_; refine p10 ?_; exact ae rfl
 intro W_2 x a_2 hC hall ha hN_2 hD_2 bb_2
 have e1_2:=ab ha e1_1
 have e2_2:=ab ha e2_1
 have p1_2:=hC.at0 p1_1
 have p1'_2:=hC.at0 p1'_1
 obtain ⟨g3,hx,hge,p3_2,p3'_2⟩:=di (me hall 5)
 have e3_2:=(ak (t:=3) (i:=4) ha).trans hx
 clear hx hge
 have e4_2:=ln ha hall 4 6
 repeat first | apply lw | apply lx
 refine lm bb_2 [kIs (.int .i64 (0)),lq,lq,kP 9 (awQ.num) ((awQ.den : Int)),kIs (.string (textQ awQ)),lq,lq,lq,kP 9 (awQ.num) ((awQ.den : Int)),kZ 10 (zq (awQ.num) ((awQ.den : Int))),kZ 1 ((-2 : Int)),kIs (.int .i64 (0)),lq,lq,lq,lr,lq,lq,lq] [[],[0],[1],[],[3],[4],[2,5],[6],[],[8],[],[9,10],[11],[7,12],[13],[],[15],[14,16],[17]] [15,16,17,18,19,20,21,22,23,24,25,26,27,28,29,30,31,32,0] [(2,true),(7,true),(14,true)] [] ?_ ?_
 ·
   refine p01 e2_2 ?_; refine p10 ?_; refine p10 ?_; refine aa rfl rfl (aw p1_2 p1'_2 e1_2 rfl) ?_; refine aa rfl rfl (ac rfl rfl fun hC h1=>ti (Text_9 (Lib.hid ⟨HT.out.1.below (bb_2.trans hC.below) HT.out.2,Nat.le_trans HT.out.2 (bb_2.trans hC.below).size⟩) (pm h1))) ?_; refine aa rfl rfl (ck [.string (textQ awQ)] [] (.bool ((textQ awQ).toList == (⟨#[45,51,47,50]⟩ : ByteArray).toList)) (.bool true) (congrArg Value.bool (beq_iff_eq.2 awQ_text)) rfl old0) ?_; refine p20 ?_; refine p10 ?_; refine aa rfl rfl (aw p1_2 p1'_2 e1_2 rfl) ?_; refine aa rfl rfl (ac rfl rfl fun hC h1=>tz (Floor_9 (pm h1))) ?_; refine aa rfl rfl (aq [Value.int IntKind.i64 (-2)] rfl rfl fun hC=>tz (z_of (-2) 1 (by decide) (by decide) (by decide))) ?_; refine aa rfl rfl (ai rfl rfl rfl fun hC h1 h2=>ti (cmp_is (ord_eq awQ_floor) (z_cmp (rz h1) (rz h2) (by decide) (by decide)))) ?_; refine p10 ?_; refine p20 ?_; refine p10 ?_; refine p01 e4_2 ?_; refine p10 ?_; refine p20 ?_; refine p10 ?_; exact ae rfl
 intro W_3 x a_3 hC hall ha hN_3 hD_3 bb_3
 have e0_3:=ln ha hall 0 18
 repeat first | apply lw | apply lx
 refine wp_ret ?_
 repeat (refine then_r ?_)
 exact bc (t:=0) rfl hD_3 e0_3 ⟨rfl,bb_3⟩
theorem add_at8 (g k : Nat) : (⟨g,0,none⟩ : Addr).add k = ⟨g,k,none⟩:=by
 unfold Addr.add; split
 · rename_i h; subst h; rfl
 · simp
theorem dunique : ∀ {xs ys : List Nat}, dright xs → dright ys → dval xs = dval ys → xs = ys
 | [],ys,_,hy,h=>by
   have:=fe hy (k:=0) (by rw [← h]; decide); exact (List.eq_nil_of_length_eq_zero (by omega)).symm
 | x :: xs,[],hx,_,h=>by
   have:=fe hx (k:=0) (by rw [h]; decide); simp at this
 | x :: xs,y :: ys,hx,hy,h=>by
   have tl : ∀ {a : Nat} {us : List Nat},dright (a :: us) → dright us:=fun {a us} h=>by
     refine ⟨fun d hd=>h.1 d (List.mem_cons_of_mem _ hd),?_⟩; rcases h.2 with h1 | h1
     · cases h1
     · cases us with
       | nil=>exact .inl rfl
       | cons b bs=>rw [List.getLast?_cons_cons] at h1; exact .inr h1
   have h1:=hx.1 x (List.mem_cons_self ..); have h2:=hy.1 y (List.mem_cons_self ..); simp only [dval] at h; have e1 : x = y:=by omega
   have e2 : dval xs = dval ys:=by omega
   rw [e1,dunique (tl hx) (tl hy) e2]
theorem dgl_dright {n : Nat} (hn : 0 < n) : dright (dgl (Lib.decDigits n)):=by
 refine ⟨fun d hd=>?_,.inr ?_⟩
 · simp only [dgl,List.mem_reverse,List.mem_map] at hd; obtain ⟨a,⟨b,hb,rfl⟩,rfl⟩:=hd; have:=decDigits_digs n b hb; omega
 · have h1:=decDigits_head n hn; have h2:=gz n; rw [dgl,List.getLast?_reverse]
   cases hl : Lib.decDigits n with
   | nil=>rw [hl] at h2; simp at h2
   | cons b bs =>
     rw [hl] at h1; have h3:=decDigits_digs n b (by rw [hl]; exact List.mem_cons_self ..); simp at h1 ⊢; omega
theorem digits_text {ds : List Nat} {n : Nat} (h : dright ds) (hv : dval ds = n) (hn : 0 < n) : ds.reverse.map (fun d=>UInt8.ofNat (48 + d)) = Lib.decDigits n:=by
 have e : ds = dgl (Lib.decDigits n):=dunique h (dgl_dright hn) (by rw [hv,kn])
 rw [e,dgl,List.reverse_reverse,List.map_map,List.map_map]
 have : ∀ b ∈ Lib.decDigits n,UInt8.ofNat (48 + (b.toNat - 48)) = b:=fun b hb=>by
   have h1:=decDigits_digs n b hb; rw [show 48 + (b.toNat - 48) = b.toNat from by omega,UInt8.ofNat_toNat]
 rw [List.map_congr_left (g:=id) (fun b hb=>by simpa using this b hb),List.map_id]
theorem refText {w : World} {A : Option Addr} {c k : Nat} {xs : List Nat} (hr : Row w A (u32s xs)) (hd : small 4294967296 xs) (hlen : xs.length ≤ 1000) (hk : val xs < 1000000000 ^ k) (hk2 : k ≤ 2000) :
   Calls Tryz.prog 105 #[.slice A xs.length c] w fun e w'=>e = .returned (.string (dtext (val xs))) ∧ Below w.heap.size w w':=by
 obtain ⟨i0,hi,hz0,hz1,hz2⟩:=info_parts jd
 have hrd:=refRead (c:=c) hr hd hlen
 have HRD:=Lib.hid hrd
 have HK:=Lib.hid hk
 clear hrd hk
 rcases Nat.eq_zero_or_pos (val xs) with hz | hpos
 · have HZ:=Lib.hid hz; clear hz
   go_enter Tryz.func105,Tryz.ntmps105
   go_wp2_with fail
   refine HRD.out.mono ?_; rintro e w1 ⟨A1,c1,ds,rfl,h1,_,h3,h4,h5⟩
   obtain rfl : ds = []:=by
     have:=fe h3 (k:=0) (by rw [h4,HZ.out]; decide); exact List.eq_nil_of_length_eq_zero (by omega)
   clear h3 h4
   go_wp2
   go_ret
   refine ⟨?_,h5⟩; rw [HZ.out,dtext,bn (by decide)]; rfl
 · have HP:=Lib.hid hpos; clear hpos
   go_enter Tryz.func105,Tryz.ntmps105
   go_wp2_with fail
   refine HRD.out.mono ?_; rintro e w1 ⟨A1,c1,ds,rfl,h1,_,h3,h4,h5⟩; have hl:=gh h3 h4 HK.out
   have hne : ((ds.length : Int) == 0) = false:=by
     rw [beq_eq_false_iff_ne]; intro h; have h6 : ds = []:=List.eq_nil_of_length_eq_zero (by omega); have h7:=HP.out; rw [← h4,h6] at h7; simp [dval] at h7
   obtain ⟨n,hn⟩ : ∃ n,n = ds.length:=⟨_,rfl⟩
   have hn1 : n ≤ 18000:=by omega
   have hn0 : 0 < n:=by
     rcases Nat.eq_zero_or_pos n with h | h
     · rw [← hn,h] at hne; simp at hne
     · exact h
   rw [← hn] at hne ⊢; have HN:=Lib.hid hn; have HD4:=Lib.hid h4; have hs1:=h5.size; clear hn h4 hl
   go_wp2_with (at_make; refine wpList_make_full _ rfl _ _ 117 rfl w1.heap.size 5 i0 (.int .u8 0) 1 Tryz.underlying117 hi hz0 hz1 .i64 .i64 (n : Int) (n : Int) n rfl rfl rfl rfl ?b2 ?b3 ?b4 ?_)
   case b2=>first | omega | (rw [hz2]; omega)
   case b3=>unfold maxLen; omega
   case b4=>exact Nat.le_refl _
   intro w2 hown hgrow; have ho2:=gm hown; have hb2 : Below w1.heap.size w1 w2:=(Below.refl _ _).grown hgrow (Nat.le_refl _) (fun k h=>by cases h)
   obtain ⟨g,hg⟩ : ∃ g,g = w1.heap.size:=⟨_,rfl⟩
   rw [← hg] at ho2 ⊢; have HG:=Lib.hid hg; have h1':=h1.below hb2; have h1w:=h1; clear hown hgrow hne hg
   go_wp2_with fail
   go_loopw [5] (fun iv wr=>∃ (k : Nat) (bs : List Nat),k ≤ n ∧ iv = .int .i64 (k : Int) ∧ Own wr g 5 (.slice (some ⟨g,0,none⟩) n n) (u8s bs) ∧ Hid (bs.length = n ∧ ∀ j,j < k → bs.getD (n - 1 - j) 0 = 48 + ds.getD j 0) ∧ Below g w1 wr) (fun iv _=>n - (intOf iv).toNat)
   case atStart=>exact ⟨0,List.replicate n 0,Nat.zero_le _,rfl,ho2,⟨by simp,fun j hj=>by omega⟩,HG.out ▸ hb2⟩
   case round =>
     obtain ⟨k,bs,hk,rfl,hob,HO,hb⟩:=hrel; have hbw : Below w1.heap.size w1 wr:=HG.out ▸ hb
     by_cases hlt : k < n
     · obtain ⟨ad,x,rfl,hcx,hxe,hxm⟩:=(h1w.below hbw).byte (k:=k) (by rw [← HN.out]; exact hlt); have hx10:=h3.1 x hxm
       obtain ⟨q,hq⟩ : ∃ q : Nat,q = n - 1 - k:=⟨_,rfl⟩
       have hqi : (n : Int) - 1 - (k : Int) = (q : Int):=by omega
       have hqn : q < n:=by omega
       obtain ⟨hqc,hqf⟩:=own_cell hob (k:=q) (by rw [av,HO.out.1]; exact hqn); have hset:=jm hob q (48 + x); have HSET:=Lib.hid hset; have HQ:=Lib.hid hq; clear hset hxm hq
       go_wp2
       go_roundw
       case rel=>exact ⟨k + 1,bs.set q (48 + x),by omega,by go_num,HSET.out,⟨by rw [List.length_set]; exact HO.out.1,fun j hj=>by
         rcases Nat.lt_or_ge j k with h | h
         · rw [ef (48 + x) (by have:=HQ.out; omega)]; exact HO.out.2 j h
         · obtain rfl : j = k:=by omega
           rw [← HQ.out,hxe.out,List.getD_eq_getElem?_getD,List.getElem?_set_self (by rw [HO.out.1]; exact hqn)]; rfl⟩,hb.setCell (Nat.le_refl _) _⟩
       case measure=>simp [intOf]; omega
     · obtain rfl : k = n:=by omega
       have hdt:=digits_text h3 HD4.out HP.out; have hll : (Lib.decDigits (val xs)).length = k:=by rw [← hdt,List.length_map,List.length_reverse,← HN.out]
       have hcv:=run_convert_bytes_back (P:=Tryz.prog) wr 117 9 5 ⟨g,0,none⟩ k (Lib.decDigits (val xs)) Tryz.underlying117 Tryz.underlying5 Tryz.underlying9 (fun j hj=>by
         have hjk : j < k:=by rw [← hll]; exact hj
         have h7:=(own_cell hob (k:=j) (by rw [av,HO.out.1]; exact hjk)).1; have h8:=HO.out.2 (k - 1 - j) (by omega); rw [show k - 1 - (k - 1 - j) = j from by omega] at h8; have h9 : ds.getD (k - 1 - j) 0 < 10:=bl h3.1 (by decide) _; rw [add_at8,h7]; simp only [u8s,List.getElem_map]
         have h10 : bs[j]'(by rw [HO.out.1]; exact hjk) = 48 + ds.getD (k - 1 - j) 0:=by
           rw [← h8,List.getD_eq_getElem?_getD,List.getElem?_eq_getElem (by rw [HO.out.1]; exact hjk)]; rfl
         have h11 : (Lib.decDigits (val xs))[j] = UInt8.ofNat (48 + ds.getD (k - 1 - j) 0):=by
           have h12 : (Lib.decDigits (val xs))[j]? = some (UInt8.ofNat (48 + ds.getD (k - 1 - j) 0)):=by
             rw [← hdt,List.getElem?_map,List.getElem?_reverse (by rw [← HN.out]; exact hjk),← HN.out,List.getElem?_eq_getElem (by rw [← HN.out]; omega),List.getD_eq_getElem?_getD,List.getElem?_eq_getElem (by rw [← HN.out]; omega)]; rfl
           rw [List.getElem?_eq_getElem hj] at h12; injection h12
         rw [h10,h11,gl h9])
       rw [hll] at hcv; have HLL:=Lib.hid hll; have HDT:=Lib.hid hdt; clear hll hdt
       go_wp2
       go_ret
       exact ⟨rfl,bstep h5 hbw⟩
def Zc (W : World) (v : Value) (k : Nat) (z : Int) : Prop:=∃ (b : Bool) (A : Option Addr) (c : Nat) (xs : List Nat),v = .agg #[.bool b,.slice A xs.length c] ∧ Row W A (u32s xs) ∧ small 4294967296 xs ∧ xs.length ≤ 1000 ∧ val xs < 1000000000 ^ k ∧ zOf (val xs) b = z
theorem Zc.below {W w' : World} {v : Value} {k : Nat} {z : Int} (h : Zc W v k z) (hb : Below W.heap.size W w') : Zc w' v k z:=by
 obtain ⟨b,A,c,xs,h1,h2,h3⟩:=h
 exact ⟨b,A,c,xs,h1,h2.below hb,h3⟩
theorem zOf_natAbs (z : Int) : zOf z.natAbs (decide (z < 0)) = z:=by
 unfold zOf
 by_cases h : z < 0
 · rw [decide_eq_true h,if_pos rfl]; omega
 · rw [decide_eq_false h,if_neg (by decide)]; omega
theorem Zr.zc {W : World} {v : Value} {k : Nat} {z : Int} (h : Zr W v k z) (hk : k ≤ 1000) : Zc W v k z:=by
 obtain ⟨A,l,c,rfl,h1,h2⟩:=h
 obtain ⟨xs,rfl,hr,hx,hv,hl⟩:=gb h1 h2
 exact ⟨_,A,c,xs,rfl,hr,fun d hd=>Nat.lt_trans (hx.1 d hd) (by decide),Nat.le_trans hl hk,by rw [hv]; exact h2,by rw [hv,zOf_natAbs]⟩
theorem r2_norm {w : World} {v : Value} {k : Nat} {z : Int} (h : Zc w v k z) (hk : k ≤ 2000) : Calls Tryz.prog 91 #[v] w (TellsZ w k z):=by
 obtain ⟨b,A,c,xs,rfl,hr,hs,hl,hv,rfl⟩:=h
 have hof:=fun (W : World) (hW : Below w.heap.size w W)=>ref2of_any (c:=c) b (hr.below hW) hs hl hv hk
 have HOF:=Lib.hid hof
 obtain ⟨n,hn⟩ : ∃ n,n = xs.length:=⟨_,rfl⟩
 obtain ⟨m,hm⟩ : ∃ m,m = val xs:=⟨_,rfl⟩
 rw [← hn] at HOF ⊢
 rw [← hm] at HOF ⊢
 have HM:=Lib.hid (show m < 1000000000 ^ k from hm ▸ hv)
 have hfin : ∀ (e : Ending) (w' : World),RetInt w m (sgn m b) e w' → TellsZ w k (zOf m b) e w':=fun e w' h=>fk (by rw [bk]; exact HM.out) (by rw [bk,fc]; exact h)
 have HFIN:=Lib.hid hfin
 clear hof hr hs hl hv hn hm hfin
 refine Calls.mono ?_ HFIN.out
 obtain ⟨s,hs⟩ : ∃ s,s = sgn m b:=⟨_,rfl⟩
 rw [← hs] at HOF ⊢
 clear hs HFIN HM
 go_enter Tryz.func91,Tryz.ntmps91
 go_wp2_with fail
 refine (HOF.out _ (bal (bal (Below.refl _ _) _) _)).mono ?_
 rintro e w1 ⟨A1,k1,c1,rfl,h1,h2,hb⟩
 have K1:=(hb.block (w.heap.size + 1) (by simp)).trans (new_at (by simp))
 obtain ⟨m1,m2,m3,m4⟩:=cell_of_two K1
 have hb1:=bstep (bal (bal (Below.refl w.heap.size w) _) _) hb
 have hts:=fun (b' : Bool)=>ch (a':=.bool b') (b':=.slice A1 k1 c1) K1 (fun d h=>by cases h) (fun d h=>by cases h) h1
 have HTS:=Lib.hid hts
 have H2:=Lib.hid h2
 clear hts hb h1 h2 K1
 go_wp2
 obtain ⟨n1,n2,n3⟩:=HTS.out s
 refine bodyPost_ret (v:=.agg #[.bool s,.slice A1 k1 c1]) (by simp [results,Tryz.results91,go_sem,n1,n2]) rfl ?_
 exact ⟨A1,k1,c1,rfl,n3,H2.out,(hb1.setCell (by simp) _).setCell (by simp) _⟩
theorem r2_right {w : World} {v : Value} {k : Nat} {z : Int} (h : Zr w v k z) : Calls Tryz.prog 52 #[v] w fun e w'=>e = .returned (.bool true) ∧ Below w.heap.size w w':=by
 obtain ⟨A,l,c,rfl,h1,h2⟩:=h
 obtain ⟨hlen,_⟩:=rr_len h1
 obtain ⟨xs,rfl,hr,hx,hv,hl⟩:=gb h1 h2
 have hrt:=fun (W : World) (hW : Below w.heap.size w W)=>(refRight (c:=c) (hr.below hW) (fun d hd=>Nat.lt_trans (hx.1 d hd) (by decide)) (by omega)).mono fun e w' h=>(show e = .returned (.bool true) ∧ W = w' from ⟨h.1.elim (fun a=>a.2) (fun a=>absurd hx a.1),h.2⟩)
 have HRT:=Lib.hid hrt
 obtain ⟨n,hn⟩ : ∃ n,n = xs.length:=⟨_,rfl⟩
 rw [← hn] at HRT ⊢
 obtain ⟨s,hs⟩ : ∃ s,s = decide (z < 0):=⟨_,rfl⟩
 rw [← hs]
 have hpos : s = true → decide ((0 : Int) < (n : Int)) = true:=fun e=>decide_eq_true (by
   rw [hs,decide_eq_true_eq] at e; have : xs.length ≠ 0:=fun h0=>by have:=hlen.1 h0; omega
   omega)
 have HPOS:=Lib.hid hpos
 clear hrt hr hx hv hl hn hs hlen h1 h2 hpos
 cases s
 · clear HPOS
   go_enter Tryz.func52,Tryz.ntmps52
   go_wp2_with fail
   refine (HRT.out _ (bal (Below.refl _ _) _)).mono ?_; rintro e w1 ⟨rfl,rfl⟩
   go_wp2
   go_ret
   exact ⟨rfl,bal (Below.refl _ _) _⟩
 · have hp:=HPOS.out rfl; clear HPOS
   go_enter Tryz.func52,Tryz.ntmps52
   go_wp2_with fail
   refine (HRT.out _ (bal (Below.refl _ _) _)).mono ?_; rintro e w1 ⟨rfl,rfl⟩
   go_wp2
   go_ret
   exact ⟨by have h0 : 0 < n := by simpa using hp
             simp [h0],bal (Below.refl _ _) _⟩
theorem vr_div {w : World} {A1 A2 : Option Addr} {k1 c1 k2 c2 n1 n2 N : Nat} (h1 : Rr w (.slice A1 k1 c1) n1) (h2 : Rr w (.slice A2 k2 c2) n2) (hn1 : n1 < 1000000000 ^ N) (hn2 : n2 < 1000000000 ^ N) (hN : N ≤ 1000) (h0 : 0 < n2) :
   Calls Tryz.prog 96 #[.slice A1 k1 c1,.slice A2 k2 c2] w (RetD w (n1 / n2) (n1 % n2)):=by
 obtain ⟨xs,rfl,r1,x1,rfl,l1⟩:=gb h1 hn1
 obtain ⟨ys,rfl,r2,x2,rfl,l2⟩:=gb h2 hn2
 exact refDiv_yes r1 r2 (fun d hd=>Nat.lt_trans (x1.1 d hd) (by decide)) (fun d hd=>Nat.lt_trans (x2.1 d hd) (by decide)) (by omega) (by omega) hn1 hn2 (by omega) h0
def IntsC (W : World) (g : Nat) (L : List (Nat × Bool)) : Prop:=∀ j p,L[j]? = some p → ∃ A c xs,W.cell? ⟨g,j * 2,none⟩ = some (.bool p.2) ∧ W.cell? ⟨g,j * 2 + 1,none⟩ = some (.slice A (List.length xs) c) ∧ Row W A (u32s xs) ∧ small 4294967296 xs ∧ xs.length ≤ 1000 ∧ val xs = p.1
theorem IntsC.below {W w' : World} {g : Nat} {L : List (Nat × Bool)} (h : IntsC W g L) (hb : Below W.heap.size W w') : IntsC w' g L:=fun j p hp=>by
 obtain ⟨A,c,xs,h1,h2,h3,h4⟩:=h j p hp
 exact ⟨A,c,xs,(hb.cell (cell_lt h1)).trans h1,(hb.cell (cell_lt h2)).trans h2,h3.below hb,h4⟩
theorem ref2Gcd_any {w : World} {g0 c0 N : Nat} {L : List (Nat × Bool)} (hL : IntsC w g0 L) (hLn : ∀ p ∈ L,p.1 < 1000000000 ^ N) (hN : N ≤ 1000) (hlen : L.length ≤ 100000) :
   Calls Tryz.prog 57 #[.slice (some ⟨g0,0,none⟩) L.length c0] w (RetInt w (gcds L 0) false):=by
 have HL:=Lib.hid hL
 have h0 : 0 < 1000000000 ^ N:=Nat.pow_pos (by decide)
 have HB:=Lib.hid (show (∀ p ∈ L,p.1 < 1000000000 ^ N) ∧ N ≤ 1000 ∧ 0 < 1000000000 ^ N from ⟨hLn,hN,h0⟩)
 obtain ⟨l,hl⟩ : ∃ l,l = L.length:=⟨_,rfl⟩
 rw [← hl] at hlen ⊢
 have HLL:=Lib.hid hl
 obtain ⟨G,hG⟩ : ∃ G,G = gcds L 0:=⟨_,rfl⟩
 rw [← hG]
 have HG:=Lib.hid hG
 clear hL hLn hN h0 hl hG
 go_enter Tryz.func57,Tryz.ntmps57
 go_wp2_with fail
 go_loopw [3,4] (fun gv iv wr=>∃ (k' : Nat) (A' : Option Addr) (j d : Nat),k' ≤ l ∧ iv = .int .i64 k' ∧ gv = .slice A' j d ∧ Hid (Rr wr (.slice A' j d) (gcds (L.take k') 0)) ∧ Below w.heap.size w wr ∧ Hid (wr.heap[w.heap.size]? = some (Obj.cells #[Value.bool false,Value.slice none 0 0] 24 (0,0)))) (fun _ iv _=>l - (intOf iv).toNat)
 case atStart=>exact ⟨0,none,0,0,Nat.zero_le _,rfl,rfl,rr_nil _,bal (Below.refl _ _) _,new_at rfl⟩
 case round =>
   obtain ⟨k',A',j,d,hk,rfl,rfl,HR1,hb1,HK1⟩:=hrel
   by_cases hlt2 : k' < l
   · have hkL : k' < L.length:=by rw [← HLL.out]; exact hlt2
     obtain ⟨⟨n1,b1⟩,hp⟩ : ∃ p,p = L[k']:=⟨_,rfl⟩
     obtain ⟨B,e,xs,hc1,hc2,hr,hs,hx,hv⟩:=(HL.out.below hb1) k' (n1,b1) (by rw [List.getElem?_eq_getElem hkL,hp]); have hv : val xs = n1:=hv; have hGS:=gcds_succ (n:=0) hkL; rw [← hp] at hGS; have HGS:=Lib.hid hGS; have HN1:=Lib.hid (HB.out.1 _ (hp ▸ List.getElem_mem hkL : (n1,b1) ∈ L)); have htr:=refTrim (c:=e) hr hs hx (k:=N) (by rw [hv]; exact HN1.out) (by have:=HB.out.2.1; omega); rw [hv] at htr
     obtain ⟨m,hm⟩ : ∃ m,m = xs.length:=⟨_,rfl⟩
     rw [← hm] at hc2 htr; have HTR:=Lib.hid htr; have hltg:=gcds_lt (L:=L.take k') HB.out.2.2 fun p hp=>HB.out.1 p (List.mem_of_mem_take hp); have HLG:=Lib.hid hltg; clear hr hs hx hv hm htr hGS hp hc1 hltg
     go_wp2_with fail
     refine HTR.out.mono ?_; rintro e w2 ⟨A3,k3,c3,rfl,hr3,hb3⟩; have hb3:=bstep hb1 hb3; have HR1:=Lib.hid (HR1.out.below (show Below wr.heap.size wr w2 by assumption)); have HK1:=Lib.hid (((show Below wr.heap.size wr w2 by assumption).block w.heap.size (lt_block HK1.out)).trans HK1.out); have HR3:=Lib.hid hr3
     go_wp2_with fail
     go_loopw [3,5] (fun gv xv wr=>∃ (A : Option Addr) (k c : Nat) (B : Option Addr) (j d a b : Nat),gv = .slice A k c ∧ xv = .slice B j d ∧ Hid (Rr wr (.slice A k c) a) ∧ Hid (Rr wr (.slice B j d) b) ∧ Hid (Nat.gcd a b = gcds (L.take (k' + 1)) 0 ∧ a < 1000000000 ^ N ∧ b < 1000000000 ^ N) ∧ Below w.heap.size w wr ∧ Hid (wr.heap[w.heap.size]? = some (Obj.cells #[Value.bool false,Value.slice none 0 0] 24 (0,0)))) (fun _ xv wr=>valOf wr xv)
     case atStart=>exact ⟨_,_,_,_,_,_,_,n1,rfl,rfl,HR1,HR3,⟨by rw [HGS.out,Nat.gcd_comm],HLG.out,HN1.out⟩,hb3,HK1⟩
     case round =>
       obtain ⟨A,k,c,B,j,d,a,b,rfl,rfl,HA,HBB,HGC,hb,HK⟩:=hrel; have hj:=(rr_len HBB.out).1
       by_cases h0 : b = 0
       · obtain rfl : j = 0:=hj.2 h0; have hG : a = gcds (L.take (k' + 1)) 0:=by rw [← HGC.out.1,h0,Nat.gcd_zero_right]
         have HGG:=Lib.hid hG; clear hj h0 hG
         go_wp2_with fail
         go_roundw
         case rel=>exact ⟨k' + 1,_,_,_,by omega,by go_num,rfl,by show Rr _ _ _; rw [← HGG.out]; exact HA.out,hb,HK⟩
         case measure=>simp [intOf]; omega
       · have hk0 : 0 < j:=by have : j ≠ 0:=fun e=>h0 (hj.1 e); omega
         have hdv:=vr_div HA.out HBB.out HGC.out.2.1 HGC.out.2.2 HB.out.2.1 (by omega); have HDV:=Lib.hid hdv; have H0:=Lib.hid h0; clear hj h0 hdv
         go_wp2_with fail
         refine HDV.out.mono ?_; rintro e w3 ⟨Aq,kq,cq,Ar,kr,cr,rfl,_,hrr,hb4⟩; have HK4:=Lib.hid ((hb4.block w.heap.size (lt_block HK.out)).trans HK.out); have HBB2:=Lib.hid (HBB.out.below hb4); have HR:=Lib.hid hrr; have hb5:=bstep hb hb4; clear hb4 hrr HDV
         go_wp2_with fail
         go_roundw
         case rel =>
           refine ⟨_,_,_,_,_,_,b,a % b,rfl,rfl,HBB2,HR,⟨?_,HGC.out.2.2,?_⟩,hb5,HK4⟩
           · rw [← HGC.out.1,Nat.gcd_comm a b,Nat.gcd_rec b a,Nat.gcd_comm]
           · exact Nat.lt_of_lt_of_le (Nat.mod_lt _ (Nat.pos_of_ne_zero H0.out)) (Nat.le_of_lt HGC.out.2.2)
         case measure =>
           rw [kp HBB.out,kp HR.out]; exact Nat.mod_lt _ (Nat.pos_of_ne_zero H0.out)
   · have hk' : k' = l:=by omega
     obtain ⟨ys,rfl,r1,x1,v1,l1⟩:=gb HR1.out (gcds_lt (L:=L.take k') HB.out.2.2 fun p hp=>HB.out.1 p (List.mem_of_mem_take hp)); have e1 : gcds (L.take k') 0 = G:=by rw [HG.out,hk',HLL.out,List.take_length]
     rw [e1] at v1; have hof:=fun (W : World) (hW : Below wr.heap.size wr W)=>ref2of_any (c:=d) (N:=N) false (r1.below hW) (fun d hd=>Nat.lt_trans (x1.1 d hd) (by decide)) (by have:=HB.out.2.1; omega) (by rw [v1,HG.out]; exact gcds_lt HB.out.2.2 HB.out.1) (by have:=HB.out.2.1; omega); rw [v1] at hof; have HOF:=Lib.hid hof
     obtain ⟨n,hn⟩ : ∃ n,n = ys.length:=⟨_,rfl⟩
     rw [← hn] at HOF ⊢; have hlt3:=lt_block HK1.out; clear hof r1 x1 v1 l1 hn hk' e1 HR1
     go_wp2_with fail
     refine (HOF.out _ (Below.refl _ _)).mono ?_; rintro e w1 ⟨A1,k1,c1,rfl,h1,h2,hb⟩; have K1:=(hb.block w.heap.size hlt3).trans HK1.out; obtain ⟨m1,m2,m3,m4⟩:=cell_of_two K1; have hb2:=bstep hb1 hb; obtain ⟨n1,n2,n3⟩:=ch (a':=.bool (sgn G false)) (b':=.slice A1 k1 c1) K1 (fun d h=>by cases h) (fun d h=>by cases h) h1; clear hb h1 K1
     go_wp2
     refine bodyPost_ret (v:=.agg #[.bool (sgn G false),.slice A1 k1 c1]) (by simp [results,Tryz.results57,go_sem,n1,n2]) rfl ?_; exact ⟨A1,k1,c1,by simp [sgn],n3,fun _=>rfl,(hb2.setCell (Nat.le_refl _) _).setCell (Nat.le_refl _) _⟩
theorem ints_of_zrs {W : World} {g : Nat} {l : List (Nat × Int)} (h : ZRs W g l) (hk : ∀ q ∈ l,q.1 ≤ 1000) : IntsC W g (l.map fun q=>(q.2.natAbs,decide (q.2 < 0))):=fun j p hp=>by
 rw [List.getElem?_map] at hp
 obtain ⟨q,hq,rfl⟩:=Option.map_eq_some_iff.1 hp
 obtain ⟨A,n,c,h1,h2,A',n',c',e,h3,h4⟩:=h j q hq
 injection e with e; injection e with e; injection e with _ e; injection e with e _
 injection e with e1 e2 e3
 subst e1; subst e2; subst e3
 obtain ⟨xs,rfl,hr,hx,hv,hl⟩:=gb h3 h4
 exact ⟨A,c,xs,h1,h2,hr,fun d hd=>Nat.lt_trans (hx.1 d hd) (by decide),Nat.le_trans hl (hk q (List.mem_of_getElem? hq)),hv⟩
theorem r2_gcd {w : World} {v : Value} (k : Nat) {l : List (Nat × Int)} {S0 : Nat} {x : Nat → Value} (h : (kZRs l).sem S0 x v w) (hk : (l.all fun q=>decide (q.1 ≤ k)) = true) (hk2 : k ≤ 1000) (hl : l.length ≤ 100000) : Calls Tryz.prog 57 #[v] w (TellsZ w k (zgcd (l.map (·.2)) : Nat)):=by
 obtain ⟨g,rfl,_,_,hz⟩:=h
 have hk' : ∀ q ∈ l,q.1 ≤ k:=fun q hq=>of_decide_eq_true (List.all_eq_true.1 hk q hq)
 have hb : ∀ q ∈ l,q.2.natAbs < 1000000000 ^ k:=fun q hq=>by
   obtain ⟨j,hj⟩:=List.getElem?_of_mem hq; obtain ⟨_,_,_,_,_,hr⟩:=hz j q hj; exact Nat.lt_of_lt_of_le hr.lt (pow_le (hk' q hq))
 have hL:=ints_of_zrs hz fun q hq=>Nat.le_trans (hk' q hq) hk2
 have hLn : ∀ p ∈ l.map (fun q=>(q.2.natAbs,decide (q.2 < 0))),p.1 < 1000000000 ^ k:=fun p hp=>by
   obtain ⟨q,hq,rfl⟩:=List.mem_map.1 hp; exact hb q hq
 have hg:=ref2Gcd_any (c0:=l.length) hL hLn hk2 (by rw [List.length_map]; exact hl)
 rw [List.length_map] at hg
 have e : gcds (l.map fun q=>(q.2.natAbs,decide (q.2 < 0))) 0 = zgcd (l.map (·.2)):=by
   rw [gcds_map,List.map_map]; congr 1; exact List.map_congr_left fun q _=>zOf_natAbs q.2
 have hlt : zgcd (l.map (·.2)) < 1000000000 ^ k:=by
   rw [← e]; exact gcds_lt (Nat.pow_pos (by decide)) hLn
 rw [e] at hg
 exact hg.mono fun _ _ h=>tellsZ_nat hlt h
theorem r2_text {w : World} {v : Value} {k : Nat} {z : Int} (h : Zc w v k z) (hk : k ≤ 1000) : Calls Tryz.prog 69 #[v] w fun e w'=>e = .returned (.string (ztext z)) ∧ Below w.heap.size w w':=by
 have hnm:=fun (W : World) (hW : Below w.heap.size w W)=>r2_norm (h.below hW) (by omega)
 obtain ⟨b,A,c,xs,rfl,_,_,_,hv,hz⟩:=h
 have hzk : z.natAbs < 1000000000 ^ k:=by rw [← hz,bk]; exact hv
 have hsz:=dtext_short hzk (by omega)
 obtain ⟨n,hn⟩ : ∃ n,n = xs.length:=⟨_,rfl⟩
 rw [← hn] at hnm ⊢
 have HNM:=Lib.hid hnm
 have HZK:=Lib.hid hzk
 have HSZ:=Lib.hid hsz
 clear hnm hz hzk hv hn hsz
 obtain ⟨s,hs⟩ : ∃ s,s = decide (z < 0):=⟨_,rfl⟩
 have HS:=Lib.hid hs
 unfold ztext
 rw [← hs]
 clear hs
 obtain ⟨t,ht⟩ : ∃ t,t = ntext z.natAbs s:=⟨_,rfl⟩
 rw [← ht]
 have HTT:=Lib.hid ht
 clear ht
 go_enter Tryz.func69,Tryz.ntmps69
 go_wp2_with fail
 refine (HNM.out _ (bal (Below.refl _ _) _)).mono ?_
 rintro e w1 ⟨v1,rfl,⟨A1,k1,c1,rfl,h1,_⟩,hb⟩
 rw [← HS.out]
 obtain ⟨ys,rfl,r1,x1,v1,l1⟩:=gb h1 HZK.out
 have hb1:=bstep (bal (Below.refl w.heap.size w) _) hb
 have htx:=fun (W : World) (hW : Below w1.heap.size w1 W)=>refText (c:=c1) (r1.below hW) (fun d hd=>Nat.lt_trans (x1.1 d hd) (by decide)) (by omega) (by rw [v1]; exact HZK.out) (by omega)
 rw [v1] at htx
 have HTX:=Lib.hid htx
 obtain ⟨m,hm⟩ : ∃ m,m = ys.length:=⟨_,rfl⟩
 rw [← hm] at HTX ⊢
 have K1:=fun (o : Obj)=>heap_alloc_new w1 o
 clear hb h1 r1 x1 v1 l1 hm htx
 cases s
 · obtain rfl : t = dtext z.natAbs:=HTT.out; clear HTT
   go_wp2_with fail
   refine (HTX.out _ (bal (Below.refl _ _) _)).mono ?_; rintro e w2 ⟨rfl,hb2⟩; have hk:=(hb2.block w1.heap.size (by simp)).trans (K1 _); obtain ⟨m1,m2,_,_⟩:=cell_of_two hk; have hb3:=bstep hb1 (bstep (bal (Below.refl _ _) _) hb2); clear hb2 hk
   go_wp2
   go_ret
   exact ⟨rfl,hb3⟩
 · obtain rfl : t = ⟨#[45]⟩ ++ dtext z.natAbs:=HTT.out; clear HTT
   go_wp2_with fail
   refine (HTX.out _ (bal (Below.refl _ _) _)).mono ?_; rintro e w2 ⟨rfl,hb2⟩; have hk:=(hb2.block w1.heap.size (by simp)).trans (K1 _); obtain ⟨m1,m2,_,_⟩:=cell_of_two hk; have hb3:=bstep hb1 (bstep (bal (Below.refl _ _) _) hb2); clear hb2 hk
   go_wp2
   · exfalso
     rename_i hh
     have:=HSZ.out; omega
   · go_ret
     exact ⟨rfl,hb3⟩
theorem vr_cmp {w : World} {v1 v2 : Value} {n1 n2 N : Nat} (h1 : Rr w v1 n1) (h2 : Rr w v2 n2) (hn1 : n1 < 1000000000 ^ N) (hn2 : n2 < 1000000000 ^ N) (hN : N ≤ 1000) :
   Calls Tryz.prog 92 #[v1,v2] w fun e w'=>e = .returned (.int .i64 (ordI (n1 : Int) (n2 : Int))) ∧ Below w.heap.size w w':=by
 obtain ⟨A1,k1,c1,rfl⟩:=h1.shape
 obtain ⟨A2,k2,c2,rfl⟩:=h2.shape
 obtain ⟨xs,rfl,r1,x1,rfl,l1⟩:=gb h1 hn1
 obtain ⟨ys,rfl,r2,x2,rfl,l2⟩:=gb h2 hn2
 exact refCmp r1 r2 (fun d hd=>Nat.lt_trans (x1.1 d hd) (by decide)) (fun d hd=>Nat.lt_trans (x2.1 d hd) (by decide)) (by omega) (by omega) hn1 (by omega)
theorem block_r {id : Nat} {Q : Exit → Act → World → Prop} {a : Act} {w : World} (h : Q .ret a w) : Exit.inBlock id Q .ret a w:=h
def kRow (z : Int) : PK:=.p (fun v w=>Rr w v z.natAbs) (fun _ _ _ h hb=>h.below hb) (fun _ _ _ _ h hs=>hs.rr h)
theorem run_loadRow {w : World} {g o : Nat} {A : Option Addr} {l c : Nat} (h0 : w.cell? ⟨g,o,none⟩ = some (.slice A l c)) : (Instr.loadAt 22 (.pointer (some ⟨g,o,none⟩))).run Tryz.prog w = .ok (.slice A l c) w:=by go_simp
section
variable {G : List Nat} {S0 B : Nat} {ks : List PK} {a0 : Act} {i : Nat} {N : Nat} {W0 : World} {T : TypeId} {pos : String} {af : Array Edge} {gu : Option (Nat × Bool)}
theorem ax {d t j g o k : Nat} {z : Int} (hl : AtR W0 g o k z)     (hj : at_ ks j = kIs (.pointer (some ⟨g,o + 1,none⟩))) (hi : at_ ks i = kRow z) (hG : g ∉ G:=by simp) (hN : a0.tmps.size = N:=by assumption) (hd : decide (d < N) = true:=by kernel_rfl) (ht : decide (t < N) = true:=by kernel_rfl) :
   PkStep Tryz.prog (Reg B W0 G) S0 ks a0 i { dst:=some d,op:=.load 22 (.tmp t),type:=T,pos:=pos,after:=af,guard:=gu } [(j,some t)]:=by
 intro w x hC
 refine ay _ fun hdeps K hK=>?_
 have g1:=hdeps (j,some t) (by simp)
 rw [hj] at g1
 have g2 : x j = .pointer (some ⟨g,o + 1,none⟩):=g1
 have e1 : (putE x a0 [(j,some t)]).eval (.tmp t) = x j:=putE_new _ _ (by rw [hN]; exact of_decide_eq_true ht) (by simp [slotAt])
 obtain ⟨A,m,c,_,h2,A',m',c',e,h3,_⟩:=hC.atR hG hl
 injection e with e; injection e with e; injection e with _ e; injection e with e _
 injection e with q1 q2 q3
 subst q1; subst q2; subst q3
 refine cb (v:=.slice A m c) (w':=w) rfl (by rw [az,hN]) hd (ex_load (e1.trans g2) (run_loadRow h2)) (hK _ _ ?_ ?_)
 · rw [hi]; exact Below.refl _ _
 · rw [hi]; exact h3
theorem st_loadKP {d t g k : Nat} {z1 z2 : Int} (hl : AtR W0 g 0 k z1) (hl2 : AtR W0 g 2 k z2) (hp : a0.eval (.tmp t) = .pointer (some ⟨g,0,none⟩))   (hi : at_ ks i = kP k z1 z2) (hN : a0.tmps.size = N:=by assumption) (hd : decide (d < N) = true:=by kernel_rfl) :
   PkStep Tryz.prog (fun w=>Reg B W0 [g] w ∧ w.heap[g]? = W0.heap[g]?) S0 ks a0 i { dst:=some d,op:=.load 26 (.tmp t),type:=T,pos:=pos,after:=af,guard:=gu } []:=by
 intro w x hC K hK
 obtain ⟨A,m,c,h1,h2,A1,m1,c1,e1,h3⟩:=iu hC hl
 obtain ⟨A',m',c',h4,h5,A2,m2,c2,e2,h6⟩:=iu hC hl2
 injection e1 with e1; injection e1 with e1; injection e1 with _ e1; injection e1 with e1 _; injection e1 with a b c; subst a; subst b; subst c
 injection e2 with e2; injection e2 with e2; injection e2 with _ e2; injection e2 with e2 _; injection e2 with a b c; subst a; subst b; subst c
 refine cb (w':=w) rfl hN hd (ex_load hp (run_load4P h1 h2 h4 h5)) (hK _ _ ?_ ?_)
 · rw [hi]; exact Below.refl _ _
 · rw [hi]; exact ⟨_,_,_,_,_,_,rfl,h3,h6⟩
theorem eu {d j1 t1 k1 j2 t2 k2 : Nat} {z1 z2 : Int}       (h1 : at_ ks j1 = kZ k1 z1) (h2 : at_ ks j2 = kZ k2 z2) (hi : at_ ks i = kZRs [(k1,z1),(k2,z2)]) (hN : a0.tmps.size = N:=by assumption) (hd : decide (d < N) = true:=by kernel_rfl) (ht1 : decide (t1 < N) = true:=by kernel_rfl) (ht2 : decide (t2 < N) = true:=by kernel_rfl) (hne : decide (t1 = t2) = false:=by kernel_rfl) (hS : S0 ≤ W0.heap.size:=by exact Nat.le_refl _) :
   PkStep Tryz.prog (Reg B W0 G) S0 ks a0 i { dst:=some d,op:=.buildSlice 68 2 #[(0,.tmp t1),(1,.tmp t2)],type:=T,pos:=pos,after:=af,guard:=gu } [(j1,some t1),(j2,some t2)]:=by
 intro w x hC
 refine ay _ fun hdeps K hK=>?_
 have g1:=hdeps (j1,some t1) (by simp)
 have g2:=hdeps (j2,some t2) (by simp)
 rw [h1] at g1
 rw [h2] at g2
 have hne' : t1 ≠ t2:=of_decide_eq_false hne
 have e1 : (putE x a0 [(j1,some t1),(j2,some t2)]).eval (.tmp t1) = x j1:=putE_new _ _ (by rw [hN]; exact of_decide_eq_true ht1) (by simp [slotAt,Ne.symm hne'])
 have e2 : (putE x a0 [(j1,some t1),(j2,some t2)]).eval (.tmp t2) = x j2:=putE_new _ _ (by rw [hN]; exact of_decide_eq_true ht2) (by simp [slotAt])
 obtain ⟨A1,l1,c1,hx,q1⟩:=(show Zr w (x j1) k1 z1 from g1)
 obtain ⟨A2,l2,c2,hy,q2⟩:=(show Zr w (x j2) k2 z2 from g2)
 have hsz:=hC.below.size
 refine cb rfl (by rw [az,hN]) hd (ex_slice2 (e1.trans hx) (e2.trans hy) run_list2) (hK _ _ ?_ ?_)
 · rw [hi]; exact ⟨(Below.refl _ _).alloc (Nat.le_refl _) _,_,rfl,Nat.le_refl _⟩
 · rw [hi]; have ba:=fun (o : Obj)=>(Below.refl w.heap.size w).alloc (Nat.le_refl _) o; refine ⟨_,rfl,Nat.le_trans hS hsz,lt_alloc _ _,fun j q hj=>?_⟩
   match j,hj with
   | 0,hj=>simp at hj; subst hj; exact ⟨A1,l1,c1,by simp,by simp,A1,l1,c1,rfl,q1.1.below (ba _),q1.2⟩
   | 1,hj=>simp at hj; subst hj; exact ⟨A2,l2,c2,by simp,by simp,A2,l2,c2,rfl,q2.1.below (ba _),q2.2⟩
end
theorem r2_of {w : World} (n : Int) (h1 : -9223372036854775808 ≤ n) (h2 : n ≤ 9223372036854775807) (hn : n.natAbs < 1000000000 ^ 1) : Calls Tryz.prog 93 #[.int .i64 n] w (TellsZ w 1 n) :=
 (ref2Of_any n n.natAbs h1 h2 rfl).mono fun _ _ h=>fk hn h
theorem r2_cmp_np {w : World} {v1 v2 : Value} {zx zy : Int} (hx : decide (zx < 0) = true) (hy : decide (zy < 0) = false) (h1 : Zr w v1 39 (zx)) (h2 : Zr w v2 39 (zy)) :
   Calls Tryz.prog 54 #[v1,v2] w (fun e w'=>e = .returned (.int .i64 (-1)) ∧ Below w.heap.size w w'):=by
 obtain ⟨y1,z1,rfl,H1⟩:=h1.op
 obtain ⟨y2,z2,rfl,H2⟩:=h2.op
 go_enter Tryz.func54,Tryz.ntmps54
 repeat apply wp_seq
 refine mf fun K HK=>?_
 go_wp2
 refine HK.out _ _ (then_n ?_)
 refine mc (G:=fun W=>Code.wp _ _ _ _ W) ?_
 intro W_0 bb_0 K0 K1
 have f1_0:=H1.out _ _ _ bb_0 K0
 have f2_0:=H2.out _ _ _ bb_0 K1
 clear K0 K1
 refine ly (G:=fun a=>Code.wp _ _ _ a _) 40 ?_
 intro a_0 ha hN_0 hD_0
 have e2_0:=lu ha 2 w.heap.size
 have e3_0:=lu ha 3 (w.heap.size + 1)
 repeat first | apply lw | apply lx
 refine lm bb_0 [kZ 39 (zx),kZ 39 (zx),kZ 39 (zy),kZ 39 (zy),PK.fresh 2,PK.fresh 2,kPutZ 4 39 (zx),kPutZ 5 39 (zy)] [[],[0],[],[2],[],[],[4,1],[5,3]] [7,8,9,10,5,6,999,999] [] [] ?_ ?_
 ·
   refine aj f1_0 e2_0 ?_; refine aa rfl rfl (ac rfl rfl fun hC h1=>tz (r2_norm ((rr h1).zc (by decide)) (by decide))) ?_; refine aj f2_0 e3_0 ?_; refine aa rfl rfl (ac rfl rfl fun hC h1=>tz (r2_norm ((rr h1).zc (by decide)) (by decide))) ?_; refine ar ?_; refine ar ?_; refine bf ?_; refine bf ?_; exact ae rfl
 intro W_1 x a_1 hC hall ha hN_1 hD_1 bb_1
 obtain ⟨g5,hx,l5_1⟩:=ic (me hall 6)
 have e5_1:=(ak (t:=5) (i:=4) ha).trans hx
 clear hx
 obtain ⟨g6,hx,l6_1⟩:=ic (me hall 7)
 have e6_1:=(ak (t:=6) (i:=5) ha).trans hx
 clear hx
 have q5_1:=l5_1.atR
 clear l5_1
 have q6_1:=l6_1.atR
 clear l6_1
 repeat first | apply lw | apply lx
 refine wp_block ?_
 repeat first | apply lw | apply lx
 refine lm bb_1 [lp g5 0,lq,lq,lp g6 0,lr,lq,lq,lq] [[],[0],[1],[],[3],[4],[2,5],[6]] [12,13,14,15,16,17,18,11] [(2,true)] [] ?_ ?_
 ·
   refine p01 e5_1 ?_; refine au (s:=true) q5_1 hx ?_; refine p10 ?_; refine p01 e6_1 ?_; refine au (s:=false) q6_1 hy ?_; refine p10 ?_; refine p20 ?_; refine p10 ?_; exact ae rfl
 intro W_2 x a_2 hC hall ha hN_2 hD_2 bb_2
 have e11_2:=ln ha hall 11 7
 repeat first | apply lw | apply lx
 refine wp_cond_true e11_2 ?_
 repeat first | apply lw | apply lx
 refine lm bb_2 [kIs (.int .i64 (-1))] [[]] [4] [] [] ?_ ?_
 ·
   refine p00 ?_; exact ae rfl
 intro W x a1 hC hall ha hN1 hD1 bb1
 have e1:=ln ha hall 4 0
 repeat first | apply lw | apply lx
 refine wp_ret ?_
 repeat (first | refine then_r ?_ | refine block_r ?_)
 exact bc (t:=4) rfl hD1 e1 ⟨rfl,bb1⟩
theorem r2_cmp_pn {w : World} {v1 v2 : Value} {zx zy : Int} (hx : decide (zx < 0) = false) (hy : decide (zy < 0) = true) (h1 : Zr w v1 39 (zx)) (h2 : Zr w v2 39 (zy)) :
   Calls Tryz.prog 54 #[v1,v2] w (fun e w'=>e = .returned (.int .i64 (1)) ∧ Below w.heap.size w w'):=by
 obtain ⟨y1,z1,rfl,H1⟩:=h1.op
 obtain ⟨y2,z2,rfl,H2⟩:=h2.op
 go_enter Tryz.func54,Tryz.ntmps54
 repeat apply wp_seq
 refine mf fun K HK=>?_
 go_wp2
 refine HK.out _ _ (then_n ?_)
 refine mc (G:=fun W=>Code.wp _ _ _ _ W) ?_
 intro W_0 bb_0 K0 K1
 have f1_0:=H1.out _ _ _ bb_0 K0
 have f2_0:=H2.out _ _ _ bb_0 K1
 clear K0 K1
 refine ly (G:=fun a=>Code.wp _ _ _ a _) 40 ?_
 intro a_0 ha hN_0 hD_0
 have e2_0:=lu ha 2 w.heap.size
 have e3_0:=lu ha 3 (w.heap.size + 1)
 repeat first | apply lw | apply lx
 refine lm bb_0 [kZ 39 (zx),kZ 39 (zx),kZ 39 (zy),kZ 39 (zy),PK.fresh 2,PK.fresh 2,kPutZ 4 39 (zx),kPutZ 5 39 (zy)] [[],[0],[],[2],[],[],[4,1],[5,3]] [7,8,9,10,5,6,999,999] [] [] ?_ ?_
 ·
   refine aj f1_0 e2_0 ?_; refine aa rfl rfl (ac rfl rfl fun hC h1=>tz (r2_norm ((rr h1).zc (by decide)) (by decide))) ?_; refine aj f2_0 e3_0 ?_; refine aa rfl rfl (ac rfl rfl fun hC h1=>tz (r2_norm ((rr h1).zc (by decide)) (by decide))) ?_; refine ar ?_; refine ar ?_; refine bf ?_; refine bf ?_; exact ae rfl
 intro W_1 x a_1 hC hall ha hN_1 hD_1 bb_1
 obtain ⟨g5,hx,l5_1⟩:=ic (me hall 6)
 have e5_1:=(ak (t:=5) (i:=4) ha).trans hx
 clear hx
 obtain ⟨g6,hx,l6_1⟩:=ic (me hall 7)
 have e6_1:=(ak (t:=6) (i:=5) ha).trans hx
 clear hx
 have q5_1:=l5_1.atR
 clear l5_1
 have q6_1:=l6_1.atR
 clear l6_1
 repeat first | apply lw | apply lx
 refine wp_block ?_
 repeat first | apply lw | apply lx
 refine lm bb_1 [lp g5 0,lr,lr,ls,ls,ls,lr,lr] [[],[0],[1],[],[3],[4],[2,5],[6]] [12,13,14,15,16,17,18,11] [(2,false)] [3,4,5] ?_ ?_
 ·
   refine p01 e5_1 ?_; refine au (s:=false) q5_1 hx ?_; refine p10 ?_; refine am rfl ?_; refine am rfl ?_; refine am rfl ?_; refine p20 ?_; refine p10 ?_; exact ae rfl
 intro W_2 x a_2 hC hall ha hN_2 hD_2 bb_2
 have e5_2:=ab ha e5_1
 have e6_2:=ab ha e6_1
 have q5_2:=hC.at0 q5_1
 have q6_2:=hC.at0 q6_1
 have e11_2:=ln ha hall 11 7
 repeat first | apply lw | apply lx
 refine wp_cond_false e11_2 ?_
 repeat first | apply lw | apply lx
 refine lm bb_2 [lp g5 0,lr,lq,lq,lp g6 0,lq,lq,lq] [[],[0],[1],[2],[],[4],[3,5],[6]] [20,21,22,23,24,25,26,19] [(3,true)] [] ?_ ?_
 ·
   refine p01 e5_2 ?_; refine au (s:=false) q5_2 hx ?_; refine p10 ?_; refine p10 ?_; refine p01 e6_2 ?_; refine au (s:=true) q6_2 hy ?_; refine p20 ?_; refine p10 ?_; exact ae rfl
 intro W_3 x a_3 hC hall ha hN_3 hD_3 bb_3
 have e19_3:=ln ha hall 19 7
 repeat first | apply lw | apply lx
 refine wp_cond_true e19_3 ?_
 repeat first | apply lw | apply lx
 refine lm bb_3 [kIs (.int .i64 (1))] [[]] [4] [] [] ?_ ?_
 ·
   refine p00 ?_; exact ae rfl
 intro W x a1 hC hall ha hN1 hD1 bb1
 have e1:=ln ha hall 4 0
 repeat first | apply lw | apply lx
 refine wp_ret ?_
 repeat (first | refine then_r ?_ | refine block_r ?_)
 exact bc (t:=4) rfl hD1 e1 ⟨rfl,bb1⟩
theorem r2_cmp_nn {w : World} {v1 v2 : Value} {zx zy : Int} (hx : decide (zx < 0) = true) (hy : decide (zy < 0) = true) (h1 : Zr w v1 39 (zx)) (h2 : Zr w v2 39 (zy)) :
   Calls Tryz.prog 54 #[v1,v2] w (fun e w'=>e = .returned (.int .i64 (ordI ((zy).natAbs : Int) ((zx).natAbs : Int))) ∧ Below w.heap.size w w'):=by
 have U1:=Lib.hid h1.lt
 obtain ⟨y1,z1,rfl,H1⟩:=h1.op
 have U2:=Lib.hid h2.lt
 obtain ⟨y2,z2,rfl,H2⟩:=h2.op
 go_enter Tryz.func54,Tryz.ntmps54
 repeat apply wp_seq
 refine mf fun K HK=>?_
 go_wp2
 refine HK.out _ _ (then_n ?_)
 refine mc (G:=fun W=>Code.wp _ _ _ _ W) ?_
 intro W_0 bb_0 K0 K1
 have f1_0:=H1.out _ _ _ bb_0 K0
 have f2_0:=H2.out _ _ _ bb_0 K1
 clear K0 K1
 refine ly (G:=fun a=>Code.wp _ _ _ a _) 40 ?_
 intro a_0 ha hN_0 hD_0
 have e2_0:=lu ha 2 w.heap.size
 have e3_0:=lu ha 3 (w.heap.size + 1)
 repeat first | apply lw | apply lx
 refine lm bb_0 [kZ 39 (zx),kZ 39 (zx),kZ 39 (zy),kZ 39 (zy),PK.fresh 2,PK.fresh 2,kPutZ 4 39 (zx),kPutZ 5 39 (zy)] [[],[0],[],[2],[],[],[4,1],[5,3]] [7,8,9,10,5,6,999,999] [] [] ?_ ?_
 ·
   refine aj f1_0 e2_0 ?_; refine aa rfl rfl (ac rfl rfl fun hC h1=>tz (r2_norm ((rr h1).zc (by decide)) (by decide))) ?_; refine aj f2_0 e3_0 ?_; refine aa rfl rfl (ac rfl rfl fun hC h1=>tz (r2_norm ((rr h1).zc (by decide)) (by decide))) ?_; refine ar ?_; refine ar ?_; refine bf ?_; refine bf ?_; exact ae rfl
 intro W_1 x a_1 hC hall ha hN_1 hD_1 bb_1
 obtain ⟨g5,hx,l5_1⟩:=ic (me hall 6)
 have e5_1:=(ak (t:=5) (i:=4) ha).trans hx
 clear hx
 obtain ⟨g6,hx,l6_1⟩:=ic (me hall 7)
 have e6_1:=(ak (t:=6) (i:=5) ha).trans hx
 clear hx
 have q5_1:=l5_1.atR
 clear l5_1
 have q6_1:=l6_1.atR
 clear l6_1
 repeat first | apply lw | apply lx
 refine wp_block ?_
 repeat first | apply lw | apply lx
 refine lm bb_1 [lp g5 0,lq,lq,lp g6 0,lq,lr,lr,lr] [[],[0],[1],[],[3],[4],[2,5],[6]] [12,13,14,15,16,17,18,11] [(2,true)] [] ?_ ?_
 ·
   refine p01 e5_1 ?_; refine au (s:=true) q5_1 hx ?_; refine p10 ?_; refine p01 e6_1 ?_; refine au (s:=true) q6_1 hy ?_; refine p10 ?_; refine p20 ?_; refine p10 ?_; exact ae rfl
 intro W_2 x a_2 hC hall ha hN_2 hD_2 bb_2
 have e5_2:=ab ha e5_1
 have e6_2:=ab ha e6_1
 have q5_2:=hC.at0 q5_1
 have q6_2:=hC.at0 q6_1
 have e11_2:=ln ha hall 11 7
 repeat first | apply lw | apply lx
 refine wp_cond_false e11_2 ?_
 repeat first | apply lw | apply lx
 refine lm bb_2 [lp g5 0,lq,lr,lr,ls,ls,lr,lr] [[],[0],[1],[2],[],[4],[3,5],[6]] [20,21,22,23,24,25,26,19] [(3,false)] [4,5] ?_ ?_
 ·
   refine p01 e5_2 ?_; refine au (s:=true) q5_2 hx ?_; refine p10 ?_; refine p10 ?_; refine am rfl ?_; refine am rfl ?_; refine p20 ?_; refine p10 ?_; exact ae rfl
 intro W_3 x a_3 hC hall ha hN_3 hD_3 bb_3
 have e5_3:=ab ha e5_2
 have e6_3:=ab ha e6_2
 have q5_3:=hC.at0 q5_2
 have q6_3:=hC.at0 q6_2
 have e19_3:=ln ha hall 19 7
 repeat first | apply lw | apply lx
 refine wp_cond_false e19_3 ?_
 repeat first | apply lw | apply lx
 refine lm bb_3 [lp g5 0,lq,lq] [[],[0],[1]] [28,29,27] [] [] ?_ ?_
 ·
   refine p01 e5_3 ?_; refine au (s:=true) q5_3 hx ?_; refine p10 ?_; exact ae rfl
 intro W_4 x a_4 hC hall ha hN_4 hD_4 bb_4
 have e5_4:=ab ha e5_3
 have e6_4:=ab ha e6_3
 have q5_4:=hC.at0 q5_3
 have q6_4:=hC.at0 q6_3
 have e27_4:=ln ha hall 27 2
 repeat first | apply lw | apply lx
 refine wp_cond_true e27_4 ?_
 repeat first | apply lw | apply lx
 refine lm bb_4 [lp g6 1,kRow (zy),lp g5 1,kRow (zx),kIs (.int .i64 (ordI ((zy).natAbs : Int) ((zx).natAbs : Int))),kIs (.int .i64 (ordI ((zy).natAbs : Int) ((zx).natAbs : Int)))] [[],[0],[],[2],[1,3],[4]] [30,31,32,33,34,4] [] [] ?_ ?_
 ·
   refine p01 e6_4 ?_; refine aa rfl rfl (ax q6_4 rfl rfl) ?_; refine p01 e5_4 ?_; refine aa rfl rfl (ax q5_4 rfl rfl) ?_; refine aa rfl rfl (ai rfl rfl rfl fun hC h1 h2=>ti (vr_cmp (N:=39) h1 h2 U2.out U1.out (by decide))) ?_; refine p10 ?_; exact ae rfl
 intro W x a1 hC hall ha hN1 hD1 bb1
 have e1:=ln ha hall 4 5
 repeat first | apply lw | apply lx
 refine wp_ret ?_
 repeat (first | refine then_r ?_ | refine block_r ?_)
 exact bc (t:=4) rfl hD1 e1 ⟨rfl,bb1⟩
theorem r2_cmp_pp {w : World} {v1 v2 : Value} {zx zy : Int} (hx : decide (zx < 0) = false) (hy : decide (zy < 0) = false) (h1 : Zr w v1 39 (zx)) (h2 : Zr w v2 39 (zy)) :
   Calls Tryz.prog 54 #[v1,v2] w (fun e w'=>e = .returned (.int .i64 (ordI ((zx).natAbs : Int) ((zy).natAbs : Int))) ∧ Below w.heap.size w w'):=by
 have U1:=Lib.hid h1.lt
 obtain ⟨y1,z1,rfl,H1⟩:=h1.op
 have U2:=Lib.hid h2.lt
 obtain ⟨y2,z2,rfl,H2⟩:=h2.op
 go_enter Tryz.func54,Tryz.ntmps54
 repeat apply wp_seq
 refine mf fun K HK=>?_
 go_wp2
 refine HK.out _ _ (then_n ?_)
 refine mc (G:=fun W=>Code.wp _ _ _ _ W) ?_
 intro W_0 bb_0 K0 K1
 have f1_0:=H1.out _ _ _ bb_0 K0
 have f2_0:=H2.out _ _ _ bb_0 K1
 clear K0 K1
 refine ly (G:=fun a=>Code.wp _ _ _ a _) 40 ?_
 intro a_0 ha hN_0 hD_0
 have e2_0:=lu ha 2 w.heap.size
 have e3_0:=lu ha 3 (w.heap.size + 1)
 repeat first | apply lw | apply lx
 refine lm bb_0 [kZ 39 (zx),kZ 39 (zx),kZ 39 (zy),kZ 39 (zy),PK.fresh 2,PK.fresh 2,kPutZ 4 39 (zx),kPutZ 5 39 (zy)] [[],[0],[],[2],[],[],[4,1],[5,3]] [7,8,9,10,5,6,999,999] [] [] ?_ ?_
 ·
   refine aj f1_0 e2_0 ?_; refine aa rfl rfl (ac rfl rfl fun hC h1=>tz (r2_norm ((rr h1).zc (by decide)) (by decide))) ?_; refine aj f2_0 e3_0 ?_; refine aa rfl rfl (ac rfl rfl fun hC h1=>tz (r2_norm ((rr h1).zc (by decide)) (by decide))) ?_; refine ar ?_; refine ar ?_; refine bf ?_; refine bf ?_; exact ae rfl
 intro W_1 x a_1 hC hall ha hN_1 hD_1 bb_1
 obtain ⟨g5,hx,l5_1⟩:=ic (me hall 6)
 have e5_1:=(ak (t:=5) (i:=4) ha).trans hx
 clear hx
 obtain ⟨g6,hx,l6_1⟩:=ic (me hall 7)
 have e6_1:=(ak (t:=6) (i:=5) ha).trans hx
 clear hx
 have q5_1:=l5_1.atR
 clear l5_1
 have q6_1:=l6_1.atR
 clear l6_1
 repeat first | apply lw | apply lx
 refine wp_block ?_
 repeat first | apply lw | apply lx
 refine lm bb_1 [lp g5 0,lr,lr,ls,ls,ls,lr,lr] [[],[0],[1],[],[3],[4],[2,5],[6]] [12,13,14,15,16,17,18,11] [(2,false)] [3,4,5] ?_ ?_
 ·
   refine p01 e5_1 ?_; refine au (s:=false) q5_1 hx ?_; refine p10 ?_; refine am rfl ?_; refine am rfl ?_; refine am rfl ?_; refine p20 ?_; refine p10 ?_; exact ae rfl
 intro W_2 x a_2 hC hall ha hN_2 hD_2 bb_2
 have e5_2:=ab ha e5_1
 have e6_2:=ab ha e6_1
 have q5_2:=hC.at0 q5_1
 have q6_2:=hC.at0 q6_1
 have e11_2:=ln ha hall 11 7
 repeat first | apply lw | apply lx
 refine wp_cond_false e11_2 ?_
 repeat first | apply lw | apply lx
 refine lm bb_2 [lp g5 0,lr,lq,lq,lp g6 0,lr,lr,lr] [[],[0],[1],[2],[],[4],[3,5],[6]] [20,21,22,23,24,25,26,19] [(3,true)] [] ?_ ?_
 ·
   refine p01 e5_2 ?_; refine au (s:=false) q5_2 hx ?_; refine p10 ?_; refine p10 ?_; refine p01 e6_2 ?_; refine au (s:=false) q6_2 hy ?_; refine p20 ?_; refine p10 ?_; exact ae rfl
 intro W_3 x a_3 hC hall ha hN_3 hD_3 bb_3
 have e5_3:=ab ha e5_2
 have e6_3:=ab ha e6_2
 have q5_3:=hC.at0 q5_2
 have q6_3:=hC.at0 q6_2
 have e19_3:=ln ha hall 19 7
 repeat first | apply lw | apply lx
 refine wp_cond_false e19_3 ?_
 repeat first | apply lw | apply lx
 refine lm bb_3 [lp g5 0,lr,lr] [[],[0],[1]] [28,29,27] [] [] ?_ ?_
 ·
   refine p01 e5_3 ?_; refine au (s:=false) q5_3 hx ?_; refine p10 ?_; exact ae rfl
 intro W_4 x a_4 hC hall ha hN_4 hD_4 bb_4
 have e5_4:=ab ha e5_3
 have e6_4:=ab ha e6_3
 have q5_4:=hC.at0 q5_3
 have q6_4:=hC.at0 q6_3
 have e27_4:=ln ha hall 27 2
 repeat first | apply lw | apply lx
 refine wp_cond_false e27_4 ?_
 repeat first | apply lw | apply lx
 refine wp_skip ?_
 refine in_block8 ?_
 refine then_n ?_
 repeat first | apply lw | apply lx
 refine lm bb_4 [lp g5 1,kRow (zx),lp g6 1,kRow (zy),kIs (.int .i64 (ordI ((zx).natAbs : Int) ((zy).natAbs : Int))),kIs (.int .i64 (ordI ((zx).natAbs : Int) ((zy).natAbs : Int)))] [[],[0],[],[2],[1,3],[4]] [35,36,37,38,39,4] [] [] ?_ ?_
 ·
   refine p01 e5_4 ?_; refine aa rfl rfl (ax q5_4 rfl rfl) ?_; refine p01 e6_4 ?_; refine aa rfl rfl (ax q6_4 rfl rfl) ?_; refine aa rfl rfl (ai rfl rfl rfl fun hC h1 h2=>ti (vr_cmp (N:=39) h1 h2 U1.out U2.out (by decide))) ?_; refine p10 ?_; exact ae rfl
 intro W x a1 hC hall ha hN1 hD1 bb1
 have e1:=ln ha hall 4 5
 repeat first | apply lw | apply lx
 refine wp_ret ?_
 repeat (first | refine then_r ?_ | refine block_r ?_)
 exact bc (t:=4) rfl hD1 e1 ⟨rfl,bb1⟩
theorem r2_cmp {w : World} {v1 v2 : Value} {x y : Int} (h1 : Zr w v1 39 x) (h2 : Zr w v2 39 y) : Calls Tryz.prog 54 #[v1,v2] w fun e w'=>e = .returned (.int .i64 (ordI x y)) ∧ Below w.heap.size w w':=by
 by_cases hx : x < 0 <;> by_cases hy : y < 0
 · have e : ordI ((y).natAbs : Int) ((x).natAbs : Int) = ordI x y:=by unfold ordI; split <;> split <;> (try split) <;> (try split) <;> omega
   rw [← e]; exact r2_cmp_nn (decide_eq_true hx) (decide_eq_true hy) h1 h2
 · rw [ord_lt (show x < y by omega)]; exact r2_cmp_np (decide_eq_true hx) (decide_eq_false hy) h1 h2
 · rw [ord_gt (show y < x by omega)]; exact r2_cmp_pn (decide_eq_false hx) (decide_eq_true hy) h1 h2
 · have e : ordI ((x).natAbs : Int) ((y).natAbs : Int) = ordI x y:=by unfold ordI; split <;> split <;> (try split) <;> (try split) <;> omega
   rw [← e]; exact r2_cmp_pp (decide_eq_false hx) (decide_eq_false hy) h1 h2
theorem fj {w : World}    :
   Calls Tryz.prog 55 #[] w (TellsZ w 1 (0)):=by
 go_enter Tryz.func55,Tryz.ntmps55
 repeat apply wp_seq
 refine mf fun K HK=>?_
 go_wp2
 refine HK.out _ _ (then_n ?_)
 refine mb (G:=fun W=>Code.wp _ _ _ _ W) ?_
 intro W_0 bb_0 K0
 have R_0:=ll K0
 clear K0
 refine ly (G:=fun a=>Code.wp _ _ _ a _) 2 ?_
 intro a_0 ha hN_0 hD_0
 have e0_0:=lu ha 0 w.heap.size
 repeat first | apply lw | apply lx
 refine mg bb_0 R_0 [kZ 1 (0),kResZ (w.heap.size) 1 (0)] [[],[0]] [1,999] [] [] ?_ ?_
 ·
   refine aa rfl rfl (aq [.int .i64 (0)] rfl rfl fun hC=>tz (r2_of (0) (by decide) (by decide) (by decide))) ?_; refine aa rfl rfl (ci R_0 e0_0 rfl rfl) ?_; exact ae rfl
 intro W x a1 hC hall ha hN1 hD1 bb1
 obtain ⟨cs,hg,hP⟩:=me hall 1
 have e1:=ab (t:=0) ha e0_0
 repeat first | apply lw | apply lx
 refine wp_ret ?_
 repeat (refine then_r ?_)
 exact co (t:=0) rfl hD1 e1 hg hP fun v hv=>⟨v,rfl,hv,bb1⟩
theorem ie {w : World}    :
   Calls Tryz.prog 63 #[] w (TellsZ w 1 (1)):=by
 go_enter Tryz.func63,Tryz.ntmps63
 repeat apply wp_seq
 refine mf fun K HK=>?_
 go_wp2
 refine HK.out _ _ (then_n ?_)
 refine mb (G:=fun W=>Code.wp _ _ _ _ W) ?_
 intro W_0 bb_0 K0
 have R_0:=ll K0
 clear K0
 refine ly (G:=fun a=>Code.wp _ _ _ a _) 2 ?_
 intro a_0 ha hN_0 hD_0
 have e0_0:=lu ha 0 w.heap.size
 repeat first | apply lw | apply lx
 refine mg bb_0 R_0 [kZ 1 (1),kResZ (w.heap.size) 1 (1)] [[],[0]] [1,999] [] [] ?_ ?_
 ·
   refine aa rfl rfl (aq [.int .i64 (1)] rfl rfl fun hC=>tz (r2_of (1) (by decide) (by decide) (by decide))) ?_; refine aa rfl rfl (ci R_0 e0_0 rfl rfl) ?_; exact ae rfl
 intro W x a1 hC hall ha hN1 hD1 bb1
 obtain ⟨cs,hg,hP⟩:=me hall 1
 have e1:=ab (t:=0) ha e0_0
 repeat first | apply lw | apply lx
 refine wp_ret ?_
 repeat (refine then_r ?_)
 exact co (t:=0) rfl hD1 e1 hg hP fun v hv=>⟨v,rfl,hv,bb1⟩
theorem db {w : World}    :
   Calls Tryz.prog 53 #[] w (TellsP w 1 (0) (1)):=by
 go_enter Tryz.func53,Tryz.ntmps53
 repeat apply wp_seq
 refine mf fun K HK=>?_
 go_wp2
 refine HK.out _ _ (then_n ?_)
 refine mb (G:=fun W=>Code.wp _ _ _ _ W) ?_
 intro W_0 bb_0 K0
 have R_0:=ge K0
 clear K0
 refine ly (G:=fun a=>Code.wp _ _ _ a _) 4 ?_
 intro a_0 ha hN_0 hD_0
 have e0_0:=lu ha 0 w.heap.size
 repeat first | apply lw | apply lx
 refine mg bb_0 R_0 [kZ 1 (0),kZ 1 (1),kP 1 (0) (1),kRes (w.heap.size) 1 (0) (1)] [[],[],[0,1],[2]] [1,2,3,999] [] [] ?_ ?_
 ·
   refine aa rfl rfl (aq [] rfl rfl fun hC=>tz fj) ?_; refine aa rfl rfl (aq [] rfl rfl fun hC=>tz ie) ?_; refine aa rfl rfl (cw (k:=1) rfl rfl rfl) ?_; refine aa rfl rfl (bd R_0 rfl e0_0 rfl rfl) ?_; exact ae rfl
 intro W x a1 hC hall ha hN1 hD1 bb1
 obtain ⟨cs,hg,hP⟩:=me hall 3
 have e1:=ab (t:=0) ha e0_0
 repeat first | apply lw | apply lx
 refine wp_ret ?_
 repeat (refine then_r ?_)
 exact dl (t:=0) rfl hD1 e1 hg hP fun v hv=>⟨v,rfl,hv,bb1⟩
theorem refRight_yes {w : World} {v1 : Value} {a : Rat} (h1 : Pr w v1 19 (a.num) ((a.den : Int))) :
   Calls Tryz.prog 17 #[v1] w (fun e w'=>e = .returned (.bool true) ∧ Below w.heap.size w w'):=by
 obtain ⟨y1,z1,y1',z1',rfl,H1⟩:=h1.op
 go_enter Tryz.func17,Tryz.ntmps17
 repeat apply wp_seq
 refine mf fun K HK=>?_
 go_wp2
 refine HK.out _ _ (then_n ?_)
 refine mb (G:=fun W=>Code.wp _ _ _ _ W) ?_
 intro W_0 bb_0 K0
 obtain ⟨f1_0,f1'_0⟩:=H1.out _ _ _ bb_0 K0
 clear K0
 refine ly (G:=fun a=>Code.wp _ _ _ a _) 29 ?_
 intro a_0 ha hN_0 hD_0
 have e1_0:=lu ha 1 w.heap.size
 repeat first | apply lw | apply lx
 refine lm bb_0 [lp w.heap.size 0,kZ 19 (a.num),lq,lq,lp w.heap.size 2,kZ 19 ((a.den : Int)),lq,lq,lq,lp w.heap.size 2,kZ 19 ((a.den : Int)),kZ 1 (0),kIs (.int .i64 (1)),lq,lq,lq,lp w.heap.size 0,kZ 19 (a.num),lp w.heap.size 2,kZ 19 ((a.den : Int)),kZRs [(19,a.num),(19,(a.den : Int))],kZ 19 (((zgcd [a.num,(a.den : Int)] : Nat) : Int)),kZ 1 (1),kIs (.int .i64 (0)),lq,lq,lq] [[],[0],[1],[2],[],[4],[5],[3,6],[7],[],[9],[],[10,11],[12],[8,13],[14],[],[16],[],[18],[17,19],[20],[],[21,22],[23],[15,24],[25]] [3,4,5,6,7,8,9,10,11,12,13,14,15,16,17,18,19,20,21,22,23,24,25,26,27,28,2] [(3,true),(8,true),(15,true)] [] ?_ ?_
 ·
   refine p01 e1_0 ?_; refine ag f1_0 ?_; refine aa rfl rfl (ac rfl rfl fun hC h1=>ti (r2_right (rr h1))) ?_; refine p10 ?_; refine p01 e1_0 ?_; refine ag f1'_0 ?_; refine aa rfl rfl (ac rfl rfl fun hC h1=>ti (r2_right (rr h1))) ?_; refine p20 ?_; refine p10 ?_; refine p01 e1_0 ?_; refine ag f1'_0 ?_; refine aa rfl rfl (aq [] rfl rfl fun hC=>tz fj) ?_; refine aa rfl rfl (ai rfl rfl rfl fun hC h1 h2=>ti (cmp_is (ord_gt (den_pos a)) (r2_cmp ((rr h1).mono (by decide)) ((rr h2).mono (by decide))))) ?_; refine p10 ?_; refine p20 ?_; refine p10 ?_; refine p01 e1_0 ?_; refine ag f1_0 ?_; refine p01 e1_0 ?_; refine ag f1'_0 ?_; refine aa rfl rfl (eu rfl rfl rfl) ?_; refine aa rfl rfl (ac rfl rfl fun hC h1=>tz (r2_gcd 19 h1 (by kernel_rfl) (by decide) (by simp))) ?_; refine aa rfl rfl (aq [] rfl rfl fun hC=>tz ie) ?_; refine aa rfl rfl (ai rfl rfl rfl fun hC h1 h2=>ti (cmp_is (ord_eq (gcd_one a)) (r2_cmp ((rr h1).mono (by decide)) ((rr h2).mono (by decide))))) ?_; refine p10 ?_; refine p20 ?_; refine p10 ?_; exact ae rfl
 intro W x a1 hC hall ha hN1 hD1 bb1
 have e1:=ln ha hall 2 26
 repeat first | apply lw | apply lx
 refine wp_ret ?_
 repeat (refine then_r ?_)
 exact bc (t:=2) rfl hD1 e1 ⟨rfl,bb1⟩
theorem refRight_none {w : World} {v1 : Value} {zx zy : Int} (hz : zy = 0) (h1 : Pr w v1 19 (zx) (zy)) :
   Calls Tryz.prog 17 #[v1] w (fun e w'=>e = .returned (.bool false) ∧ Below w.heap.size w w'):=by
 obtain ⟨y1,z1,y1',z1',rfl,H1⟩:=h1.op
 go_enter Tryz.func17,Tryz.ntmps17
 repeat apply wp_seq
 refine mf fun K HK=>?_
 go_wp2
 refine HK.out _ _ (then_n ?_)
 refine mb (G:=fun W=>Code.wp _ _ _ _ W) ?_
 intro W_0 bb_0 K0
 obtain ⟨f1_0,f1'_0⟩:=H1.out _ _ _ bb_0 K0
 clear K0
 refine ly (G:=fun a=>Code.wp _ _ _ a _) 29 ?_
 intro a_0 ha hN_0 hD_0
 have e1_0:=lu ha 1 w.heap.size
 repeat first | apply lw | apply lx
 refine lm bb_0 [lp w.heap.size 0,kZ 19 (zx),lq,lq,lp w.heap.size 2,kZ 19 (zy),lq,lq,lq,lp w.heap.size 2,kZ 19 (zy),kZ 1 (0),kIs (.int .i64 (0)),lr,lr,lr,ls,ls,ls,ls,ls,ls,ls,ls,ls,lr,lr] [[],[0],[1],[2],[],[4],[5],[3,6],[7],[],[9],[],[10,11],[12],[8,13],[14],[],[16],[],[18],[17,19],[20],[],[21,22],[23],[15,24],[25]] [3,4,5,6,7,8,9,10,11,12,13,14,15,16,17,18,19,20,21,22,23,24,25,26,27,28,2] [(3,true),(8,true),(15,false)] [16,17,18,19,20,21,22,23,24] ?_ ?_
 ·
   refine p01 e1_0 ?_; refine ag f1_0 ?_; refine aa rfl rfl (ac rfl rfl fun hC h1=>ti (r2_right (rr h1))) ?_; refine p10 ?_; refine p01 e1_0 ?_; refine ag f1'_0 ?_; refine aa rfl rfl (ac rfl rfl fun hC h1=>ti (r2_right (rr h1))) ?_; refine p20 ?_; refine p10 ?_; refine p01 e1_0 ?_; refine ag f1'_0 ?_; refine aa rfl rfl (aq [] rfl rfl fun hC=>tz fj) ?_; refine aa rfl rfl (ai rfl rfl rfl fun hC h1 h2=>ti (cmp_is (ord_eq hz) (r2_cmp ((rr h1).mono (by decide)) ((rr h2).mono (by decide))))) ?_; refine p10 ?_; refine p20 ?_; refine p10 ?_; refine am rfl ?_; refine am rfl ?_; refine am rfl ?_; refine am rfl ?_; refine am rfl ?_; refine am rfl ?_; refine am rfl ?_; refine am rfl ?_; refine am rfl ?_; refine p20 ?_; refine p10 ?_; exact ae rfl
 intro W x a1 hC hall ha hN1 hD1 bb1
 have e1:=ln ha hall 2 26
 repeat first | apply lw | apply lx
 refine wp_ret ?_
 repeat (refine then_r ?_)
 exact bc (t:=2) rfl hD1 e1 ⟨rfl,bb1⟩
theorem refRight_neg {w : World} {v1 : Value} {zx zy : Int} (hz : zy < 0) (h1 : Pr w v1 19 (zx) (zy)) :
   Calls Tryz.prog 17 #[v1] w (fun e w'=>e = .returned (.bool false) ∧ Below w.heap.size w w'):=by
 obtain ⟨y1,z1,y1',z1',rfl,H1⟩:=h1.op
 go_enter Tryz.func17,Tryz.ntmps17
 repeat apply wp_seq
 refine mf fun K HK=>?_
 go_wp2
 refine HK.out _ _ (then_n ?_)
 refine mb (G:=fun W=>Code.wp _ _ _ _ W) ?_
 intro W_0 bb_0 K0
 obtain ⟨f1_0,f1'_0⟩:=H1.out _ _ _ bb_0 K0
 clear K0
 refine ly (G:=fun a=>Code.wp _ _ _ a _) 29 ?_
 intro a_0 ha hN_0 hD_0
 have e1_0:=lu ha 1 w.heap.size
 repeat first | apply lw | apply lx
 refine lm bb_0 [lp w.heap.size 0,kZ 19 (zx),lq,lq,lp w.heap.size 2,kZ 19 (zy),lq,lq,lq,lp w.heap.size 2,kZ 19 (zy),kZ 1 (0),kIs (.int .i64 (-1)),lr,lr,lr,ls,ls,ls,ls,ls,ls,ls,ls,ls,lr,lr] [[],[0],[1],[2],[],[4],[5],[3,6],[7],[],[9],[],[10,11],[12],[8,13],[14],[],[16],[],[18],[17,19],[20],[],[21,22],[23],[15,24],[25]] [3,4,5,6,7,8,9,10,11,12,13,14,15,16,17,18,19,20,21,22,23,24,25,26,27,28,2] [(3,true),(8,true),(15,false)] [16,17,18,19,20,21,22,23,24] ?_ ?_
 ·
   refine p01 e1_0 ?_; refine ag f1_0 ?_; refine aa rfl rfl (ac rfl rfl fun hC h1=>ti (r2_right (rr h1))) ?_; refine p10 ?_; refine p01 e1_0 ?_; refine ag f1'_0 ?_; refine aa rfl rfl (ac rfl rfl fun hC h1=>ti (r2_right (rr h1))) ?_; refine p20 ?_; refine p10 ?_; refine p01 e1_0 ?_; refine ag f1'_0 ?_; refine aa rfl rfl (aq [] rfl rfl fun hC=>tz fj) ?_; refine aa rfl rfl (ai rfl rfl rfl fun hC h1 h2=>ti (cmp_is (ord_lt hz) (r2_cmp ((rr h1).mono (by decide)) ((rr h2).mono (by decide))))) ?_; refine p10 ?_; refine p20 ?_; refine p10 ?_; refine am rfl ?_; refine am rfl ?_; refine am rfl ?_; refine am rfl ?_; refine am rfl ?_; refine am rfl ?_; refine am rfl ?_; refine am rfl ?_; refine am rfl ?_; refine p20 ?_; refine p10 ?_; exact ae rfl
 intro W x a1 hC hall ha hN1 hD1 bb1
 have e1:=ln ha hall 2 26
 repeat first | apply lw | apply lx
 refine wp_ret ?_
 repeat (refine then_r ?_)
 exact bc (t:=2) rfl hD1 e1 ⟨rfl,bb1⟩
theorem refRight_gcd {w : World} {v1 : Value} {zx zy : Int} (hz : 0 < zy) (hg : 1 < ((zgcd [(zx),(zy)] : Nat) : Int)) (h1 : Pr w v1 19 (zx) (zy)) :
   Calls Tryz.prog 17 #[v1] w (fun e w'=>e = .returned (.bool false) ∧ Below w.heap.size w w'):=by
 obtain ⟨y1,z1,y1',z1',rfl,H1⟩:=h1.op
 go_enter Tryz.func17,Tryz.ntmps17
 repeat apply wp_seq
 refine mf fun K HK=>?_
 go_wp2
 refine HK.out _ _ (then_n ?_)
 refine mb (G:=fun W=>Code.wp _ _ _ _ W) ?_
 intro W_0 bb_0 K0
 obtain ⟨f1_0,f1'_0⟩:=H1.out _ _ _ bb_0 K0
 clear K0
 refine ly (G:=fun a=>Code.wp _ _ _ a _) 29 ?_
 intro a_0 ha hN_0 hD_0
 have e1_0:=lu ha 1 w.heap.size
 repeat first | apply lw | apply lx
 refine lm bb_0 [lp w.heap.size 0,kZ 19 (zx),lq,lq,lp w.heap.size 2,kZ 19 (zy),lq,lq,lq,lp w.heap.size 2,kZ 19 (zy),kZ 1 (0),kIs (.int .i64 (1)),lq,lq,lq,lp w.heap.size 0,kZ 19 (zx),lp w.heap.size 2,kZ 19 (zy),kZRs [(19,zx),(19,zy)],kZ 19 (((zgcd [zx,zy] : Nat) : Int)),kZ 1 (1),kIs (.int .i64 (1)),lr,lr,lr] [[],[0],[1],[2],[],[4],[5],[3,6],[7],[],[9],[],[10,11],[12],[8,13],[14],[],[16],[],[18],[17,19],[20],[],[21,22],[23],[15,24],[25]] [3,4,5,6,7,8,9,10,11,12,13,14,15,16,17,18,19,20,21,22,23,24,25,26,27,28,2] [(3,true),(8,true),(15,true)] [] ?_ ?_
 ·
   refine p01 e1_0 ?_; refine ag f1_0 ?_; refine aa rfl rfl (ac rfl rfl fun hC h1=>ti (r2_right (rr h1))) ?_; refine p10 ?_; refine p01 e1_0 ?_; refine ag f1'_0 ?_; refine aa rfl rfl (ac rfl rfl fun hC h1=>ti (r2_right (rr h1))) ?_; refine p20 ?_; refine p10 ?_; refine p01 e1_0 ?_; refine ag f1'_0 ?_; refine aa rfl rfl (aq [] rfl rfl fun hC=>tz fj) ?_; refine aa rfl rfl (ai rfl rfl rfl fun hC h1 h2=>ti (cmp_is (ord_gt hz) (r2_cmp ((rr h1).mono (by decide)) ((rr h2).mono (by decide))))) ?_; refine p10 ?_; refine p20 ?_; refine p10 ?_; refine p01 e1_0 ?_; refine ag f1_0 ?_; refine p01 e1_0 ?_; refine ag f1'_0 ?_; refine aa rfl rfl (eu rfl rfl rfl) ?_; refine aa rfl rfl (ac rfl rfl fun hC h1=>tz (r2_gcd 19 h1 (by kernel_rfl) (by decide) (by simp))) ?_; refine aa rfl rfl (aq [] rfl rfl fun hC=>tz ie) ?_; refine aa rfl rfl (ai rfl rfl rfl fun hC h1 h2=>ti (cmp_is (ord_gt hg) (r2_cmp ((rr h1).mono (by decide)) ((rr h2).mono (by decide))))) ?_; refine p10 ?_; refine p20 ?_; refine p10 ?_; exact ae rfl
 intro W x a1 hC hall ha hN1 hD1 bb1
 have e1:=ln ha hall 2 26
 repeat first | apply lw | apply lx
 refine wp_ret ?_
 repeat (refine then_r ?_)
 exact bc (t:=2) rfl hD1 e1 ⟨rfl,bb1⟩
theorem refRight_no {w : World} {v1 : Value} {zx zy : Int} (hno : ¬ (0 < zy ∧ ((zgcd [(zx),(zy)] : Nat) : Int) = 1)) (h1 : Pr w v1 19 (zx) (zy)) : Calls Tryz.prog 17 #[v1] w (fun e w'=>e = .returned (.bool false) ∧ Below w.heap.size w w'):=by
 rcases Int.lt_trichotomy zy 0 with h | h | h
 · exact refRight_neg h h1
 · exact refRight_none h h1
 · refine refRight_gcd h ?_ h1; have:=kg h (x:=zx); have hn : ((zgcd [(zx),(zy)] : Nat) : Int) ≠ 1:=fun e=>hno ⟨h,e⟩; omega
theorem refTake_yes {w : World} {v1 : Value} {a : Rat} (h1 : Pr w v1 19 (a.num) ((a.den : Int))) :
   Calls Tryz.prog 48 #[v1] w (TellsP w 19 (a.num) ((a.den : Int))):=by
 obtain ⟨y1,z1,y1',z1',rfl,H1⟩:=h1.op
 go_enter Tryz.func48,Tryz.ntmps48
 repeat apply wp_seq
 refine mf fun K HK=>?_
 go_wp2
 refine HK.out _ _ (then_n ?_)
 refine mc (G:=fun W=>Code.wp _ _ _ _ W) ?_
 intro W_0 bb_0 K0 K1
 obtain ⟨f1_0,f1'_0⟩:=H1.out _ _ _ bb_0 K0
 have R_0:=ge K1
 clear K0 K1
 refine ly (G:=fun a=>Code.wp _ _ _ a _) 7 ?_
 intro a_0 ha hN_0 hD_0
 have e1_0:=lu ha 1 w.heap.size
 have e2_0:=lu ha 2 (w.heap.size + 1)
 repeat first | apply lw | apply lx
 refine lm bb_0 [kP 19 (a.num) ((a.den : Int)),lq] [[],[0]] [3,4] [] [] ?_ ?_
 ·
   refine aa rfl rfl (aw f1_0 f1'_0 e1_0 rfl) ?_; refine aa rfl rfl (ac rfl rfl fun hC h1=>ti (refRight_yes (pm h1))) ?_; exact ae rfl
 intro W_1 x a_1 hC hall ha hN_1 hD_1 bb_1
 have e1_1:=ab ha e1_0
 have e2_1:=ab ha e2_0
 have f1_1:=hC.at0 f1_0
 have f1'_1:=hC.at0 f1'_0
 have R_1:=hC.holds R_0
 have e4_1:=ln ha hall 4 1
 repeat first | apply lw | apply lx
 refine wp_cond_true e4_1 ?_
 repeat first | apply lw | apply lx
 refine mg bb_1 R_1 [kP 19 (a.num) ((a.den : Int)),kRes (w.heap.size + 1) 19 (a.num) ((a.den : Int))] [[],[0]] [5,999] [] [] ?_ ?_
 ·
   refine aa rfl rfl (aw (hG:=(by simp only [List.mem_singleton]; omega)) f1_1 f1'_1 e1_1 rfl) ?_; refine aa rfl rfl (bd R_1 rfl e2_1 rfl rfl) ?_; exact ae rfl
 intro W x a1 hC hall ha hN1 hD1 bb1
 obtain ⟨cs,hg,hP⟩:=me hall 1
 have e1:=ab (t:=2) ha e2_1
 repeat first | apply lw | apply lx
 refine wp_ret ?_
 repeat (refine then_r ?_)
 exact dl (t:=2) rfl hD1 e1 hg hP fun v hv=>⟨v,rfl,hv,bb1⟩
theorem refWhole {w : World} {v1 : Value} {z : Int} (h1 : Zr w v1 19 (z)) :
   Calls Tryz.prog 23 #[v1] w (TellsP w 19 (z) (1)):=by
 obtain ⟨y1,z1,rfl,H1⟩:=h1.op
 go_enter Tryz.func23,Tryz.ntmps23
 repeat apply wp_seq
 refine mf fun K HK=>?_
 go_wp2
 refine HK.out _ _ (then_n ?_)
 refine mc (G:=fun W=>Code.wp _ _ _ _ W) ?_
 intro W_0 bb_0 K0 K1
 have f1_0:=H1.out _ _ _ bb_0 K0
 have R_0:=ge K1
 clear K0 K1
 refine ly (G:=fun a=>Code.wp _ _ _ a _) 10 ?_
 intro a_0 ha hN_0 hD_0
 have e1_0:=lu ha 1 w.heap.size
 have e2_0:=lu ha 2 (w.heap.size + 1)
 repeat first | apply lw | apply lx
 refine lm bb_0 [kZ 19 (z),lq,lr] [[],[0],[1]] [3,4,5] [] [] ?_ ?_
 ·
   refine aj f1_0 e1_0 ?_; refine aa rfl rfl (ac rfl rfl fun hC h1=>ti (r2_right (rr h1))) ?_; refine p10 ?_; exact ae rfl
 intro W_1 x a_1 hC hall ha hN_1 hD_1 bb_1
 have e1_1:=ab ha e1_0
 have e2_1:=ab ha e2_0
 have f1_1:=hC.at0 f1_0
 have R_1:=hC.holds R_0
 have e5_1:=ln ha hall 5 2
 repeat first | apply lw | apply lx
 refine wp_cond_false e5_1 ?_
 repeat first | apply lw | apply lx
 refine mg bb_1 R_1 [kZ 19 (z),kZ 1 (1),kP 19 (z) (1),kRes (w.heap.size + 1) 19 (z) (1)] [[],[],[0,1],[2]] [7,8,9,999] [] [] ?_ ?_
 ·
   refine aj (hG:=(by simp only [List.mem_singleton]; omega)) f1_1 e1_1 ?_; refine aa rfl rfl (aq [] rfl rfl fun hC=>tz ie) ?_; refine aa rfl rfl (cw (k:=19) rfl rfl rfl) ?_; refine aa rfl rfl (bd R_1 rfl e2_1 rfl rfl) ?_; exact ae rfl
 intro W x a1 hC hall ha hN1 hD1 bb1
 obtain ⟨cs,hg,hP⟩:=me hall 3
 have e1:=ab (t:=2) ha e2_1
 repeat first | apply lw | apply lx
 refine wp_ret ?_
 repeat (refine then_r ?_)
 exact dl (t:=2) rfl hD1 e1 hg hP fun v hv=>⟨v,rfl,hv,bb1⟩
theorem refText_w {w : World} {v1 : Value} {a : Rat} (hz : a.den = 1) (h1 : Pr w v1 19 (a.num) ((a.den : Int))) : Calls Tryz.prog 25 #[v1] w (fun e w'=>e = .returned (.string (ztext (a.num))) ∧ Below w.heap.size w w'):=by
 obtain ⟨A1,l1,c1,A1',l1',c1',rfl,⟨r1,u1⟩,r1',u1'⟩:=h1
 obtain ⟨b1,hb1⟩ : ∃ s,s = decide (a.num < 0):=⟨_,rfl⟩
 obtain ⟨b1',hb1'⟩ : ∃ s,s = decide ((a.den : Int) < 0):=⟨_,rfl⟩
 rw [← hb1,← hb1']
 have H1:=Lib.hid (show _ ∧ _ ∧ _ ∧ _ ∧ _ ∧ _ from ⟨hb1,hb1',r1,u1,r1',u1'⟩)
 clear hb1 hb1' r1 u1 r1' u1'
 go_enter Tryz.func25,Tryz.ntmps25
 repeat apply wp_seq
 refine mf fun K HK=>?_
 go_wp2
 refine HK.out _ _ (then_n ?_)
 refine mb (G:=fun W=>Code.wp _ _ _ _ W) ?_
 intro W_0 bb_0 K0
 obtain ⟨m1,n1,m1',n1',_,_,_,_⟩:=cp K0
 have f1_0 : AtR W_0 (w.heap.size) 0 19 (a.num):=⟨A1,l1,c1,by rw [← H1.out.1]; exact m1,n1,A1,l1,c1,rfl,H1.out.2.2.1.below bb_0,H1.out.2.2.2.1⟩
 have f1'_0 : AtR W_0 (w.heap.size) 2 19 ((a.den : Int)):=⟨A1',l1',c1',by rw [← H1.out.2.1]; exact m1',n1',A1',l1',c1',rfl,H1.out.2.2.2.2.1.below bb_0,H1.out.2.2.2.2.2⟩
 have S_0 : Holds_ W_0 (w.heap.size) #[Value.bool b1,Value.slice A1 l1 c1,Value.bool b1',Value.slice A1' l1' c1']:=⟨⟨_,K0⟩,by simp [noDig]⟩
 clear K0 m1 n1 m1' n1'
 refine ly (G:=fun a=>Code.wp _ _ _ a _) 21 ?_
 intro a_0 ha hN_0 hD_0
 have e1_0:=lu ha 1 w.heap.size
 repeat first | apply lw | apply lx
 refine ce w.heap.size (w.heap.size) S_0 (by omega) 2 [0] [kP 19 (a.num) ((a.den : Int)),kP 19 (a.num) ((a.den : Int)),kRes (w.heap.size) 19 (a.num) ((a.den : Int))] [ [],[(0,some 4)],[(1,some 5)] ] [(0,some 4),(1,some 5),(2,none)] [] [] rfl bb_0.size ?_ ?_
 ·
   refine bj rfl rfl rfl ?_ ?_
   · exact st_loadKP f1_0 f1'_0 e1_0 rfl
   refine ah rfl rfl (ac rfl rfl fun hC h1=>tp (refTake_yes (pm h1))) ?_; refine ah rfl rfl (bd S_0 rfl e1_0 rfl rfl) ?_; exact cn rfl
 intro W_1 x hC hall
 obtain ⟨a_1,ha⟩ : ∃ a,a = putE x a_0 [(0,some 4),(1,some 5),(2,none)]:=⟨_,rfl⟩
 rw [← ha]
 have hN_1:=size_behind ha hN_0
 have hD_1:=defers_behind ha hD_0
 have bb_1:=bb_0.trans hC.below
 have e1_1:=ab ha e1_0
 have hres:=show (kRes (w.heap.size) 19 (a.num) ((a.den : Int))).sem _ _ _ _ from hall 2 (of_decide_eq_true (by kernel_rfl))
 obtain ⟨f1_1,f1'_1⟩:=dt hres
 obtain ⟨_,_,_,_,S_1⟩:=res_four hres
 clear hall hC ha hres
 refine then_n ?_
 repeat first | apply lw | apply lx
 refine lm bb_1 [lp w.heap.size 0,kZ 19 (a.num),kIs (.string (ztext (a.num))),kIs (.string (ztext (a.num)))] [[],[0],[1],[2]] [6,7,8,3] [] [] ?_ ?_
 ·
   refine p01 e1_1 ?_; refine ag f1_1 ?_; refine aa rfl rfl (ac rfl rfl fun hC h1=>ti (r2_text ((rr h1).zc (by decide)) (by decide))) ?_; refine p10 ?_; exact ae rfl
 intro W_2 x a_2 hC hall ha hN_2 hD_2 bb_2
 have e1_2:=ab ha e1_1
 have f1'_2:=hC.at0 f1'_1
 have e3_2:=ln ha hall 3 3
 repeat first | apply lw | apply lx
 refine lm bb_2 [lp w.heap.size 2,kZ 19 ((a.den : Int)),kZ 1 (1),kIs (.int .i64 (0)),lq] [[],[0],[],[1,2],[3]] [9,10,11,12,13] [] [] ?_ ?_
 ·
   refine p01 e1_2 ?_; refine ag f1'_2 ?_; refine aa rfl rfl (aq [] rfl rfl fun hC=>tz ie) ?_; refine aa rfl rfl (ai rfl rfl rfl fun hC h1 h2=>ti (cmp_is (ord_eq (by rw [hz]; rfl)) (r2_cmp ((rr h1).mono (by decide)) ((rr h2).mono (by decide))))) ?_; refine p10 ?_; exact ae rfl
 intro W_3 x a_3 hC hall ha hN_3 hD_3 bb_3
 have e3_3:=ab ha e3_2
 have e13_3:=ln ha hall 13 4
 refine wp_cond_true e13_3 ?_
 repeat first | apply lw | apply lx
 refine lm bb_3 [kIs (.string (ztext (a.num))),kIs (.string (ztext (a.num)))] [[],[0]] [14,2] [] [] ?_ ?_
 ·
   refine p01 e3_3 ?_; refine p10 ?_; exact ae rfl
 intro W x a1 hC hall ha hN1 hD1 bb1
 have e1:=ln ha hall 2 1
 repeat first | apply lw | apply lx
 refine wp_ret ?_
 repeat (refine then_r ?_)
 exact bc (t:=2) rfl hD1 e1 ⟨rfl,bb1⟩
theorem refText_b {w : World} {v1 : Value} {a : Rat} (hz : a.den ≠ 1) (h1 : Pr w v1 19 (a.num) ((a.den : Int))) : Calls Tryz.prog 25 #[v1] w (fun e w'=>e = .returned (.string (((ztext (a.num)) ++ ({ data:=#[47] })) ++ (ztext ((a.den : Int))))) ∧ Below w.heap.size w w'):=by
 obtain ⟨A1,l1,c1,A1',l1',c1',rfl,⟨r1,u1⟩,r1',u1'⟩:=h1
 obtain ⟨b1,hb1⟩ : ∃ s,s = decide (a.num < 0):=⟨_,rfl⟩
 obtain ⟨b1',hb1'⟩ : ∃ s,s = decide ((a.den : Int) < 0):=⟨_,rfl⟩
 rw [← hb1,← hb1']
 have H1:=Lib.hid (show _ ∧ _ ∧ _ ∧ _ ∧ _ ∧ _ from ⟨hb1,hb1',r1,u1,r1',u1'⟩)
 clear hb1 hb1' r1 u1 r1' u1'
 go_enter Tryz.func25,Tryz.ntmps25
 repeat apply wp_seq
 refine mf fun K HK=>?_
 go_wp2
 refine HK.out _ _ (then_n ?_)
 refine mb (G:=fun W=>Code.wp _ _ _ _ W) ?_
 intro W_0 bb_0 K0
 obtain ⟨m1,n1,m1',n1',_,_,_,_⟩:=cp K0
 have f1_0 : AtR W_0 (w.heap.size) 0 19 (a.num):=⟨A1,l1,c1,by rw [← H1.out.1]; exact m1,n1,A1,l1,c1,rfl,H1.out.2.2.1.below bb_0,H1.out.2.2.2.1⟩
 have f1'_0 : AtR W_0 (w.heap.size) 2 19 ((a.den : Int)):=⟨A1',l1',c1',by rw [← H1.out.2.1]; exact m1',n1',A1',l1',c1',rfl,H1.out.2.2.2.2.1.below bb_0,H1.out.2.2.2.2.2⟩
 have S_0 : Holds_ W_0 (w.heap.size) #[Value.bool b1,Value.slice A1 l1 c1,Value.bool b1',Value.slice A1' l1' c1']:=⟨⟨_,K0⟩,by simp [noDig]⟩
 clear K0 m1 n1 m1' n1'
 refine ly (G:=fun a=>Code.wp _ _ _ a _) 21 ?_
 intro a_0 ha hN_0 hD_0
 have e1_0:=lu ha 1 w.heap.size
 repeat first | apply lw | apply lx
 refine ce w.heap.size (w.heap.size) S_0 (by omega) 2 [0] [kP 19 (a.num) ((a.den : Int)),kP 19 (a.num) ((a.den : Int)),kRes (w.heap.size) 19 (a.num) ((a.den : Int))] [ [],[(0,some 4)],[(1,some 5)] ] [(0,some 4),(1,some 5),(2,none)] [] [] rfl bb_0.size ?_ ?_
 ·
   refine bj rfl rfl rfl ?_ ?_
   · exact st_loadKP f1_0 f1'_0 e1_0 rfl
   refine ah rfl rfl (ac rfl rfl fun hC h1=>tp (refTake_yes (pm h1))) ?_; refine ah rfl rfl (bd S_0 rfl e1_0 rfl rfl) ?_; exact cn rfl
 intro W_1 x hC hall
 obtain ⟨a_1,ha⟩ : ∃ a,a = putE x a_0 [(0,some 4),(1,some 5),(2,none)]:=⟨_,rfl⟩
 rw [← ha]
 have hN_1:=size_behind ha hN_0
 have hD_1:=defers_behind ha hD_0
 have bb_1:=bb_0.trans hC.below
 have e1_1:=ab ha e1_0
 have hres:=show (kRes (w.heap.size) 19 (a.num) ((a.den : Int))).sem _ _ _ _ from hall 2 (of_decide_eq_true (by kernel_rfl))
 obtain ⟨f1_1,f1'_1⟩:=dt hres
 obtain ⟨_,_,_,_,S_1⟩:=res_four hres
 clear hall hC ha hres
 refine then_n ?_
 repeat first | apply lw | apply lx
 refine lm bb_1 [lp w.heap.size 0,kZ 19 (a.num),kIs (.string (ztext (a.num))),kIs (.string (ztext (a.num)))] [[],[0],[1],[2]] [6,7,8,3] [] [] ?_ ?_
 ·
   refine p01 e1_1 ?_; refine ag f1_1 ?_; refine aa rfl rfl (ac rfl rfl fun hC h1=>ti (r2_text ((rr h1).zc (by decide)) (by decide))) ?_; refine p10 ?_; exact ae rfl
 intro W_2 x a_2 hC hall ha hN_2 hD_2 bb_2
 have e1_2:=ab ha e1_1
 have f1_2:=hC.at0 f1_1
 have f1'_2:=hC.at0 f1'_1
 have e3_2:=ln ha hall 3 3
 repeat first | apply lw | apply lx
 refine lm bb_2 [lp w.heap.size 2,kZ 19 ((a.den : Int)),kZ 1 (1),kIs (.int .i64 (1)),lr] [[],[0],[],[1,2],[3]] [9,10,11,12,13] [] [] ?_ ?_
 ·
   refine p01 e1_2 ?_; refine ag f1'_2 ?_; refine aa rfl rfl (aq [] rfl rfl fun hC=>tz ie) ?_; refine aa rfl rfl (ai rfl rfl rfl fun hC h1 h2=>ti (cmp_is (ord_gt (den_one hz)) (r2_cmp ((rr h1).mono (by decide)) ((rr h2).mono (by decide))))) ?_; refine p10 ?_; exact ae rfl
 intro W_3 x a_3 hC hall ha hN_3 hD_3 bb_3
 have e1_3:=ab ha e1_2
 have e3_3:=ab ha e3_2
 have f1_3:=hC.at0 f1_2
 have f1'_3:=hC.at0 f1'_2
 have e13_3:=ln ha hall 13 4
 refine wp_cond_false e13_3 ?_
 repeat first | apply lw | apply lx
 refine lm bb_3 [kIs (.string (ztext (a.num))),kIs (.string ((ztext (a.num)) ++ ({ data:=#[47] }))),lp w.heap.size 2,kZ 19 ((a.den : Int)),kIs (.string (ztext ((a.den : Int)))),kIs (.string (((ztext (a.num)) ++ ({ data:=#[47] })) ++ (ztext ((a.den : Int))))),kIs (.string (((ztext (a.num)) ++ ({ data:=#[47] })) ++ (ztext ((a.den : Int)))))] [[],[0],[],[2],[3],[1,4],[5]] [15,16,17,18,19,20,2] [] [] ?_ ?_
 ·
   refine p01 e3_3 ?_; refine p10 (hr:=fun _=>gj (by kernel_rfl) (by kernel_rfl) (f1_3.add1 (by decide) (by decide))) ?_; refine p01 e1_3 ?_; refine ag f1'_3 ?_; refine aa rfl rfl (ac rfl rfl fun hC h1=>ti (r2_text ((rr h1).zc (by decide)) (by decide))) ?_; refine p20 (hr:=fun _=>gj (by kernel_rfl) (by kernel_rfl) (f1_3.add2 f1'_3 (by decide) (by decide))) ?_; refine p10 ?_; exact ae rfl
 intro W x a1 hC hall ha hN1 hD1 bb1
 have e1:=ln ha hall 2 6
 repeat first | apply lw | apply lx
 refine wp_ret ?_
 repeat (refine then_r ?_)
 exact bc (t:=2) rfl hD1 e1 ⟨rfl,bb1⟩
theorem refText_yes {w : World} {v1 : Value} {a : Rat} (h1 : Pr w v1 19 a.num (a.den : Int)) : Calls Tryz.prog 25 #[v1] w (fun e w'=>e = .returned (.string (textQ a)) ∧ Below w.heap.size w w'):=by
 by_cases h : a.den = 1
 · rw [gn h]; exact refText_w h h1
 · rw [ff h]; exact refText_b h h1
theorem vals_take_succ {L : List Arow} {k : Nat} (hk : k < L.length) : (vals L).take (k + 1) = (vals L).take k ++ [val L[k].2.2]:=by
 rw [List.take_add_one,List.getElem?_eq_getElem (by simpa [vals] using hk)]
 simp only [vals,List.getElem_map,Option.toList_some]
theorem dval_bound {ds : List Nat} (h : dright ds) {N : Nat} (hv : dval ds < 1000000000 ^ N) : ds.length ≤ 9 * N:=by
 refine dright_length h ?_
 rw [Nat.pow_mul]; exact hv
theorem refAdd {w : World} {N : Nat} {A : Option Addr} {c : Nat} {L : List Arow} (hL : kj w A L) (hrow : ∀ r ∈ L,r.2.2.length ≤ 1000) (hacc : ∀ k,k ≤ L.length → ((vals L).take k).foldl (fun a b=>a + b) 0 < 1000000000 ^ N) (hN : N ≤ 10000) (hlen : L.length ≤ 100000) :
   Calls Tryz.prog 127 #[.slice A L.length c] w (RetNat w ((vals L).foldl (fun a b=>a + b) 0)):=by
 have HAcc:=Lib.hid hacc
 have HRow:=Lib.hid hrow
 clear hacc hrow
 obtain ⟨n,hn⟩ : ∃ n : Nat,n = L.length:=⟨_,rfl⟩
 have hn1 : n ≤ 100000:=by omega
 rw [← hn]
 have HN:=Lib.hid hn
 clear hn hlen
 go_enter Tryz.func127,Tryz.ntmps127
 go_wp2
 go_loopw [3, 4] (fun v iv wr => ∃ (k : Nat) (A' : Option Addr) (c' : Nat) (os : List Nat), k ≤ n ∧ iv = .int .i64 (k : Int) ∧ v = .slice A' os.length c' ∧ Row wr A' (u8s os) ∧ dright os ∧ Hid (dval os = ((vals L).take k).foldl (fun a b => a + b) 0) ∧ Below w.heap.size w wr)
   (fun _ iv _=>n - (intOf iv).toNat)
 case atStart=>exact ⟨0,none,0,[],Nat.zero_le _,rfl,rfl,Row.nil _ _,⟨br _,.inl rfl⟩,by simp [Hid,dval],Below.refl _ _⟩
 case round =>
   obtain ⟨k,A',c',os,hk,rfl,rfl,hro,hos,HO,hb⟩:=hrel; have hsz:=hb.size; have hol : os.length ≤ 90000:=Nat.le_trans (dval_bound hos (by rw [HO.out]; exact HAcc.out k (by rw [← HN.out]; exact hk))) (by omega)
   by_cases hlt : k < n
   · have hkL : k < L.length:=by rw [← HN.out]; exact hlt
     obtain ⟨ad,rfl,hce⟩:=(hL.1.below hb).at_ (k:=k) (by rw [List.length_map]; exact hkL); rw [List.getElem_map] at hce; have hT:=vals_take_succ hkL
     obtain ⟨r,hr⟩ : ∃ r,r = L[k]:=⟨_,rfl⟩
     rw [← hr] at hce hT; have hrm : r ∈ L:=by rw [hr]; exact List.getElem_mem _
     have hrl:=HRow.out r hrm; obtain ⟨hrd0,hdsm,_⟩:=hL.2 _ hrm; obtain ⟨Ar,cr,ds⟩:=r; have hce' : wr.cell? (ad.add k) = some (.slice Ar ds.length cr):=hce; have hrd : Row wr Ar (u32s ds):=Row.below hrd0 hb; have hrl' : ds.length ≤ 1000:=hrl; have hread:=refRead (c:=cr) hrd hdsm hrl'; have HRD:=Lib.hid hread; have HT:=Lib.hid hT
     obtain ⟨M,hM1,hM2⟩ : ∃ M,M ≤ 1001 ∧ 1001 ≤ M:=⟨1001,Nat.le_refl _,Nat.le_refl _⟩
     have hdl : val ds < 1000000000 ^ M:=Nat.lt_of_lt_of_le (val_lt32 hdsm) (Nat.pow_le_pow_right (by decide) (by omega)); have HDL:=Lib.hid hdl; clear hr hce hrm hrl hread hT hkL hrd0 hdl
     go_wp2_with fail
     refine HRD.out.mono ?_; rintro e w2 ⟨A2,c2,es,rfl,hr2,hlc2,hes,hv2,hb2⟩; have hel : es.length ≤ 9 * M:=dval_bound hes (by rw [hv2]; exact HDL.out); have hpl:=refPlus (c1:=c') (c2:=c2) (hro.below hb2) hr2 hos.1 hes.1 (by omega) (by omega); have HPL:=Lib.hid hpl; have hb2':=hb.trans (hb2.mono hsz); have HV2:=Lib.hid hv2; clear hpl hb2 hb hv2 hrd hdsm
     go_wp2_with fail
     refine HPL.out.mono ?_; rintro e w3 ⟨A3,c3,fs,rfl,hr3,hlc3,hfs,hv3,hb3⟩; have hb3':=hb2'.trans (hb3.mono hb2'.size); have HV3:=Lib.hid hv3; clear hb3 hb2' hv3
     go_wp2
     go_roundw
     case rel=>exact ⟨k + 1,A3,c3,fs,by omega,by go_num,rfl,hr3,hfs,by
       show _ = _
       rw [HT.out,List.foldl_append,← HO.out,HV3.out,HV2.out]; rfl,hb3'⟩
     case measure=>simp [intOf]; omega
   · have hwr:=refWrite (c:=c') hro hos (by omega); have HW:=Lib.hid hwr; have hk' : k = n:=by omega
     have HV : Hid (dval os = (vals L).foldl (fun a b=>a + b) 0):=by
       show _ = _
       rw [HO.out,hk',HN.out,List.take_of_length_le (by simp [vals])]
     clear hwr
     go_wp2_with fail
     refine HW.out.mono ?_; rintro e w4 ⟨v,rfl,⟨rs,h1,h2,h3⟩,hb4⟩
     go_wp2
     go_ret
     exact ⟨_,rfl,⟨rs,h1,by rw [h2]; exact HV.out,h3.mono hsz⟩,hb.trans (hb4.mono hsz)⟩
def i64s (ds : List Nat) : List Value:=ds.map fun (d : Nat)=>Value.int .i64 (d : Int)
theorem i64s_length (ds : List Nat) : (i64s ds).length = ds.length:=by simp [i64s]
theorem info_int : (Tryz.prog.info? 3).map (fun i=>(i.zero,i.size,i.bytes)) = some (some (.int .i64 0),1,8):=by kernel_rfl
theorem own_zeros64 {w : World} {B n : Nat} {v : Value} (h : w.ownsRow B 3 1 v n (madeCells #[Value.int .i64 0] n).toList) : Own w B 3 v (i64s (List.replicate n 0)):=by
 rw [toList_madeCells_one,show List.replicate n (Value.int .i64 0) = i64s (List.replicate n 0) from by simp [i64s]] at h
 exact Own.mk_ h
theorem own_set64 {w : World} {B g n c : Nat} {ds : List Nat} (h : Own w B 3 (.slice (some ⟨g,0,none⟩) n c) (i64s ds)) (k d : Nat) :
   Own (w.setCell ⟨g,k,none⟩ (.int .i64 (d : Int))) B 3 (.slice (some ⟨g,0,none⟩) n c) (i64s (ds.set k d)):=by
 have hn:=h.lt.1
 have hh : w.ownsRow B 3 1 (.slice (some ⟨g,0,none⟩) n c) n (i64s ds):=by rw [hn]; rw [hn] at h; exact h
 have:=(hh.stored k (.int .i64 (d : Int))).1
 rw [show (i64s ds).set k (.int .i64 (d : Int)) = i64s (ds.set k d) from by simp [i64s,List.map_set]] at this
 exact Own.mk_ this
theorem own_cell64 {w : World} {B T g n c : Nat} {ds : List Nat} (h : Own w B T (.slice (some ⟨g,0,none⟩) n c) (i64s ds)) {k : Nat} (hk : k < ds.length) : w.cell? ⟨g,k,none⟩ = some (.int .i64 ((ds.getD k 0 : Nat) : Int)) ∧ w.frozen? ⟨g,k,none⟩ = false:=by
 obtain ⟨h1,h2⟩:=own_cell h (k:=k) (by rw [i64s_length]; exact hk)
 refine ⟨?_,h2⟩
 rw [h1]
 simp [i64s,List.getD_eq_getElem?_getD,List.getElem?_eq_getElem hk]
theorem dval_set {ps : List Nat} {k : Nat} (hk : k < ps.length) (d : Nat) : dval (ps.set k d) + 10 ^ k * ps.getD k 0 = dval ps + 10 ^ k * d:=by
 induction ps generalizing k with
 | nil=>simp at hk
 | cons p ps ih =>
   cases k with
   | zero=>simp [dval]; omega
   | succ k =>
     have:=ih (k:=k) (by simpa using hk); simp only [List.set_cons_succ,dval,List.getD_cons_succ,Nat.pow_succ]; rw [Nat.mul_comm (10 ^ k) 10,Nat.mul_assoc,Nat.mul_assoc]; omega
theorem dval_replicate (n : Nat) : dval (List.replicate n 0) = 0:=by
 induction n with
 | zero=>rfl
 | succ k ih=>rw [List.replicate_succ,dval,ih]
theorem dmul_step {ps ys : List Nat} {i j p x y V : Nat} (hk : i + j < ps.length) (hp : p = ps.getD (i + j) 0) (hy : ys.getD j 0 = y) (h : dval ps = V + x * 10 ^ i * dval (ys.take j)) :
   dval (ps.set (i + j) (p + x * y)) = V + x * 10 ^ i * dval (ys.take (j + 1)):=by
 have h1:=dval_set hk (p + x * y)
 rw [← hp,Nat.mul_add,h] at h1
 rw [da,hy,Nat.mul_add (x * 10 ^ i),show x * 10 ^ i * (10 ^ j * y) = 10 ^ (i + j) * (x * y) from by rw [Nat.pow_add]; ac_rfl]
 omega
theorem take_set_succ {os : List Nat} {k d : Nat} (h : k < os.length) : (os.set k d).take (k + 1) = os.take k ++ [d]:=by
 rw [List.take_add_one,List.getElem?_set_self h,List.take_set_of_le (Nat.le_refl _)]; rfl
theorem dcarry_step {os ps : List Nat} {k cy s : Nat} (hk : k < os.length) (hs : ps.getD k 0 = s) (h : dval (os.take k) + 10 ^ k * cy = dval (ps.take k)) :
   dval ((os.set k ((cy + s) % 10)).take (k + 1)) + 10 ^ (k + 1) * ((cy + s) / 10) = dval (ps.take (k + 1)):=by
 rw [take_set_succ hk,cz,da,hs,List.length_take,Nat.min_eq_left (by omega),Nat.pow_succ,Nat.mul_assoc]
 simp only [dval,Nat.mul_zero,Nat.add_zero]
 have h2:=Nat.mod_add_div (cy + s) 10
 have h3 : 10 ^ k * (cy + s) = 10 ^ k * ((cy + s) % 10) + 10 ^ k * (10 * ((cy + s) / 10)):=by rw [← Nat.mul_add,h2]
 rw [Nat.mul_add] at h3
 omega
theorem getD_set_same {ps : List Nat} {k d : Nat} (hk : k < ps.length) : (ps.set k d).getD k 0 = d:=by
 rw [List.getD_eq_getElem?_getD,List.getElem?_set_self hk]; rfl
theorem getD_set_le {ps : List Nat} {k d M : Nat} (h : ∀ t,ps.getD t 0 ≤ M) (hd : d ≤ M) (t : Nat) : (ps.set k d).getD t 0 ≤ M:=by
 by_cases ht : t = k
 · subst ht; rcases Nat.lt_or_ge t ps.length with hl | hl
   · rw [getD_set_same hl]; exact hd
   · rw [List.set_eq_of_length_le hl]; exact h t
 · rw [ef _ (by omega)]; exact h t
theorem xy_le {x y : Nat} (hx : x < 10) (hy : y < 10) : x * y ≤ 81:=Nat.mul_le_mul (show x ≤ 9 by omega) (show y ≤ 9 by omega)
theorem refTimes {w : World} {A1 A2 : Option Addr} {c1 c2 : Nat} {xs ys : List Nat} (hr1 : Row w A1 (u8s xs)) (hr2 : Row w A2 (u8s ys)) (hx : small 10 xs) (hy : small 10 ys) (hl1 : xs.length ≤ 100000) (hl2 : ys.length ≤ 100000) :
   Calls Tryz.prog 141 #[.slice A1 xs.length c1,.slice A2 ys.length c2] w (RetDec w (dval xs * dval ys)):=by
 obtain ⟨i0,hi,hz0,hz1,hz2⟩:=info_parts info_int
 obtain ⟨j0,hj,hy0,hy1,hy2⟩:=info_parts jd
 obtain ⟨n,hn⟩ : ∃ n : Nat,n = xs.length:=⟨_,rfl⟩
 obtain ⟨m,hm⟩ : ∃ m : Nat,m = ys.length:=⟨_,rfl⟩
 have hn1 : n ≤ 100000:=by omega
 have hm1 : m ≤ 100000:=by omega
 rw [← hn,← hm]
 have HN:=Lib.hid hn
 have HM:=Lib.hid hm
 clear hn hm
 rcases Nat.eq_zero_or_pos n with rfl | hn0
 · go_enter Tryz.func141,Tryz.ntmps141
   go_wp2
   all_goals
     go_ret
     exact ⟨none,0,[],rfl,Row.nil _ _,Nat.le_refl _,⟨br _,.inl rfl⟩,by rw [List.eq_nil_of_length_eq_zero HN.out.symm]; simp [dval],Below.refl _ _⟩
 rcases Nat.eq_zero_or_pos m with rfl | hm0
 · have hnz : ((n : Int) == 0) = false:=by rw [beq_eq_false_iff_ne]; omega
   go_enter Tryz.func141,Tryz.ntmps141
   go_wp2
   all_goals
     go_ret
     exact ⟨none,0,[],rfl,Row.nil _ _,Nat.le_refl _,⟨br _,.inl rfl⟩,by rw [List.eq_nil_of_length_eq_zero (l:=ys) HM.out.symm]; simp [dval],Below.refl _ _⟩
 have hnz : ((n : Int) == 0) = false:=by rw [beq_eq_false_iff_ne]; omega
 have hmz : ((m : Int) == 0) = false:=by rw [beq_eq_false_iff_ne]; omega
 go_enter Tryz.func141,Tryz.ntmps141
 go_wp2_with (at_make; refine wpList_make_full _ rfl _ _ 144 rfl w.heap.size 3 i0 (.int .i64 0) 1 Tryz.underlying144 hi hz0 hz1 .i64 .i64 ((n : Int) + (m : Int)) ((n : Int) + (m : Int)) (n + m) rfl rfl (by omega) (by omega) (by rw [hz2]; omega) (by unfold maxLen; omega) (by simp) ?_)
 intro w1 hown hgrow
 have ho1:=own_zeros64 hown
 have hb1 : Below w.heap.size w w1:=(Below.refl _ _).grown hgrow (Nat.le_refl _) (fun k h=>by cases h)
 clear hown hgrow
 go_wp2_with fail
 go_loopw [6] (fun iv wr => ∃ (i : Nat) (ps : List Nat), i ≤ n ∧ iv = .int .i64 (i : Int) ∧ Own wr w.heap.size 3 (.slice (some ⟨w.heap.size, 0, none⟩) (n + m) (n + m)) (i64s ps) ∧ Hid (ps.length = n + m ∧ dval ps = dval (xs.take i) * dval ys ∧ ∀ t, ps.getD t 0 ≤ 81 * i) ∧ Below w.heap.size w wr)
   (fun iv _=>n - (intOf iv).toNat)
 case atStart=>exact ⟨0,List.replicate (n + m) 0,Nat.zero_le _,rfl,ho1,⟨by simp,by rw [dval_replicate]; simp [dval],fun t=>by
   rw [List.getD_eq_getElem?_getD,List.getElem?_replicate]
   split <;> simp⟩,hb1⟩
 case round =>
   obtain ⟨i,ps,hi1,rfl,hp,HO,hb⟩:=hrel; have hsz:=hb.size
   by_cases hlt : i < n
   · obtain ⟨ad1,x,rfl,hxc,hxx,hxm⟩:=(hr1.below hb).byte (k:=i) (by rw [← HN.out]; exact hlt); have hx10:=hx x hxm; clear hxm
     go_wp2_with fail
     obtain ⟨V,hV⟩ : ∃ V,V = dval ps:=⟨_,rfl⟩
     have HV:=Lib.hid hV
     obtain ⟨wo,hwo⟩ : ∃ wo : World,wo = wr:=⟨_,rfl⟩
     have hb0 : Below w.heap.size w wo:=hwo ▸ hb; have hp0 : Own wo w.heap.size 3 (.slice (some ⟨w.heap.size,0,none⟩) (n + m) (n + m)) (i64s ps):=hwo ▸ hp; rw [← hwo]; clear hwo hb hp hsz hxc hV
     go_loopw [7] (fun jv wr => ∃ (j : Nat) (qs : List Nat), j ≤ m ∧ jv = .int .i64 (j : Int) ∧ Own wr w.heap.size 3 (.slice (some ⟨w.heap.size, 0, none⟩) (n + m) (n + m)) (i64s qs) ∧ Hid (qs.length = n + m ∧ dval qs = V + x * 10 ^ i * dval (ys.take j) ∧ (∀ t, qs.getD t 0 ≤ 81 * i + 81) ∧ ∀ t, i + j ≤ t → qs.getD t 0 ≤ 81 * i) ∧ Below w.heap.size w wr)
       (fun jv _=>m - (intOf jv).toNat)
     case atStart=>exact ⟨0,ps,Nat.zero_le _,rfl,hp0,⟨HO.out.1,by rw [HV.out]; simp [dval],fun t=>Nat.le_trans (HO.out.2.2 t) (by omega),fun t _=>HO.out.2.2 t⟩,hb0⟩
     case round =>
       obtain ⟨j,qs,hj1,rfl,hq,HQ,hbq⟩:=hrel; have hszq:=hbq.size
       by_cases hjm : j < m
       · obtain ⟨ad2,y,rfl,hyc,hyy,hym⟩:=(hr2.below hbq).byte (k:=j) (by rw [← HM.out]; exact hjm); have hy10:=hy y hym; obtain ⟨ad1',x',e1,hxc,hxx',_⟩:=(hr1.below hbq).byte (k:=i) (by rw [← HN.out]; exact hlt); injection e1 with e1; subst e1; obtain rfl : x' = x:=hxx'.out.symm.trans hxx.out; obtain ⟨hqc,hqf⟩:=own_cell64 hq (k:=i + j) (by rw [HQ.out.1]; omega)
         obtain ⟨p,hpe⟩ : ∃ p,p = qs.getD (i + j) 0:=⟨_,rfl⟩
         have hpb : p ≤ 81 * i:=by rw [hpe]; exact HQ.out.2.2.2 _ (Nat.le_refl _)
         rw [← hpe] at hqc; have hzb:=xy_le hx10 hy10; have hst:=dmul_step (ps:=qs) (ys:=ys) (i:=i) (j:=j) (p:=p) (x:=x') (y:=y) (V:=V) (by rw [HQ.out.1]; omega) hpe hyy.out HQ.out.2.1
         obtain ⟨z,hz⟩ : ∃ z,z = x' * y:=⟨_,rfl⟩
         have hzi : (x' : Int) * (y : Int) = (z : Int):=by rw [hz]; simp
         rw [← hz] at hzb hst; have HST:=Lib.hid hst; have hij : (i : Int) + (j : Int) < (n : Int) + (m : Int):=by omega
         have hij0 : 0 ≤ (i : Int) + (j : Int):=by omega
         clear hst hpe hz hym hxx'
         go_wp2
         go_region
         all_goals
           go_wp2
           go_roundw
           case rel=>exact ⟨j + 1,qs.set (i + j) (p + z),by omega,by go_num,by
             have:=own_set64 hq (i + j) (p + z); rw [show ((p + z : Nat) : Int) = (p : Int) + (z : Int) from by omega] at this
             exact this,⟨by rw [List.length_set]; exact HQ.out.1,HST.out,getD_set_le HQ.out.2.2.1 (by omega),fun t ht=>by rw [ef _ (by omega)]; exact HQ.out.2.2.2 t (by omega)⟩,Below.drew (hbq.setCell (Nat.le_refl _) _)⟩
           case measure=>first | (simp [intOf]; done) | (simp [intOf]; omega)
       · have hjm' : j = m:=by omega
         have HJ:=Lib.hid hjm'; clear hjm'
         go_wp2
         go_roundw
         case rel=>exact ⟨i + 1,qs,by omega,by go_num,hq,⟨HQ.out.1,by
           rw [HQ.out.2.1,HJ.out,HM.out,List.take_length,HV.out,HO.out.2.1,da,hxx.out,Nat.add_mul,Nat.mul_comm x],fun t=>Nat.le_trans (HQ.out.2.2.1 t) (by omega)⟩,hbq⟩
         case measure=>first | (simp [intOf]; done) | (simp [intOf]; omega)
   · have hin : i = n:=by omega
     have hPv : dval ps = dval xs * dval ys:=by rw [HO.out.2.1,hin,HN.out,List.take_length]
     have hPb : ∀ t,ps.getD t 0 ≤ 81 * n:=by rw [← hin]; exact HO.out.2.2
     have hPl:=HO.out.1; have HPV:=Lib.hid hPv; have HPB:=Lib.hid hPb; have HPL:=Lib.hid hPl; clear hin hPv hPb hPl
     go_wp2_with (at_make; refine wpList_make_full _ rfl _ _ 118 rfl wr.heap.size 5 j0 (.int .u8 0) 1 Tryz.underlying118 hj hy0 hy1 .i64 .i64 ((n : Int) + (m : Int)) ((n : Int) + (m : Int)) (n + m) rfl rfl (by omega) (by omega) (by rw [hy2]; omega) (by unfold maxLen; omega) (by simp) ?_)
     intro w4 hown4 hgrow4; have ho4:=gm hown4; have hb4 : Below wr.heap.size wr w4:=(Below.refl _ _).grown hgrow4 (Nat.le_refl _) (fun k h=>by cases h); clear hown4 hgrow4
     obtain ⟨W2,hW2⟩ : ∃ W2,W2 = wr:=⟨_,rfl⟩
     rw [← hW2] at hp hb hsz hb4 ho4 ⊢; clear hW2
     obtain ⟨g2,hg2⟩ : ∃ g2,g2 = W2.heap.size:=⟨_,rfl⟩
     rw [← hg2] at hsz hb4 ho4 ⊢; have HG:=Lib.hid hg2; clear hg2
     go_wp2_with fail
     go_loopw [9, 10] (fun cv kv wr => ∃ (k cy : Nat) (os : List Nat), k ≤ n + m ∧ kv = .int .i64 (k : Int) ∧ cv = .int .i64 (cy : Int) ∧ cy ≤ 81 * n ∧ Own wr g2 5 (.slice (some ⟨g2, 0, none⟩) (n + m) (n + m)) (u8s os) ∧ Hid (os.length = n + m ∧ small 10 os ∧ dval (os.take k) + 10 ^ k * cy = dval (ps.take k)) ∧ Below g2 W2 wr)
       (fun _ kv _=>n + m - (intOf kv).toNat)
     case atStart=>exact ⟨0,0,List.replicate (n + m) 0,Nat.zero_le _,rfl,rfl,Nat.zero_le _,ho4,⟨by simp,dq _ _ (by decide),by simp [dval]⟩,hb4⟩
     case round =>
       obtain ⟨k,cy,os,hk,rfl,rfl,hcy,ho,HQ,hbk⟩:=hrel
       by_cases hkm : k < n + m
       · obtain ⟨hqc,hqf⟩:=own_cell64 (hp.below (hbk.mono (Nat.le_of_eq HG.out.symm))) (k:=k) (by rw [HPL.out]; omega)
         obtain ⟨s,hse⟩ : ∃ s,s = ps.getD k 0:=⟨_,rfl⟩
         have hsb : s ≤ 81 * n:=by rw [hse]; exact HPB.out _
         rw [← hse] at hqc; obtain ⟨hoc,hof⟩:=own_cell ho (k:=k) (by rw [av,HQ.out.1]; omega); have hst:=dcarry_step (os:=os) (ps:=ps) (k:=k) (cy:=cy) (s:=s) (by rw [HQ.out.1]; omega) hse.symm HQ.out.2.2; have HST:=Lib.hid hst; have hkm2 : (k : Int) < (n : Int) + (m : Int):=by omega
         clear hst hse
         go_wp2
         go_roundw
         case rel=>exact ⟨k + 1,(cy + s) / 10,os.set k ((cy + s) % 10),by omega,by go_num,by go_num,by omega,jm ho k ((cy + s) % 10),⟨by rw [List.length_set]; exact HQ.out.1,ga HQ.out.2.1 _ (Nat.mod_lt _ (by decide)),HST.out⟩,hbk.setCell (Nat.le_refl _) _⟩
         case measure=>first | (simp [intOf]; done) | (simp [intOf]; omega)
       · have hkn : k = n + m:=by omega
         have hV : dval os = dval xs * dval ys:=by
           have h:=HQ.out.2.2; rw [hkn,List.take_of_length_le (by rw [HQ.out.1]; exact Nat.le_refl _),List.take_of_length_le (by rw [HPL.out]; exact Nat.le_refl _),HPV.out] at h
           have h2 : dval xs * dval ys < 10 ^ (n + m):=by
             rw [Nat.pow_add,HN.out,HM.out]; exact Nat.mul_lt_mul'' (dval_lt hx) (dval_lt hy)
           rcases Nat.eq_zero_or_pos cy with h3 | h3
           · rw [h3] at h; simpa using h
           · have h4 : 10 ^ (n + m) * 1 ≤ 10 ^ (n + m) * cy:=Nat.mul_le_mul_left _ h3; omega
         have HV:=Lib.hid hV; have hol : os.length ≤ 1000000:=by rw [HQ.out.1]; omega
         have htr:=il (c:=n + m) ho.row8 hol (by rw [HQ.out.1]; exact Nat.le_refl _); rw [HQ.out.1] at htr; have HTR:=Lib.hid htr; have hsl : (strip os).length ≤ n + m:=by rw [← HQ.out.1]; exact strip_length os
         have hbF : Below w.heap.size w wr:=hb.trans (hbk.mono (by rw [HG.out]; exact hb.size)); clear htr hV hkn
         go_wp2_with fail
         refine HTR.out.mono ?_; rintro e w' ⟨⟨rfl,hrt⟩,rfl⟩
         go_wp2
         go_ret
         exact ⟨_,_,_,rfl,hrt,hsl,strip_dright HQ.out.2.1,by rw [fv]; exact HV.out,hbF⟩
theorem dright_one : dright [1]:=⟨fun x hx=>by rw [List.mem_singleton.1 hx]; decide,.inr (by simp)⟩
theorem refMul {w : World} {N : Nat} {A : Option Addr} {c : Nat} {L : List Arow} (hL : kj w A L) (hrow : ∀ r ∈ L,r.2.2.length ≤ 1000) (hacc : ∀ k,k ≤ L.length → ((vals L).take k).foldl (fun a b=>a * b) 1 < 1000000000 ^ N) (hN : N ≤ 10000) (hlen : L.length ≤ 100000) :
   Calls Tryz.prog 119 #[.slice A L.length c] w (RetNat w ((vals L).foldl (fun a b=>a * b) 1)):=by
 have HAcc:=Lib.hid hacc
 have HRow:=Lib.hid hrow
 clear hacc hrow
 obtain ⟨n,hn⟩ : ∃ n : Nat,n = L.length:=⟨_,rfl⟩
 have hn1 : n ≤ 100000:=by omega
 rw [← hn]
 have HN:=Lib.hid hn
 clear hn hlen
 go_enter Tryz.func119,Tryz.ntmps119
 go_wp2
 go_loopw [3, 4] (fun v iv wr => ∃ (k : Nat) (A' : Option Addr) (c' : Nat) (os : List Nat), k ≤ n ∧ iv = .int .i64 (k : Int) ∧ v = .slice A' os.length c' ∧ Row wr A' (u8s os) ∧ dright os ∧ Hid (dval os = ((vals L).take k).foldl (fun a b => a * b) 1) ∧ Below w.heap.size w wr)
   (fun _ iv _=>n - (intOf iv).toNat)
 case atStart=>exact ⟨0,some ⟨w.heap.size,0,none⟩,1,[1],Nat.zero_le _,rfl,rfl,(own_lit8 w 1 (Nat.le_refl _)).row8,dright_one,by simp [Hid,dval],(Below.refl _ _).alloc (Nat.le_refl _) _⟩
 case round =>
   obtain ⟨k,A',c',os,hk,rfl,rfl,hro,hos,HO,hb⟩:=hrel; have hsz:=hb.size; have hol : os.length ≤ 90000:=Nat.le_trans (dval_bound hos (by rw [HO.out]; exact HAcc.out k (by rw [← HN.out]; exact hk))) (by omega)
   by_cases hlt : k < n
   · have hkL : k < L.length:=by rw [← HN.out]; exact hlt
     obtain ⟨ad,rfl,hce⟩:=(hL.1.below hb).at_ (k:=k) (by rw [List.length_map]; exact hkL); rw [List.getElem_map] at hce; have hT:=vals_take_succ hkL
     obtain ⟨r,hr⟩ : ∃ r,r = L[k]:=⟨_,rfl⟩
     rw [← hr] at hce hT; have hrm : r ∈ L:=by rw [hr]; exact List.getElem_mem _
     have hrl:=HRow.out r hrm; obtain ⟨hrd0,hdsm,_⟩:=hL.2 _ hrm; obtain ⟨Ar,cr,ds⟩:=r; have hce' : wr.cell? (ad.add k) = some (.slice Ar ds.length cr):=hce; have hrd : Row wr Ar (u32s ds):=Row.below hrd0 hb; have hrl' : ds.length ≤ 1000:=hrl; have hread:=refRead (c:=cr) hrd hdsm hrl'; have HRD:=Lib.hid hread; have HT:=Lib.hid hT
     obtain ⟨M,hM1,hM2⟩ : ∃ M,M ≤ 1001 ∧ 1001 ≤ M:=⟨1001,Nat.le_refl _,Nat.le_refl _⟩
     have hdl : val ds < 1000000000 ^ M:=Nat.lt_of_lt_of_le (val_lt32 hdsm) (Nat.pow_le_pow_right (by decide) (by omega)); have HDL:=Lib.hid hdl; clear hr hce hrm hrl hread hT hkL hrd0 hdl
     go_wp2_with fail
     refine HRD.out.mono ?_; rintro e w2 ⟨A2,c2,es,rfl,hr2,hlc2,hes,hv2,hb2⟩; have hel : es.length ≤ 9 * M:=dval_bound hes (by rw [hv2]; exact HDL.out); have hpl:=refTimes (c1:=c') (c2:=c2) (hro.below hb2) hr2 hos.1 hes.1 (by omega) (by omega); have HPL:=Lib.hid hpl; have hb2':=hb.trans (hb2.mono hsz); have HV2:=Lib.hid hv2; clear hpl hb2 hb hv2 hrd hdsm
     go_wp2_with fail
     refine HPL.out.mono ?_; rintro e w3 ⟨A3,c3,fs,rfl,hr3,hlc3,hfs,hv3,hb3⟩; have hb3':=hb2'.trans (hb3.mono hb2'.size); have HV3:=Lib.hid hv3; clear hb3 hb2' hv3
     go_wp2
     go_roundw
     case rel=>exact ⟨k + 1,A3,c3,fs,by omega,by go_num,rfl,hr3,hfs,by
       show _ = _
       rw [HT.out,List.foldl_append,← HO.out,HV3.out,HV2.out]; rfl,hb3'⟩
     case measure=>simp [intOf]; omega
   · have hwr:=refWrite (c:=c') hro hos (by omega); have HW:=Lib.hid hwr; have hk' : k = n:=by omega
     have HV : Hid (dval os = (vals L).foldl (fun a b=>a * b) 1):=by
       show _ = _
       rw [HO.out,hk',HN.out,List.take_of_length_le (by simp [vals])]
     clear hwr
     go_wp2_with fail
     refine HW.out.mono ?_; rintro e w4 ⟨v,rfl,⟨rs,h1,h2,h3⟩,hb4⟩
     go_wp2
     go_ret
     exact ⟨_,rfl,⟨rs,h1,by rw [h2]; exact HV.out,h3.mono hsz⟩,hb.trans (hb4.mono hsz)⟩
theorem r2_mk {w : World} {v : Value} {n k : Nat} (b : Bool) (h : Rr w v n) (hn : n < 1000000000 ^ k) (hk : k ≤ 1000) : Calls Tryz.prog 94 #[.bool b,v] w (TellsZ w k (zOf n b)):=by
 obtain ⟨A,l,c,rfl⟩:=h.shape
 obtain ⟨xs,rfl,hr,hx,hv,hl⟩:=gb h hn
 refine (ref2of_any (c:=c) (N:=k) b hr (fun d hd=>Nat.lt_trans (hx.1 d hd) (by decide)) (by omega) (by rw [hv]; exact hn) (by omega)).mono fun e w' he=>fk (by rw [bk]; exact hn) ?_
 rw [bk,fc,← hv]
 exact he
theorem zOf_not (z : Int) : zOf z.natAbs (!decide (z < 0)) = -z:=by
 unfold zOf
 by_cases h : z < 0
 · rw [decide_eq_true h]; simp; omega
 · rw [decide_eq_false h]; simp; omega
theorem r2_neg {w : World} {v : Value} {k : Nat} {z : Int} (h : Zr w v k z) (hk : k ≤ 1000) : Calls Tryz.prog 56 #[v] w (TellsZ w k (-z)):=by
 have hnm:=fun (W : World) (hW : Below w.heap.size w W)=>r2_norm ((h.below hW).zc hk) (by omega)
 have HZ:=Lib.hid h.lt
 obtain ⟨A,l,c,rfl,_,_⟩:=h
 obtain ⟨s,hs⟩ : ∃ s,s = decide (z < 0):=⟨_,rfl⟩
 rw [← hs] at hnm ⊢
 have HNM:=Lib.hid hnm
 have HS:=Lib.hid hs
 clear hnm hs
 have hfin : ∀ (e : Ending) (w' : World),TellsZ w k (zOf z.natAbs (!s)) e w' → TellsZ w k (-z) e w':=fun e w' h=>by rw [HS.out,zOf_not] at h; exact h
 refine Calls.mono ?_ hfin
 obtain ⟨y,hy⟩ : ∃ y,y = zOf z.natAbs (!s):=⟨_,rfl⟩
 rw [← hy]
 have HY:=Lib.hid hy
 clear hfin hy
 go_enter Tryz.func56,Tryz.ntmps56
 go_wp2_with fail
 refine (HNM.out _ (bal (bal (Below.refl _ _) _) _)).mono ?_
 rintro e w1 ⟨_,rfl,⟨A1,k1,c1,rfl,h1,_⟩,hb⟩
 rw [← HS.out]
 have K1:=(hb.block (w.heap.size + 1) (by simp)).trans (new_at (by simp))
 have hb1:=bstep (bal (bal (Below.refl w.heap.size w) _) _) hb
 have hmk:=fun (W : World) (hW : Below w1.heap.size w1 W)=>r2_mk (!s) (h1.below hW) HZ.out hk
 rw [← HY.out] at hmk
 have HMK:=Lib.hid hmk
 have HK:=Lib.hid K1
 have hsz:=lt_block K1
 clear hmk hb h1 K1
 go_wp2_with fail
 refine (HMK.out _ (bal (Below.refl _ _) _)).mono ?_
 rintro e w2 ⟨_,rfl,⟨A2,k2,c2,rfl,h2,hy2⟩,hb2⟩
 have hb20:=bstep (bal (Below.refl _ _) _) hb2
 have K2:=(hb20.block (w.heap.size + 1) hsz).trans HK.out
 obtain ⟨m1,m2,m3,m4⟩:=cell_of_two K2
 have hb3:=bstep hb1 hb20
 have hts:=ch (a':=.bool (decide (y < 0))) (b':=.slice A2 k2 c2) K2 (fun d h=>by cases h) (fun d h=>by cases h) h2
 have HTS:=Lib.hid hts
 clear hts hb2 hb20 h2 K2 HMK
 go_wp2
 obtain ⟨n1,n2,n3⟩:=HTS.out
 refine bodyPost_ret (v:=.agg #[.bool (decide (y < 0)),.slice A2 k2 c2]) (by simp [results,Tryz.results56,go_sem,n1,n2]) rfl ?_
 exact ⟨_,rfl,⟨A2,k2,c2,rfl,n3,hy2⟩,(hb3.setCell (by simp) _).setCell (by simp) _⟩
theorem right_small {xs : List Nat} (h : right xs) : small 4294967296 xs:=fun d hd=>Nat.lt_trans (h.1 d hd) (by decide)
theorem vr_sub {w : World} {A1 A2 : Option Addr} {k1 c1 k2 c2 n1 n2 N : Nat} (h1 : Rr w (.slice A1 k1 c1) n1) (h2 : Rr w (.slice A2 k2 c2) n2) (hn1 : n1 < 1000000000 ^ N) (hn2 : n2 < 1000000000 ^ N) (hN : N ≤ 1000) :
   Calls Tryz.prog 128 #[.slice A1 k1 c1,.slice A2 k2 c2] w (RetSB w (n1 - n2) (decide (n2 ≤ n1))):=by
 obtain ⟨xs,rfl,r1,x1,rfl,l1⟩:=gb h1 hn1
 obtain ⟨ys,rfl,r2,x2,rfl,l2⟩:=gb h2 hn2
 exact all_refSub r1 r2 (right_small x1) (right_small x2) (by omega) (by omega) hn1 (by omega)
def kRR (n1 n2 : Nat) : PK:=.list 2 (fun g w=>∃ v1 v2,w.heap[g]? = some (.cells #[v1,v2] 22 (0,0)) ∧ Rr w v1 n1 ∧ Rr w v2 n2) (fun _ _ _ ⟨v1,v2,h1,h2,h3⟩ hb=>⟨v1,v2,(hb.block _ (lt_block h1)).trans h1,h2.below hb,h3.below hb⟩) (fun _ _ _ _ ⟨v1,v2,h1,h2,h3⟩ hs hne=>⟨v1,v2,(hs.other _ hne).trans h1,hs.rr h2,hs.rr h3⟩)
def kRB (z : Int) (ok : Bool) : PK:=.p (fun v w=>∃ a,v = .tuple #[a,.bool ok] ∧ Rr w a z.natAbs) (fun _ _ _ ⟨a,h1,h2⟩ hb=>⟨a,h1,h2.below hb⟩) (fun _ _ _ _ ⟨a,h1,h2⟩ hs=>⟨a,h1,hs.rr h2⟩)
theorem kh {S0 : Nat} {z : Int} {ok : Bool} : ∀ w x v,(kRB z ok).sem S0 x v w → ∃ vs u,v = .tuple vs ∧ vs[0]? = some u ∧ (kRow z).move S0 x u w w ∧ (kRow z).sem S0 x u w:=fun _ _ _ ⟨a,h1,h2⟩=>⟨_,a,h1,rfl,Below.refl _ _,h2⟩
theorem ki {S0 : Nat} {z : Int} {ok : Bool} : ∀ w x v,(kRB z ok).sem S0 x v w → ∃ vs u,v = .tuple vs ∧ vs[1]? = some u ∧ (kIs (.bool ok)).move S0 x u w w ∧ (kIs (.bool ok)).sem S0 x u w:=fun _ _ _ ⟨_,h1,_⟩=>⟨_,_,h1,rfl,Below.refl _ _,rfl⟩
theorem run_new2 {w : World} {A A' : Option Addr} {l c l' c' : Nat} : (Instr.buildSlice 112 2 #[(0,.slice A l c),(1,.slice A' l' c')]).run Tryz.prog w = .ok (.slice (some ⟨w.heap.size,0,none⟩) 2 2) (w.alloc (.cells #[.slice A l c,.slice A' l' c'] 22)):=by go_simp
section
variable {G : List Nat} {C : World → Prop} {S0 B : Nat} {ks : List PK} {a0 : Act} {i : Nat} {N : Nat} {W0 : World} {T : TypeId} {pos : String} {af : Array Edge} {gu : Option (Nat × Bool)}
theorem st_rows2 {d j1 t1 j2 t2 : Nat} {z1 z2 : Int}       (h1 : at_ ks j1 = kRow z1) (h2 : at_ ks j2 = kRow z2) (hi : at_ ks i = kRR z1.natAbs z2.natAbs) (hN : a0.tmps.size = N:=by assumption) (hd : decide (d < N) = true:=by kernel_rfl) (ht1 : decide (t1 < N) = true:=by kernel_rfl) (ht2 : decide (t2 < N) = true:=by kernel_rfl) (hne : decide (t1 = t2) = false:=by kernel_rfl) (hS : S0 ≤ W0.heap.size:=by exact Nat.le_refl _) :
   PkStep Tryz.prog (Reg B W0 G) S0 ks a0 i { dst:=some d,op:=.buildSlice 112 2 #[(0,.tmp t1),(1,.tmp t2)],type:=T,pos:=pos,after:=af,guard:=gu } [(j1,some t1),(j2,some t2)]:=by
 intro w x hC
 refine ay _ fun hdeps K hK=>?_
 have g1:=hdeps (j1,some t1) (by simp)
 have g2:=hdeps (j2,some t2) (by simp)
 rw [h1] at g1
 rw [h2] at g2
 have g1' : Rr w (x j1) z1.natAbs:=g1
 have g2' : Rr w (x j2) z2.natAbs:=g2
 have hne' : t1 ≠ t2:=of_decide_eq_false hne
 have e1 : (putE x a0 [(j1,some t1),(j2,some t2)]).eval (.tmp t1) = x j1:=putE_new _ _ (by rw [hN]; exact of_decide_eq_true ht1) (by simp [slotAt,Ne.symm hne'])
 have e2 : (putE x a0 [(j1,some t1),(j2,some t2)]).eval (.tmp t2) = x j2:=putE_new _ _ (by rw [hN]; exact of_decide_eq_true ht2) (by simp [slotAt])
 obtain ⟨A1,l1,c1,hx⟩:=g1'.shape
 obtain ⟨A2,l2,c2,hy⟩:=g2'.shape
 have hsz:=hC.below.size
 refine cb rfl (by rw [az,hN]) hd (ex_slice2 (e1.trans hx) (e2.trans hy) run_new2) (hK _ _ ?_ ?_)
 · rw [hi]; exact ⟨(Below.refl _ _).alloc (Nat.le_refl _) _,_,rfl,Nat.le_refl _⟩
 · rw [hi,← hx,← hy]; have ba:=fun (o : Obj)=>(Below.refl w.heap.size w).alloc (Nat.le_refl _) o; exact ⟨_,rfl,Nat.le_trans hS hsz,lt_block (heap_alloc_new w _),_,_,heap_alloc_new w _,g1'.below (ba _),g2'.below (ba _)⟩
theorem fo {d j : Nat} {t : Tmp} {f : Value → World → Prop} {hb hs}    (hj : at_ ks j = .p f hb hs) (hi : at_ ks i = .p f hb hs) (hN : a0.tmps.size = N:=by assumption) (hd : decide (d < N) = true:=by kernel_rfl) (ht : decide (t < N) = true:=by kernel_rfl) :
   PkStep Tryz.prog C S0 ks a0 i { dst:=some d,op:=.assign (.tmp t),type:=T,pos:=pos,after:=af,guard:=gu } [(j,some t)]:=by
 intro w x hC
 refine ay _ fun hdeps K hK=>?_
 have h1:=hdeps _ (List.mem_singleton.2 rfl)
 have hev : (putE x a0 [(j,some t)]).eval (.tmp t) = x j:=putE_new _ _ (by rw [hN]; exact of_decide_eq_true ht) (by simp [slotAt])
 refine cb (v:=x j) (w':=w) rfl (by rw [az,hN]) hd ?_ (hK _ _ ?_ ?_)
 · show (pure (Next.value ((putE x a0 [(j,some t)]).eval (.tmp t))) : Sem Next).run _ w = _
   rw [hev]; rfl
 · rw [hi]; exact Below.refl _ _
 · rw [hi]; rw [hj] at h1; exact h1
theorem fg {d : Nat} {t : Tmp} {z : Int} {v : Value} (hv : a0.eval (.tmp t) = v) (hr : Rr W0 v z.natAbs) (hG : ∀ w,C w → Rr w v z.natAbs)   (hi : at_ ks i = kRow z) (hN : a0.tmps.size = N:=by assumption) (hd : decide (d < N) = true:=by kernel_rfl) :
   PkStep Tryz.prog C S0 ks a0 i { dst:=some d,op:=.move (.tmp t),type:=T,pos:=pos,after:=af,guard:=gu } []:=by
 intro w x hC
 refine ay _ fun _ K hK=>?_
 refine cb (v:=v) (w':=w) rfl hN hd ?_ (hK _ _ ?_ ?_)
 · show (pure (Next.value (a0.eval (.tmp t))) : Sem Next).run _ w = _
   rw [hv]; rfl
 · rw [hi]; exact Below.refl _ _
 · rw [hi]; exact hG w hC
end
theorem rows_of {w : World} {v : Value} {S0 : Nat} {x : Nat → Value} {n1 n2 M : Nat} (h : (kRR n1 n2).sem S0 x v w) (hM : M ≤ 1000) (h1 : n1 < 1000000000 ^ M) (h2 : n2 < 1000000000 ^ M) : ∃ g A1 c1 xs A2 c2 ys,v = .slice (some ⟨g,0,none⟩) 2 2 ∧ kj w (some ⟨g,0,none⟩) [(A1,c1,xs),(A2,c2,ys)] ∧ xs.length ≤ 1000 ∧ ys.length ≤ 1000 ∧ val xs = n1 ∧ val ys = n2:=by
 obtain ⟨g,hv,_,_,v1,v2,hg,hr1,hr2⟩:=h
 obtain ⟨A1,k1,c1,e1⟩:=hr1.shape
 obtain ⟨A2,k2,c2,e2⟩:=hr2.shape
 subst e1
 subst e2
 obtain ⟨xs,rfl,r1,x1,q1,l1⟩:=gb hr1 h1
 obtain ⟨ys,rfl,r2,x2,q2,l2⟩:=gb hr2 h2
 refine ⟨g,A1,c1,xs,A2,c2,ys,hv,⟨fun j u hj=>?_,fun r hr=>?_⟩,by omega,by omega,q1,q2⟩
 · have hadd : (⟨g,0,none⟩ : Addr).add j = ⟨g,j,none⟩:=by unfold Addr.add; split <;> simp_all
   refine ⟨_,rfl,?_⟩; rw [hadd,cell_of_row w g j _ _ _ hg]
   simpa [sl] using hj
 · rcases List.mem_cons.1 hr with h | h
   · rw [h]; exact ⟨r1,right_small x1,by show xs.length ≤ _; omega⟩
   · rw [List.mem_singleton.1 h]; exact ⟨r2,right_small x2,by show ys.length ≤ _; omega⟩
theorem r1_add {w : World} {v : Value} {S0 : Nat} {x : Nat → Value} {n1 n2 N : Nat} (h : (kRR n1 n2).sem S0 x v w) (hn : n1 + n2 < 1000000000 ^ N) (hN : N ≤ 1000) : Calls Tryz.prog 127 #[v] w (RetR w (n1 + n2)):=by
 obtain ⟨g,A1,c1,xs,A2,c2,ys,rfl,hR,l1,l2,q1,q2⟩:=rows_of h hN (by omega) (by omega)
 have h:=refAdd (c:=2) (N:=N) hR (fun r hr=>by
     rcases List.mem_cons.1 hr with h | h
     · rw [h]; exact l1
     · rw [List.mem_singleton.1 h]; exact l2) (fun k hk=>by
     have hk2 : k ≤ 2:=hk; have h3 : k = 0 ∨ k = 1 ∨ k = 2:=by omega
     rcases h3 with rfl | rfl | rfl <;> simp [vals,q1,q2] <;> omega) (by omega) (by simp)
 refine h.mono fun e w' ⟨v,he,hv,hb⟩=>?_
 have e1 : (vals [(A1,c1,xs),(A2,c2,ys)]).foldl (fun a b=>a + b) 0 = n1 + n2:=by simp [vals,q1,q2]
 rw [e1] at hv
 have hr:=ft hv hn (by omega)
 obtain ⟨A,k,c,rfl⟩:=hr.shape
 exact ⟨A,k,c,he,hr,hb⟩
theorem r1_mul {w : World} {v : Value} {S0 : Nat} {x : Nat → Value} {n1 n2 N M : Nat} (h : (kRR n1 n2).sem S0 x v w) (hn1 : n1 < 1000000000 ^ M) (hn2 : n2 < 1000000000 ^ M) (hn : n1 * n2 < 1000000000 ^ N) (hMN : M ≤ N) (h0 : 0 < N) (hN : N ≤ 1000) : Calls Tryz.prog 119 #[v] w (RetR w (n1 * n2)):=by
 obtain ⟨g,A1,c1,xs,A2,c2,ys,rfl,hR,l1,l2,q1,q2⟩:=rows_of h (M:=M) (by omega) hn1 hn2
 have h1p : 1 < 1000000000 ^ N:=Nat.lt_of_lt_of_le (by decide) (pow_le (j:=1) h0)
 have hn1' : n1 < 1000000000 ^ N:=Nat.lt_of_lt_of_le hn1 (pow_le hMN)
 have h:=refMul (c:=2) (N:=N) hR (fun r hr=>by
     rcases List.mem_cons.1 hr with h | h
     · rw [h]; exact l1
     · rw [List.mem_singleton.1 h]; exact l2) (fun k hk=>by
     have hk2 : k ≤ 2:=hk; have h3 : k = 0 ∨ k = 1 ∨ k = 2:=by omega
     rcases h3 with rfl | rfl | rfl
     · simpa [vals] using h1p
     · simpa [vals,q1] using hn1'
     · simpa [vals,q1,q2] using hn) (by omega) (by simp)
 refine h.mono fun e w' ⟨v,he,hv,hb⟩=>?_
 have e1 : (vals [(A1,c1,xs),(A2,c2,ys)]).foldl (fun a b=>a * b) 1 = n1 * n2:=by simp [vals,q1,q2]
 rw [e1] at hv
 have hr:=ft hv hn (by omega)
 obtain ⟨A,k,c,rfl⟩:=hr.shape
 exact ⟨A,k,c,he,hr,hb⟩
theorem r1_sub {w : World} {v1 v2 : Value} {n1 n2 N : Nat} (h1 : Rr w v1 n1) (h2 : Rr w v2 n2) (hn1 : n1 < 1000000000 ^ N) (hn2 : n2 < 1000000000 ^ N) (hN : N ≤ 1000) {z : Int} {ok : Bool} (hz : z.natAbs = n1 - n2) (hok : decide (n2 ≤ n1) = ok) {S0 : Nat} {x : Nat → Value} : Calls Tryz.prog 128 #[v1,v2] w (Told (kRB z ok) S0 x w):=by
 obtain ⟨A1,k1,c1,rfl⟩:=h1.shape
 obtain ⟨A2,k2,c2,rfl⟩:=h2.shape
 refine (vr_sub h1 h2 hn1 hn2 hN).mono fun e w' ⟨A,k,c,he,hr,hb⟩=>?_
 subst hok
 exact ⟨_,he,hb,_,rfl,by rw [hz]; exact hr⟩
theorem tr {P : Program} {F : FuncId} {vs : Array Value} {w : World} {S0 : Nat} {x : Nat → Value} {z : Int} {n : Nat} (hz : z.natAbs = n) (h : Calls P F vs w (RetR w n)) : Calls P F vs w (Told (kRow z) S0 x w) :=
 h.mono fun _ _ ⟨_,_,_,he,hr,hb⟩=>⟨_,he,hb,by rw [← hz] at hr; exact hr⟩
end Go.Proofs.YtnbhihhjgpddcaaGreatDoor

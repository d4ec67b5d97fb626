/- RatioTells: for every two ratios the call returns true; the ratios read behind the call as they read before. Conditions: those of the given row and card: the three tables of the library are laid as the program's text lays them. Of any two ratios that came in, of at most 8 digits a number: LentRatio over any ratio that came in: SameRatio and KeptRatio over ratios that came in, of at most 8 digits a number, and the lent copies: SameRatio and the law's own of that name, over right ratios below the 79th power of the base.. The law RatioTells, walked: A ratio that came in, opened; the wrap of a law's row with the world's shape kept beside the laid tables; the library's cell that its search asks. RatioTells, its row and its card: What nat.Of and whetstoneref01.Of tell of any text of at most 4000 bytes, in one form: Contract of the answer's Parse of stage 3: What num.Parse and the answer's Parse tell of any text of at most 100 bytes: The law RatioTexts, walked: What RatioEnds asks: -/
import Derived.Test.YtnbhihhjgpddcaaGreatDoorPR9
import Derived.Test.YtnbhihhjgpddcaaGreatDoorPR6
import Derived.Test.YtnbhihhjgpddcaaGreatDoorPR7
import Derived.Test.YtnbhihhjgpddcaaGreatDoorTie
import Derived.Test.YtnbhihhjgpddcaaGreatDoorCards
import Derived.SevenTiedAt
import Derived.Shelf.Vars
import Derived.Test.YtnbhihhjgpddcaaGreatDoorPR3
import Derived.Test.YtnbhihhjgpddcaaGreatDoorPR4
import Derived.Test.YtnbhihhjgpddcaaGreatDoorPR2
import Derived.Test.YtnbhihhjgpddcaaGreatDoorPR5
import Derived.Test.YtnbhihhjgpddcaaGreatDoorPR1
import Derived.Deep.Cut
set_option maxRecDepth 100000
set_option maxHeartbeats 16000000
set_option linter.unusedVariables false
set_option linter.unusedSimpArgs false
namespace Go.Proofs.YtnbhihhjgpddcaaGreatDoor
open Go.RowKit
section
variable {b1 b1' b2 b2' : Bool} {xs1 ys1 xs2 ys2 : List Nat} {a b : Rat} {ra rb : Bool}
theorem BothTell.ho (h : BothTell b1 xs1 b1' ys1 a ra) (w : World) : Hid (∀ (W : World) (v : Value),Below w.heap.size w W → Qv W v b1 xs1 b1' ys1 → Calls Tryz.prog 43 #[v] W (TellsP W 9 a.num (a.den : Int))):=Lib.hid fun W v _ hv=>(h.2.2 W v hv).2.1
theorem BothTell.ht (h : BothTell b1 xs1 b1' ys1 a ra) (w : World) : Hid (∀ (W : World) (v : Value),Below w.heap.size w W → Qv W v b1 xs1 b1' ys1 → Calls Tryz.prog 48 #[v] W (TellsP W 9 a.num (a.den : Int))):=Lib.hid fun W v _ hv=>(h.2.2 W v hv).2.2.2
theorem BothTell.right (h : BothTell b1 xs1 b1' ys1 a ra) (W : World) (v : Value) (hv : Qv W v b1 xs1 b1' ys1) : Calls Tryz.prog 16 #[v] W (SaysB W ra) ∧ Calls Tryz.prog 17 #[v] W (SaysB W ra):=⟨(h.2.2 W v hv).1,(h.2.2 W v hv).2.2.1⟩
theorem up_p {P : Program} {F : FuncId} {vs : Array Value} {w : World} {k n : Nat} {x y x' y' : Int} (hk : k ≤ n) (hx : x = x') (hy : y = y') (h : Calls P F vs w (TellsP w k x y)) : Calls P F vs w (TellsP w n x' y'):=by
 subst hx; subst hy
 exact h.mono fun _ _ ⟨v,e,hp,hb⟩=>⟨v,e,hp.mono hk,hb⟩
theorem up_pe {P : Program} {F : FuncId} {vs : Array Value} {w : World} {k n : Nat} {e : Int} {x y : Int} {q : Rat} (hk : k ≤ n) (hx : x = q.num) (hy : y = (q.den : Int)) (h : Calls P F vs w fun r w'=>∃ v,r = .returned (.tuple #[v,.int .i64 e]) ∧ Pr w' v k x y ∧ Below w.heap.size w w') : Calls P F vs w (TellsPE w q e n):=by
 subst hx; subst hy
 exact h.mono fun _ _ ⟨v,e,hp,hb⟩=>⟨v,e,hp.mono hk,hb⟩
theorem div_is (a b : Rat) : Rat.divInt (a.num * (b.den : Int)) ((a.den : Int) * b.num) = a * b⁻¹:=by
 have e1 : a = Rat.divInt a.num (a.den : Int):=(Rat.num_divInt_den a).symm
 have e2 : b⁻¹ = Rat.divInt (b.den : Int) b.num:=by
   have:=Rat.inv_divInt b.num (b.den : Int); rw [Rat.num_divInt_den] at this; exact this
 have e3 : a * b⁻¹ = Rat.divInt a.num (a.den : Int) * Rat.divInt (b.den : Int) b.num:=by rw [← e2,← e1]
 rw [e3,Rat.divInt_mul_divInt]
theorem divBoth (hA : BothTell b1 xs1 b1' ys1 a ra) (hB : BothTell b2 xs2 b2' ys2 b rb) : ∃ (q : Rat) (e : Int), ∀ (W : World) (v1 v2 : Value), Qv W v1 b1 xs1 b1' ys1 → Qv W v2 b2 xs2 b2' ys2 →
   Calls Tryz.prog 9 #[v1,v2] W (TellsPE W q e 79) ∧ Calls Tryz.prog 10 #[v1,v2] W (TellsPE W q e 79):=by
 by_cases hz : b.num = 0
 · exact ⟨0,9,fun W v1 v2 h1 h2=>⟨up_pe (k:=9) (by decide) rfl rfl (DivQ0 hz (hB.ho W) h1 h2),up_pe (k:=1) (by decide) rfl rfl (refDivQ0 hz (hA.ht W) (hB.ht W) h1 h2)⟩⟩
 · exact ⟨a * b⁻¹,0,fun W v1 v2 h1 h2=>⟨up_pe (k:=18) (by decide) rfl rfl (DivQ hz (hA.ho W) (hB.ho W) h1 h2),up_pe (k:=40) (by decide) (by rw [div_is]) (by rw [div_is]) (refDivQ hz (hA.ht W) (hB.ht W) h1 h2)⟩⟩
theorem ofBoth2 (s1 : small 4294967296 xs1) (l1 : xs1.length ≤ 8) (s2 : small 4294967296 xs2) (l2 : xs2.length ≤ 8) : ∃ (q : Rat) (e : Int), ∀ (W : World) (v1 v2 : Value), Nv W v1 b1 xs1 → Nv W v2 b2 xs2 →
   Calls Tryz.prog 11 #[v1,v2] W (TellsPE W q e 79) ∧ Calls Tryz.prog 12 #[v1,v2] W (TellsPE W q e 79):=by
 obtain ⟨q,e,h⟩:=ofBoth (b1:=b1) (b2:=b2) s1 l1 s2 l2
 exact ⟨q,e,fun W v1 v2 h1 h2=>⟨up_pe (k:=40) (by decide) rfl rfl (h W v1 v2 h1 h2).1,up_pe (k:=40) (by decide) rfl rfl (h W v1 v2 h1 h2).2⟩⟩
theorem wholeBoth2 (s1 : small 4294967296 xs1) (l1 : xs1.length ≤ 8) : ∃ (x y : Int), ∀ (W : World) (v1 : Value), Nv W v1 b1 xs1 →
   Calls Tryz.prog 22 #[v1] W (TellsP W 79 x y) ∧ Calls Tryz.prog 23 #[v1] W (TellsP W 79 x y):=by
 obtain ⟨x,y,h⟩:=wholeBoth (b1:=b1) s1 l1
 exact ⟨x,y,fun W v1 h1=>⟨up_p (k:=40) (by decide) rfl rfl (h W v1 h1).1,up_p (k:=40) (by decide) rfl rfl (h W v1 h1).2⟩⟩
theorem cmpBoth (hA : BothTell b1 xs1 b1' ys1 a ra) (hB : BothTell b2 xs2 b2' ys2 b rb) : ∃ (o : Int), ∀ (W : World) (v1 v2 : Value), Qv W v1 b1 xs1 b1' ys1 → Qv W v2 b2 xs2 b2' ys2 →
   Calls Tryz.prog 14 #[v1,v2] W (fun e w'=>e = .returned (.int .i64 o) ∧ Below W.heap.size W w') ∧ Calls Tryz.prog 15 #[v1,v2] W (fun e w'=>e = .returned (.int .i64 o) ∧ Below W.heap.size W w') :=
 ⟨_,fun W _ _ h1 h2=>⟨CmpQ (hA.ho W) (hB.ho W) h1 h2,refCmpQ (hA.ht W) (hB.ht W) h1 h2⟩⟩
theorem negBoth (hA : BothTell b1 xs1 b1' ys1 a ra) : ∃ (x y : Int), ∀ (W : World) (v1 : Value), Qv W v1 b1 xs1 b1' ys1 →
   Calls Tryz.prog 18 #[v1] W (TellsP W 79 x y) ∧ Calls Tryz.prog 19 #[v1] W (TellsP W 79 x y) :=
 ⟨_,_,fun W _ h1=>⟨up_p (k:=9) (by decide) (Rat.neg_num a) (congrArg Int.ofNat (Rat.neg_den a)) (NegQ (hA.ho W) h1),up_p (k:=9) (by decide) rfl rfl (refNegQ (hA.ht W) h1)⟩⟩
theorem subBoth (hA : BothTell b1 xs1 b1' ys1 a ra) (hB : BothTell b2 xs2 b2' ys2 b rb) : ∃ (x y : Int), ∀ (W : World) (v1 v2 : Value), Qv W v1 b1 xs1 b1' ys1 → Qv W v2 b2 xs2 b2' ys2 →
   Calls Tryz.prog 20 #[v1,v2] W (TellsP W 79 x y) ∧ Calls Tryz.prog 21 #[v1,v2] W (TellsP W 79 x y) :=
 ⟨_,_,fun W _ _ h1 h2=>⟨up_p (k:=19) (by decide) rfl rfl (SubQ (hA.ho W) (hB.ho W) h1 h2),up_p (k:=40) (by decide) rfl rfl (refSubQ ⟨⟨hA.1,hA.2.1⟩,hB.1,hB.2.1⟩ (hA.ht W) (hB.ht W) h1 h2)⟩⟩
theorem textBoth (hA : BothTell b1 xs1 b1' ys1 a ra) : ∃ (s : ByteArray), ∀ (W : World) (v1 : Value), Qv W v1 b1 xs1 b1' ys1 → Tab W ∧ 2 ≤ W.heap.size →
   Calls Tryz.prog 24 #[v1] W (fun e w'=>e = .returned (.string s) ∧ Below W.heap.size W w') ∧ Calls Tryz.prog 25 #[v1] W (fun e w'=>e = .returned (.string s) ∧ Below W.heap.size W w') :=
 ⟨_,fun W _ h1 ht=>⟨TextQ (Lib.hid ht) (hA.ho W) h1,refTextQ (hA.ht W) h1⟩⟩
theorem floorBoth (hA : BothTell b1 xs1 b1' ys1 a ra) : ∃ (z : Int), ∀ (W : World) (v1 : Value), Qv W v1 b1 xs1 b1' ys1 →
   Calls Tryz.prog 27 #[v1] W (TellsZ W 40 z) ∧ Calls Tryz.prog 28 #[v1] W (TellsZ W 40 z) :=
 ⟨_,fun W _ h1=>⟨gf (FloorQ (hA.ho W) h1) (by decide) rfl,refFloorQ (hA.ht W) h1⟩⟩
end
theorem lentRatio_q {w : World} {v : Value} {b b' : Bool} {xs ys : List Nat} (h : Qv w v b xs b' ys) (hlen : xs.length ≤ 4000) (hlen' : ys.length ≤ 4000) :
   Calls Tryz.prog 8 #[v] w fun e w'=>∃ u,e = .returned u ∧ Lv w' u b xs b' ys ∧ Below w.heap.size w w':=by
 obtain ⟨A,c,A',c',rfl,hr,hr'⟩:=h
 have hl:=fun (W : World) (hW : Below w.heap.size w W)=>lentInt_any (c:=c) (b:=b) (hr.below hW) hlen
 have hl':=fun (W : World) (hW : Below w.heap.size w W)=>lentInt_any (c:=c') (b:=b') (hr'.below hW) hlen'
 have HL:=Lib.hid hl
 have HL':=Lib.hid hl'
 clear hl hl' hr hr' hlen hlen'
 go_enter Tryz.func8,Tryz.ntmps8
 go_wp2_with fail
 refine (HL.out _ (bal (bal (Below.refl _ _) _) _)).mono ?_
 rintro e w1 ⟨g,cap,rfl,hrow,hcap,hb⟩
 have K1:=(hb.block w.heap.size (by simp <;> omega)).trans ((Below.heap_alloc _ _ _ (by simp <;> omega)).trans (new_at (by simp)))
 have K2:=(hb.block (w.heap.size + 1) (by simp)).trans (new_at (by simp))
 have hb1:=bstep (bal (bal (Below.refl w.heap.size w) _) _) hb
 have h4 : Holds_ w1 w.heap.size #[.bool b,.slice A xs.length c,.bool b',.slice A' ys.length c']:=⟨⟨_,K1⟩,by simp [noDig]⟩
 have h5 : Holds_ w1 (w.heap.size + 1) #[.bool false,.slice none 0 0,.bool false,.slice none 0 0]:=⟨⟨_,K2⟩,by simp [noDig]⟩
 obtain ⟨m1,m2,m3,m4,f1,f2,f3,f4⟩:=cp K1
 obtain ⟨hst,hh⟩:=jt h4 (noDig_bool b) (noDig_slice (some ⟨g,0,none⟩) xs.length cap)
 have H2:=Lib.hid (show _ ∧ _ ∧ _ ∧ _ ∧ _ from ⟨Stored.row hrow hst,hcap,hst.below hb1 (Nat.le_refl _),hh,h5.stored hst (by omega)⟩)
 have s1:=lt_block K1
 have s2:=lt_block K2
 clear hb hrow hcap hb1 K1 K2 h4 h5 hst hh
 go_wp2_with fail
 obtain ⟨w2,hw2⟩ : ∃ W,W = (w1.setCell ⟨w.heap.size,0,none⟩ (.bool b)).setCell ⟨w.heap.size,1,none⟩ (.slice (some ⟨g,0,none⟩) xs.length cap):=⟨_,rfl⟩
 rw [← hw2] at H2 ⊢
 clear hw2 m1 m2 m3 m4 f1 f2 f3 f4 s1 s2
 refine (HL'.out w2 H2.out.2.2.1).mono ?_
 rintro e w3 ⟨g',cap',rfl,hrow',hcap',hb'⟩
 obtain ⟨hrow,hcap,hb1,hh,h5⟩:=H2.out
 have h4:=hh.step hb'
 have h6:=h5.step hb'
 obtain ⟨m1,m2,m3,m4,f1,f2,f3,f4⟩:=h4.four
 obtain ⟨hst,hh4⟩:=ju h4 (noDig_bool b') (noDig_slice (some ⟨g',0,none⟩) ys.length cap')
 have h7:=h6.stored hst (by omega)
 have hst2:=dr h7 (noDig_bool b) (noDig_slice (some ⟨g,0,none⟩) xs.length cap) (noDig_bool b') (noDig_slice (some ⟨g',0,none⟩) ys.length cap')
 have hh7:=dz h7 (noDig_bool b) (noDig_slice (some ⟨g,0,none⟩) xs.length cap) (noDig_bool b') (noDig_slice (some ⟨g',0,none⟩) ys.length cap')
 have hb3:=bstep hb1 hb'
 have H3:=Lib.hid (show _ ∧ _ ∧ _ ∧ _ ∧ _ ∧ _ ∧ _ from ⟨Stored.row (Stored.row (hrow.below hb') hst) hst2,hcap,Stored.row (Stored.row hrow' hst) hst2,hcap',hst2.below (hst.below hb3 (Nat.le_refl _)) (by omega),hh4,hh7⟩)
 have s1:=h4.lt
 have s2:=h6.lt
 obtain ⟨n1,n2,n3,n4,k1,k2,k3,k4⟩:=h6.four
 clear hrow hcap hb1 hh h5 h4 h6 hst hh4 h7 hst2 hh7 hb3 hrow' hcap' hb'
 go_wp2_with fail
 obtain ⟨q1,q2,q3,q4,q5,_,hh7⟩:=H3.out
 obtain ⟨o1,o2,o3,o4,_,_,_,_⟩:=hh7.four
 unfold put4 at o1 o2 o3 o4
 refine bodyPost_ret (v:=.agg #[.bool b,.slice (some ⟨g,0,none⟩) xs.length cap,.bool b',.slice (some ⟨g',0,none⟩) ys.length cap']) (by simp [results,Tryz.results8,go_sem,o1,o2,o3,o4]) rfl ?_
 exact ⟨_,rfl,⟨g,cap,g',cap',rfl,⟨q1,q2⟩,q3,q4⟩,q5⟩
theorem sameRatio_q {w : World} {v1 v2 : Value} {b1 b1' : Bool} {xs1 ys1 : List Nat} (h1 : Qv w v1 b1 xs1 b1' ys1) (h2 : Qv w v2 b1 xs1 b1' ys1) (hl1 : xs1.length ≤ 8) (hl1' : ys1.length ≤ 8) :
   Calls Tryz.prog 59 #[v1,v2] w (SaysB w true):=by
 obtain ⟨y1,z1,y1',z1',rfl,H1⟩:=h1.op
 obtain ⟨y2,z2,y2',z2',rfl,H2⟩:=h2.op
 have HL:=Lib.hid (And.intro hl1 hl1')
 clear hl1 hl1'
 go_enter Tryz.func59,Tryz.ntmps59
 repeat apply wp_seq
 refine mf fun K HK=>?_
 go_wp2
 refine HK.out _ _ (then_n ?_)
 refine mc (G:=fun W=>Code.wp _ _ _ _ W) ?_
 intro W_0 bb_0 K0 K1
 have q1_0:=H1.out _ _ _ bb_0 K0
 have q2_0:=H2.out _ _ _ bb_0 K1
 clear K0 K1
 obtain ⟨hl1,hl1'⟩:=HL.out
 refine ly (G:=fun a=>Code.wp _ _ _ a _) 17 ?_
 intro a_0 ha hN_0 hD_0
 have e2_0:=lu ha 2 w.heap.size
 have e3_0:=lu ha 3 (w.heap.size + 1)
 repeat first | apply lw | apply lx
 refine lm bb_0 [lp w.heap.size 0,kN b1 xs1,lp (w.heap.size + 1) 0,kN b1 xs1,lq,lq,lp w.heap.size 2,kN b1' ys1,lp (w.heap.size + 1) 2,kN b1' ys1,lq,lq,lq] [[],[0],[],[2],[1,3],[4],[],[6],[],[8],[7,9],[5,10],[11]] [5,6,7,8,9,10,11,12,13,14,15,16,4] [(5,true)] [] ?_ ?_
 ·
   refine p01 e2_0 ?_; refine aa rfl rfl (dw q1_0 rfl rfl) ?_; refine p01 e3_0 ?_; refine aa rfl rfl (dw q2_0 rfl rfl) ?_; refine aa rfl rfl (ai rfl rfl rfl fun hC h1 h2=>ti (sameInt_nv h1 h2 (Nat.le_trans hl1 (by decide)))) ?_; refine p10 ?_; refine p01 e2_0 ?_; refine aa rfl rfl (jz q1_0 rfl rfl) ?_; refine p01 e3_0 ?_; refine aa rfl rfl (jz q2_0 rfl rfl) ?_; refine aa rfl rfl (ai rfl rfl rfl fun hC h1 h2=>ti (sameInt_nv h1 h2 (Nat.le_trans hl1' (by decide)))) ?_; refine p20 ?_; refine p10 ?_; exact ae rfl
 intro W_1 x a_1 hC hall ha hN_1 hD_1 bb_1
 have e4_1:=ln ha hall 4 12
 repeat first | apply lw | apply lx
 refine wp_ret ?_
 repeat (refine then_r ?_)
 exact bc (t:=4) rfl hD_1 e4_1 ⟨rfl,bb_1⟩
theorem keptRatio_l {w : World} {v1 v2 : Value} {b1 b1' : Bool} {xs1 ys1 : List Nat} (h1 : Lv w v1 b1 xs1 b1' ys1) (h2 : Qv w v2 b1 xs1 b1' ys1) (hl1 : xs1.length ≤ 8) (hl1' : ys1.length ≤ 8) :
   Calls Tryz.prog 29 #[v1,v2] w (SaysB w true):=by
 obtain ⟨A1,c1,A1',c1',e0⟩:=h1.parts
 subst e0
 have H1:=Lib.hid h1
 clear h1
 obtain ⟨y2,z2,y2',z2',rfl,H2⟩:=h2.op
 have HL:=Lib.hid (And.intro hl1 hl1')
 clear hl1 hl1'
 go_enter Tryz.func29,Tryz.ntmps29
 repeat apply wp_seq
 refine mf fun K HK=>?_
 go_wp2
 refine HK.out _ _ (then_n ?_)
 refine mc (G:=fun W=>Code.wp _ _ _ _ W) ?_
 intro W_0 bb_0 K0 K1
 have q1_0 : LocL W_0 (w.heap.size) b1 xs1 b1' ys1:=⟨_,H1.out.below bb_0,_,rfl,rfl,⟨⟨_,K0⟩,by simp [noDig]⟩⟩
 have q2_0:=H2.out _ _ _ bb_0 K1
 clear K0 K1
 obtain ⟨hl1,hl1'⟩:=HL.out
 refine ly (G:=fun a=>Code.wp _ _ _ a _) 22 ?_
 intro a_0 ha hN_0 hD_0
 have e2_0:=lu ha 2 w.heap.size
 have e3_0:=lu ha 3 (w.heap.size + 1)
 repeat first | apply lw | apply lx
 refine lm bb_0 [kL b1 xs1 b1' ys1,kQ b1 xs1 b1' ys1,lq,lq,lp w.heap.size 0,kLN b1 xs1,lp (w.heap.size + 1) 0,kN b1 xs1,lq,lq,lq,lp w.heap.size 2,kLN b1' ys1,lp (w.heap.size + 1) 2,kN b1' ys1,lq,lq,lq] [[],[],[0,1],[2],[],[4],[],[6],[5,7],[3,8],[9],[],[11],[],[13],[12,14],[10,15],[16]] [5,6,7,8,9,10,11,12,13,14,15,16,17,18,19,20,21,4] [(3,true),(10,true)] [] ?_ ?_
 ·
   refine aa rfl rfl (st_loadL q1_0 e2_0 rfl) ?_; refine aa rfl rfl (be q2_0 e3_0 rfl) ?_; refine aa rfl rfl (ai rfl rfl rfl fun hC h1 h2=>ti (sameRatio_q (Lv.qv h1) h2 hl1 hl1')) ?_; refine p10 ?_; refine p01 e2_0 ?_; refine aa rfl rfl (st_loadL0 q1_0 rfl rfl) ?_; refine p01 e3_0 ?_; refine aa rfl rfl (dw q2_0 rfl rfl) ?_; refine aa rfl rfl (ai rfl rfl rfl fun hC h1 h2=>ti (keptInt_ln h1 h2 (Nat.le_trans hl1 (by decide)))) ?_; refine p20 ?_; refine p10 ?_; refine p01 e2_0 ?_; refine aa rfl rfl (st_loadL1 q1_0 rfl rfl) ?_; refine p01 e3_0 ?_; refine aa rfl rfl (jz q2_0 rfl rfl) ?_; refine aa rfl rfl (ai rfl rfl rfl fun hC h1 h2=>ti (keptInt_ln h1 h2 (Nat.le_trans hl1' (by decide)))) ?_; refine p20 ?_; refine p10 ?_; exact ae rfl
 intro W_1 x a_1 hC hall ha hN_1 hD_1 bb_1
 have e4_1:=ln ha hall 4 17
 repeat first | apply lw | apply lx
 refine wp_ret ?_
 repeat (refine then_r ?_)
 exact bc (t:=4) rfl hD_1 e4_1 ⟨rfl,bb_1⟩
theorem same_79 {w : World} {v1 v2 : Value} {x y : Int} (h1 : Pr w v1 79 (x) (y)) (h2 : Pr w v2 79 (x) (y)) :
   Calls Tryz.prog 59 #[v1,v2] w (fun e w'=>e = .returned (.bool true) ∧ Below w.heap.size w w'):=by
 obtain ⟨y1,z1,y1',z1',rfl,H1⟩:=h1.op
 obtain ⟨y2,z2,y2',z2',rfl,H2⟩:=h2.op
 go_enter Tryz.func59,Tryz.ntmps59
 repeat apply wp_seq
 refine mf fun K HK=>?_
 go_wp2
 refine HK.out _ _ (then_n ?_)
 refine mc (G:=fun W=>Code.wp _ _ _ _ W) ?_
 intro W_0 bb_0 K0 K1
 obtain ⟨f1_0,f1'_0⟩:=H1.out _ _ _ bb_0 K0
 obtain ⟨f2_0,f2'_0⟩:=H2.out _ _ _ bb_0 K1
 clear K0 K1
 refine ly (G:=fun a=>Code.wp _ _ _ a _) 17 ?_
 intro a_0 ha hN_0 hD_0
 have e2_0:=lu ha 2 w.heap.size
 have e3_0:=lu ha 3 (w.heap.size + 1)
 repeat first | apply lw | apply lx
 refine lm bb_0 [lp w.heap.size 0,kZ 79 (x),lp (w.heap.size + 1) 0,kZ 79 (x),lq,lq,lp w.heap.size 2,kZ 79 (y),lp (w.heap.size + 1) 2,kZ 79 (y),lq,lq,lq] [[],[0],[],[2],[1,3],[4],[],[6],[],[8],[7,9],[5,10],[11]] [5,6,7,8,9,10,11,12,13,14,15,16,4] [(5,true)] [] ?_ ?_
 ·
   refine p01 e2_0 ?_; refine ag f1_0 ?_; refine p01 e3_0 ?_; refine ag f2_0 ?_; refine aa rfl rfl (ai rfl rfl rfl fun hC h1 h2=>ti (z_sameInt (rr h1) (rr h2))) ?_; refine p10 ?_; refine p01 e2_0 ?_; refine ag f1'_0 ?_; refine p01 e3_0 ?_; refine ag f2'_0 ?_; refine aa rfl rfl (ai rfl rfl rfl fun hC h1 h2=>ti (z_sameInt (rr h1) (rr h2))) ?_; refine p20 ?_; refine p10 ?_; exact ae rfl
 intro W x a1 hC hall ha hN1 hD1 bb1
 have e1:=ln ha hall 4 12
 repeat first | apply lw | apply lx
 refine wp_ret ?_
 repeat (refine then_r ?_)
 exact bc (t:=4) rfl hD1 e1 ⟨rfl,bb1⟩
theorem gp {w : World} {v1 v2 : Value} {x y : Int} (h1 : Pr w v1 79 (x) (y)) (h2 : Pr w v2 79 (x) (y)) :
   Calls Tryz.prog 13 #[v1,v2] w (fun e w'=>e = .returned (.bool true) ∧ Below w.heap.size w w'):=by
 obtain ⟨y1,z1,y1',z1',rfl,H1⟩:=h1.op
 obtain ⟨y2,z2,y2',z2',rfl,H2⟩:=h2.op
 go_enter Tryz.func13,Tryz.ntmps13
 repeat apply wp_seq
 refine mf fun K HK=>?_
 go_wp2
 refine HK.out _ _ (then_n ?_)
 refine mc (G:=fun W=>Code.wp _ _ _ _ W) ?_
 intro W_0 bb_0 K0 K1
 obtain ⟨f1_0,f1'_0⟩:=H1.out _ _ _ bb_0 K0
 obtain ⟨f2_0,f2'_0⟩:=H2.out _ _ _ bb_0 K1
 clear K0 K1
 refine ly (G:=fun a=>Code.wp _ _ _ a _) 8 ?_
 intro a_0 ha hN_0 hD_0
 have e2_0:=lu ha 2 w.heap.size
 have e3_0:=lu ha 3 (w.heap.size + 1)
 repeat first | apply lw | apply lx
 refine lm bb_0 [kP 79 (x) (y),kP 79 (x) (y),lq,lq] [[],[],[0,1],[2]] [5,6,7,4] [] [] ?_ ?_
 ·
   refine aa rfl rfl (aw f1_0 f1'_0 e2_0 rfl) ?_; refine aa rfl rfl (aw f2_0 f2'_0 e3_0 rfl) ?_; refine aa rfl rfl (ai rfl rfl rfl fun hC h1 h2=>ti (same_79 (pm h1) (pm h2))) ?_; refine p10 ?_; exact ae rfl
 intro W x a1 hC hall ha hN1 hD1 bb1
 have e1:=ln ha hall 4 3
 repeat first | apply lw | apply lx
 refine wp_ret ?_
 repeat (refine then_r ?_)
 exact bc (t:=4) rfl hD1 e1 ⟨rfl,bb1⟩
theorem lawTellQ_great {w : World} {A1 A1' A2 A2' : Option Addr} {c1 c1' c2 c2' : Nat} {b1 b1' b2 b2' : Bool} {xs1 ys1 xs2 ys2 : List Nat} (hf : fewP [(xs1.length,ys1.length),(xs2.length,ys2.length)] = false) (HT : Hid (Tab w ∧ 2 ≤ w.heap.size)) (hm : MaxL w) :
   Calls Tryz.prog 3 #[.agg #[.bool b1,.slice A1 xs1.length c1,.bool b1',.slice A1' ys1.length c1'],.agg #[.bool b2,.slice A2 xs2.length c2,.bool b2',.slice A2' ys2.length c2']] w fun e w'=>e = .returned (.bool true) ∧ Below w.heap.size w w':=by
 have HM:=Lib.hid hm
 have haw:=fun (W : World) (hW : Below w.heap.size w W)=>awake3_any (w:=W) (Lib.hid ⟨HT.out.1.below hW HT.out.2,Nat.le_trans HT.out.2 hW.size⟩) (hm.below hW)
 have HA:=Lib.hid haw
 clear haw hm
 have HF:=Lib.hid hf
 clear hf
 go_enter Tryz.func3,Tryz.ntmps3
 repeat apply wp_seq
 refine mf fun K HK=>?_
 go_wp2
 refine HK.out _ _ (then_n ?_)
 refine mc (G:=fun W=>Code.wp _ _ _ _ W) ?_
 intro W_0 bb_0 K0 K1
 refine ly (G:=fun a=>Code.wp _ _ _ a _) 139 ?_
 intro a_0 ha hN_0 hD_0
 have e2_0:=lu ha 2 w.heap.size
 have H2_0 : Holds_ W_0 (w.heap.size) #[.bool b1,.slice A1 xs1.length c1,.bool b1',.slice A1' ys1.length c1']:=⟨⟨_,K0⟩,by simp [noDig]⟩
 have e3_0:=lu ha 3 (w.heap.size + 1)
 have H3_0 : Holds_ W_0 (w.heap.size + 1) #[.bool b2,.slice A2 xs2.length c2,.bool b2',.slice A2' ys2.length c2']:=⟨⟨_,K1⟩,by simp [noDig]⟩
 repeat first | apply lw | apply lx
 refine lm bb_0 [lq,lr] [[],[0]] [15,16] [] [] ?_ ?_
 ·
   refine aa rfl rfl (aq [] rfl rfl fun hC=>ti (HA.out _ (bb_0.trans hC.below))) ?_; refine p10 ?_; exact ae rfl
 intro W_1 x a_1 hC hall ha hN_1 hD_1 bb_1
 have e2_1:=ab ha e2_0
 have e3_1:=ab ha e3_0
 have H2_1:=hC.holds H2_0
 have H3_1:=hC.holds H3_0
 have e16_1:=ln ha hall 16 1
 refine wp_cond_false e16_1 ?_
 repeat first | apply lw | apply lx
 refine lm bb_1 [kIs (.agg #[.bool b1,.slice A1 xs1.length c1,.bool b1',.slice A1' ys1.length c1']),kIs (.agg #[.bool b2,.slice A2 xs2.length c2,.bool b2',.slice A2' ys2.length c2']),kLensP [(xs1.length,ys1.length),(xs2.length,ys2.length)],lr,lq] [[],[],[0,1],[2],[3]] [17,18,19,20,21] [] [] ?_ ?_
 ·
   refine aa rfl rfl (jx H2_1 e2_1 rfl) ?_; refine aa rfl rfl (jx H3_1 e3_1 rfl) ?_; refine aa rfl rfl (st_lensP2 rfl rfl rfl) ?_; refine aa rfl rfl (ac rfl rfl fun hC h1=>ti (few_told h1 (by simp) HF.out)) ?_; refine p10 ?_; exact ae rfl
 intro W_2 x a_2 hC hall ha hN_2 hD_2 bb_2
 have e21_2:=ln ha hall 21 4
 refine wp_cond_true e21_2 ?_
 repeat first | apply lw | apply lx
 refine lm bb_2 [lq] [[]] [4] [] [] ?_ ?_
 ·
   refine p00 ?_; exact ae rfl
 intro W_3 x a_3 hC hall ha hN_3 hD_3 bb_3
 have e4_3:=ln ha hall 4 0
 repeat first | apply lw | apply lx
 refine wp_ret ?_
 repeat (refine then_r ?_)
 exact bc (t:=4) rfl hD_3 e4_3 ⟨rfl,bb_3⟩
theorem lawTellQ_few {w : World} {A1 A1' A2 A2' : Option Addr} {c1 c1' c2 c2' : Nat} {b1 b1' b2 b2' : Bool} {xs1 ys1 xs2 ys2 : List Nat} (hf : fewP [(xs1.length,ys1.length),(xs2.length,ys2.length)] = true) (r1 : Row w A1 (u32s xs1)) (r1' : Row w A1' (u32s ys1)) (r2 : Row w A2 (u32s xs2)) (r2' : Row w A2' (u32s ys2)) (s1 : small 4294967296 xs1) (s1' : small 4294967296 ys1) (s2 : small 4294967296 xs2) (s2' : small 4294967296 ys2) (hl1 : xs1.length ≤ 8) (hl1' : ys1.length ≤ 8) (hl2 : xs2.length ≤ 8) (hl2' : ys2.length ≤ 8) (HT : Hid (Tab w ∧ 2 ≤ w.heap.size)) (hm : MaxL w) :
   Calls Tryz.prog 3 #[.agg #[.bool b1,.slice A1 xs1.length c1,.bool b1',.slice A1' ys1.length c1'],.agg #[.bool b2,.slice A2 xs2.length c2,.bool b2',.slice A2' ys2.length c2']] w fun e w'=>e = .returned (.bool true) ∧ Below w.heap.size w w':=by
 have HM:=Lib.hid hm
 have haw:=fun (W : World) (hW : Below w.heap.size w W)=>awake3_any (w:=W) (Lib.hid ⟨HT.out.1.below hW HT.out.2,Nat.le_trans HT.out.2 hW.size⟩) (hm.below hW)
 have HA:=Lib.hid haw
 clear haw hm
 have HF:=Lib.hid hf
 clear hf
 obtain ⟨a,ra,hA⟩:=ratQ (b:=b1) (b':=b1') s1 hl1 s1' hl1'
 obtain ⟨b,rb,hB⟩:=ratQ (b:=b2) (b':=b2') s2 hl2 s2' hl2'
 obtain ⟨divq,dive,h0⟩:=divBoth hA hB
 have HDIV:=Lib.hid h0
 clear h0
 obtain ⟨ofq,ofe,h0⟩:=ofBoth2 (b1:=b1) (b2:=b2) s1 hl1 s2 hl2
 have HOF:=Lib.hid h0
 clear h0
 obtain ⟨cmpo,h0⟩:=cmpBoth hA hB
 have HCMP:=Lib.hid h0
 clear h0
 obtain ⟨negx,negy,h0⟩:=negBoth hA
 have HNEG:=Lib.hid h0
 clear h0
 obtain ⟨subx,suby,h0⟩:=subBoth hA hB
 have HSUB:=Lib.hid h0
 clear h0
 obtain ⟨wholex,wholey,h0⟩:=wholeBoth2 (b1:=b1) s1 hl1
 have HWHOLE:=Lib.hid h0
 clear h0
 obtain ⟨txt,h0⟩:=textBoth hA
 have HTEXT:=Lib.hid h0
 clear h0
 obtain ⟨flz,h0⟩:=floorBoth hA
 have HFLOOR:=Lib.hid h0
 clear h0
 have HRIGHT:=Lib.hid hA.right
 clear hA hB s1 s1' s2 s2'
 have HR:=Lib.hid (And.intro (And.intro r1 r1') (And.intro r2 r2'))
 clear r1 r1' r2 r2'
 have HL:=Lib.hid (And.intro (And.intro hl1 hl1') (And.intro hl2 hl2'))
 clear hl1 hl1' hl2 hl2'
 go_enter Tryz.func3,Tryz.ntmps3
 repeat apply wp_seq
 refine mf fun K HK=>?_
 go_wp2
 refine HK.out _ _ (then_n ?_)
 refine mc (G:=fun W=>Code.wp _ _ _ _ W) ?_
 intro W_0 bb_0 K0 K1
 refine ly (G:=fun a=>Code.wp _ _ _ a _) 139 ?_
 intro a_0 ha hN_0 hD_0
 have e2_0:=lu ha 2 w.heap.size
 have H2_0 : Holds_ W_0 (w.heap.size) #[.bool b1,.slice A1 xs1.length c1,.bool b1',.slice A1' ys1.length c1']:=⟨⟨_,K0⟩,by simp [noDig]⟩
 have e3_0:=lu ha 3 (w.heap.size + 1)
 have H3_0 : Holds_ W_0 (w.heap.size + 1) #[.bool b2,.slice A2 xs2.length c2,.bool b2',.slice A2' ys2.length c2']:=⟨⟨_,K1⟩,by simp [noDig]⟩
 repeat first | apply lw | apply lx
 refine lm bb_0 [lq,lr] [[],[0]] [15,16] [] [] ?_ ?_
 ·
   refine aa rfl rfl (aq [] rfl rfl fun hC=>ti (HA.out _ (bb_0.trans hC.below))) ?_; refine p10 ?_; exact ae rfl
 intro W_1 x a_1 hC hall ha hN_1 hD_1 bb_1
 have e2_1:=ab ha e2_0
 have e3_1:=ab ha e3_0
 have H2_1:=hC.holds H2_0
 have H3_1:=hC.holds H3_0
 have e16_1:=ln ha hall 16 1
 refine wp_cond_false e16_1 ?_
 repeat first | apply lw | apply lx
 refine lm bb_1 [kIs (.agg #[.bool b1,.slice A1 xs1.length c1,.bool b1',.slice A1' ys1.length c1']),kIs (.agg #[.bool b2,.slice A2 xs2.length c2,.bool b2',.slice A2' ys2.length c2']),kLensP [(xs1.length,ys1.length),(xs2.length,ys2.length)],lq,lr] [[],[],[0,1],[2],[3]] [17,18,19,20,21] [] [] ?_ ?_
 ·
   refine aa rfl rfl (jx H2_1 e2_1 rfl) ?_; refine aa rfl rfl (jx H3_1 e3_1 rfl) ?_; refine aa rfl rfl (st_lensP2 rfl rfl rfl) ?_; refine aa rfl rfl (ac rfl rfl fun hC h1=>ti (few_told h1 (by simp) HF.out)) ?_; refine p10 ?_; exact ae rfl
 intro W_2 x a_2 hC hall ha hN_2 hD_2 bb_2
 have e2_2:=ab ha e2_1
 have e3_2:=ab ha e3_1
 have H2_2:=hC.holds H2_1
 have H3_2:=hC.holds H3_1
 have e21_2:=ln ha hall 21 4
 refine wp_cond_false e21_2 ?_
 repeat first | apply lw | apply lx
 have q1_2 : LocQ W_2 (w.heap.size) b1 xs1 b1' ys1:=⟨A1,c1,A1',c1',H2_2,HR.out.1.1.below bb_2,HR.out.1.2.below bb_2⟩
 have q2_2 : LocQ W_2 (w.heap.size + 1) b2 xs2 b2' ys2:=⟨A2,c2,A2',c2',H3_2,HR.out.2.1.below bb_2,HR.out.2.2.below bb_2⟩
 clear H2_2 H3_2 HR HF HA
 obtain ⟨⟨hl1,hl1'⟩,hl2,hl2'⟩:=HL.out
 refine lm bb_2 [kQ b1 xs1 b1' ys1,kL b1 xs1 b1' ys1,kQ b2 xs2 b2' ys2,kL b2 xs2 b2' ys2,PK.fresh 4,PK.fresh 4,kPutL 4 b1 xs1 b1' ys1,kPutL 5 b2 xs2 b2' ys2] [[],[0],[],[2],[],[],[4,1],[5,3]] [22,23,24,25,5,6,999,999] [] [] ?_ ?_
 ·
   refine aa rfl rfl (be q1_2 e2_2 rfl) ?_; refine aa rfl rfl (ac rfl rfl fun hC h1=>tlq (lentRatio_q h1 (Nat.le_trans hl1 (by decide)) (Nat.le_trans hl1' (by decide)))) ?_; refine aa rfl rfl (be q2_2 e3_2 rfl) ?_; refine aa rfl rfl (ac rfl rfl fun hC h1=>tlq (lentRatio_q h1 (Nat.le_trans hl2 (by decide)) (Nat.le_trans hl2' (by decide)))) ?_; refine aa rfl rfl (bp rfl) ?_; refine aa rfl rfl (bp rfl) ?_; refine aa rfl rfl (st_putL rfl rfl rfl) ?_; refine aa rfl rfl (st_putL rfl rfl rfl) ?_; exact ae rfl
 intro W_3 x a_3 hC hall ha hN_3 hD_3 bb_3
 have e2_3:=ab ha e2_2
 have e3_3:=ab ha e3_2
 have q1_3:=hC.locQ (by simp) q1_2
 have q2_3:=hC.locQ (by simp) q2_2
 obtain ⟨g5,hx,hge,p5_3⟩:=put_locL (me hall 6)
 have e5_3:=(ak (t:=5) (i:=4) ha).trans hx
 clear hx hge
 obtain ⟨g6,hx,hge,p6_3⟩:=put_locL (me hall 7)
 have e6_3:=(ak (t:=6) (i:=5) ha).trans hx
 clear hx hge
 repeat first | apply lw | apply lx
 refine lm bb_3 [kQ b1 xs1 b1' ys1,kQ b2 xs2 b2' ys2,kPT 79 (divq.num) ((divq.den : Int)) (.int .i64 (dive)),kPT 79 (divq.num) ((divq.den : Int)) (.int .i64 (dive)),kP 79 (divq.num) ((divq.den : Int)),kIs (.int .i64 (dive)),PK.fresh 4,kPutP 6 79 (divq.num) ((divq.den : Int)),kIs (.int .i64 (dive))] [[],[],[0,1],[2],[3],[3],[],[6,4],[5]] [27,28,29,26,30,31,7,999,8] [] [] ?_ ?_
 ·
   refine aa rfl rfl (be p5_3.q e5_3 rfl) ?_; refine aa rfl rfl (be p6_3.q e6_3 rfl) ?_; refine aa rfl rfl (ai rfl rfl rfl fun hC h1 h2=>tpt ((HDIV.out _ _ _ h1 h2).1)) ?_; refine aa rfl rfl (bg rfl rfl) ?_; refine ap ext_p ?_; refine ap ext_v ?_; refine aa rfl rfl (bp rfl) ?_; refine aa rfl rfl (du rfl rfl rfl) ?_; refine p10 ?_; exact ae rfl
 intro W_4 x a_4 hC hall ha hN_4 hD_4 bb_4
 have e2_4:=ab ha e2_3
 have e3_4:=ab ha e3_3
 have e5_4:=ab ha e5_3
 have e6_4:=ab ha e6_3
 have q1_4:=hC.locQ (by simp) q1_3
 have q2_4:=hC.locQ (by simp) q2_3
 have p5_4:=hC.locL (by simp) p5_3
 have p6_4:=hC.locL (by simp) p6_3
 obtain ⟨g7,hx,hge,p7_4,p7'_4⟩:=di (me hall 7)
 have e7_4:=(ak (t:=7) (i:=6) ha).trans hx
 clear hx hge
 have e8_4:=ln ha hall 8 8
 repeat first | apply lw | apply lx
 refine lm bb_4 [kQ b1 xs1 b1' ys1,kQ b2 xs2 b2' ys2,kPT 79 (divq.num) ((divq.den : Int)) (.int .i64 (dive)),kPT 79 (divq.num) ((divq.den : Int)) (.int .i64 (dive)),kP 79 (divq.num) ((divq.den : Int)),kIs (.int .i64 (dive)),PK.fresh 4,kPutP 6 79 (divq.num) ((divq.den : Int)),kIs (.int .i64 (dive))] [[],[],[0,1],[2],[3],[3],[],[6,4],[5]] [33,34,35,32,36,37,9,999,10] [] [] ?_ ?_
 ·
   refine aa rfl rfl (be q1_4 e2_4 rfl) ?_; refine aa rfl rfl (be q2_4 e3_4 rfl) ?_; refine aa rfl rfl (ai rfl rfl rfl fun hC h1 h2=>tpt ((HDIV.out _ _ _ h1 h2).2)) ?_; refine aa rfl rfl (bg rfl rfl) ?_; refine ap ext_p ?_; refine ap ext_v ?_; refine aa rfl rfl (bp rfl) ?_; refine aa rfl rfl (du rfl rfl rfl) ?_; refine p10 ?_; exact ae rfl
 intro W_5 x a_5 hC hall ha hN_5 hD_5 bb_5
 have e2_5:=ab ha e2_4
 have e3_5:=ab ha e3_4
 have e5_5:=ab ha e5_4
 have e6_5:=ab ha e6_4
 have e7_5:=ab ha e7_4
 have e8_5:=ab ha e8_4
 have q1_5:=hC.locQ (by simp) q1_4
 have q2_5:=hC.locQ (by simp) q2_4
 have p5_5:=hC.locL (by simp) p5_4
 have p6_5:=hC.locL (by simp) p6_4
 have p7_5:=hC.at0 p7_4
 have p7'_5:=hC.at0 p7'_4
 obtain ⟨g9,hx,hge,p9_5,p9'_5⟩:=di (me hall 7)
 have e9_5:=(ak (t:=9) (i:=6) ha).trans hx
 clear hx hge
 have e10_5:=ln ha hall 10 8
 repeat first | apply lw | apply lx
 refine lm bb_5 [lp g5 0,kN b1 xs1,lp g6 0,kN b2 xs2,kPT 79 (ofq.num) ((ofq.den : Int)) (.int .i64 (ofe)),kPT 79 (ofq.num) ((ofq.den : Int)) (.int .i64 (ofe)),kP 79 (ofq.num) ((ofq.den : Int)),kIs (.int .i64 (ofe)),PK.fresh 4,kPutP 8 79 (ofq.num) ((ofq.den : Int)),kIs (.int .i64 (ofe))] [[],[0],[],[2],[1,3],[4],[5],[5],[],[8,6],[7]] [39,40,41,42,43,38,44,45,11,999,12] [] [] ?_ ?_
 ·
   refine p01 e5_5 ?_; refine aa rfl rfl (dw p5_5.q rfl rfl) ?_; refine p01 e6_5 ?_; refine aa rfl rfl (dw p6_5.q rfl rfl) ?_; refine aa rfl rfl (ai rfl rfl rfl fun hC h1 h2=>tpt ((HOF.out _ _ _ h1 h2).1)) ?_; refine aa rfl rfl (bg rfl rfl) ?_; refine ap ext_p ?_; refine ap ext_v ?_; refine aa rfl rfl (bp rfl) ?_; refine aa rfl rfl (du rfl rfl rfl) ?_; refine p10 ?_; exact ae rfl
 intro W_6 x a_6 hC hall ha hN_6 hD_6 bb_6
 have e2_6:=ab ha e2_5
 have e3_6:=ab ha e3_5
 have e5_6:=ab ha e5_5
 have e6_6:=ab ha e6_5
 have e7_6:=ab ha e7_5
 have e8_6:=ab ha e8_5
 have e9_6:=ab ha e9_5
 have e10_6:=ab ha e10_5
 have q1_6:=hC.locQ (by simp) q1_5
 have q2_6:=hC.locQ (by simp) q2_5
 have p5_6:=hC.locL (by simp) p5_5
 have p6_6:=hC.locL (by simp) p6_5
 have p7_6:=hC.at0 p7_5
 have p7'_6:=hC.at0 p7'_5
 have p9_6:=hC.at0 p9_5
 have p9'_6:=hC.at0 p9'_5
 obtain ⟨g11,hx,hge,p11_6,p11'_6⟩:=di (me hall 9)
 have e11_6:=(ak (t:=11) (i:=8) ha).trans hx
 clear hx hge
 have e12_6:=ln ha hall 12 10
 repeat first | apply lw | apply lx
 refine lm bb_6 [lp w.heap.size 0,kN b1 xs1,lp (w.heap.size + 1) 0,kN b2 xs2,kPT 79 (ofq.num) ((ofq.den : Int)) (.int .i64 (ofe)),kPT 79 (ofq.num) ((ofq.den : Int)) (.int .i64 (ofe)),kP 79 (ofq.num) ((ofq.den : Int)),kIs (.int .i64 (ofe)),PK.fresh 4,kPutP 8 79 (ofq.num) ((ofq.den : Int)),kIs (.int .i64 (ofe))] [[],[0],[],[2],[1,3],[4],[5],[5],[],[8,6],[7]] [47,48,49,50,51,46,52,53,13,999,14] [] [] ?_ ?_
 ·
   refine p01 e2_6 ?_; refine aa rfl rfl (dw q1_6 rfl rfl) ?_; refine p01 e3_6 ?_; refine aa rfl rfl (dw q2_6 rfl rfl) ?_; refine aa rfl rfl (ai rfl rfl rfl fun hC h1 h2=>tpt ((HOF.out _ _ _ h1 h2).2)) ?_; refine aa rfl rfl (bg rfl rfl) ?_; refine ap ext_p ?_; refine ap ext_v ?_; refine aa rfl rfl (bp rfl) ?_; refine aa rfl rfl (du rfl rfl rfl) ?_; refine p10 ?_; exact ae rfl
 intro W_7 x a_7 hC hall ha hN_7 hD_7 bb_7
 have e2_7:=ab ha e2_6
 have e3_7:=ab ha e3_6
 have e5_7:=ab ha e5_6
 have e6_7:=ab ha e6_6
 have e7_7:=ab ha e7_6
 have e8_7:=ab ha e8_6
 have e9_7:=ab ha e9_6
 have e10_7:=ab ha e10_6
 have e11_7:=ab ha e11_6
 have e12_7:=ab ha e12_6
 have q1_7:=hC.locQ (by simp) q1_6
 have q2_7:=hC.locQ (by simp) q2_6
 have p5_7:=hC.locL (by simp) p5_6
 have p6_7:=hC.locL (by simp) p6_6
 have p7_7:=hC.at0 p7_6
 have p7'_7:=hC.at0 p7'_6
 have p9_7:=hC.at0 p9_6
 have p9'_7:=hC.at0 p9'_6
 have p11_7:=hC.at0 p11_6
 have p11'_7:=hC.at0 p11'_6
 obtain ⟨g13,hx,hge,p13_7,p13'_7⟩:=di (me hall 9)
 have e13_7:=(ak (t:=13) (i:=8) ha).trans hx
 clear hx hge
 have e14_7:=ln ha hall 14 10
 repeat first | apply lw | apply lx
 refine lm bb_7 [kIs (.int .i64 (dive)),kIs (.int .i64 (dive)),lr,lr,kIs (.int .i64 (ofe)),kIs (.int .i64 (ofe)),lr,lr,lr,kP 79 (divq.num) ((divq.den : Int)),kP 79 (divq.num) ((divq.den : Int)),lq,lr,lr,lr,kP 79 (ofq.num) ((ofq.den : Int)),kP 79 (ofq.num) ((ofq.den : Int)),lq,lr,lr,lr,kQ b1 xs1 b1' ys1,kQ b2 xs2 b2' ys2,kIs (.int .i64 (cmpo)),kQ b1 xs1 b1' ys1,kQ b2 xs2 b2' ys2,kIs (.int .i64 (cmpo)),lr,lr,lr,kQ b1 xs1 b1' ys1,kIs (.bool (ra)),kQ b1 xs1 b1' ys1,kIs (.bool (ra)),lr,lr] [[],[],[0,1],[2],[],[],[4,5],[3,6],[7],[],[],[9,10],[11],[8,12],[13],[],[],[15,16],[17],[14,18],[19],[],[],[21,22],[],[],[24,25],[23,26],[20,27],[28],[],[30],[],[32],[31,33],[29,34]] [54,55,56,57,58,59,60,61,62,63,64,65,66,67,68,69,70,71,72,73,74,75,76,77,78,79,80,81,82,83,84,85,86,87,88,89] [(3,false),(8,false),(14,false),(20,false),(29,false)] [] ?_ ?_
 ·
   refine p01 e8_7 ?_; refine p01 e10_7 ?_; refine aa rfl rfl (ck [.int .i64 (dive),.int .i64 (dive)] [] (.bool (dive != dive)) (.bool false) (congrArg Value.bool (bne_self_eq_false _)) rfl old0) ?_; refine p10 ?_; refine p01 e12_7 ?_; refine p01 e14_7 ?_; refine aa rfl rfl (ck [.int .i64 (ofe),.int .i64 (ofe)] [] (.bool (ofe != ofe)) (.bool false) (congrArg Value.bool (bne_self_eq_false _)) rfl old0) ?_; refine p20 ?_; refine p10 ?_; refine aa rfl rfl (aw p7_7 p7'_7 e7_7 rfl) ?_; refine aa rfl rfl (aw p9_7 p9'_7 e9_7 rfl) ?_; refine aa rfl rfl (ai rfl rfl rfl fun hC h1 h2=>ti (gp (pm h1) (pm h2))) ?_; refine p10 ?_; refine p20 ?_; refine p10 ?_; refine aa rfl rfl (aw p11_7 p11'_7 e11_7 rfl) ?_; refine aa rfl rfl (aw p13_7 p13'_7 e13_7 rfl) ?_; refine aa rfl rfl (ai rfl rfl rfl fun hC h1 h2=>ti (gp (pm h1) (pm h2))) ?_; refine p10 ?_; refine p20 ?_; refine p10 ?_; refine aa rfl rfl (be p5_7.q e5_7 rfl) ?_; refine aa rfl rfl (be p6_7.q e6_7 rfl) ?_; refine aa rfl rfl (ai rfl rfl rfl fun hC h1 h2=>ti (HCMP.out _ _ _ h1 h2).1) ?_; refine aa rfl rfl (be q1_7 e2_7 rfl) ?_; refine aa rfl rfl (be q2_7 e3_7 rfl) ?_; refine aa rfl rfl (ai rfl rfl rfl fun hC h1 h2=>ti (HCMP.out _ _ _ h1 h2).2) ?_; refine aa rfl rfl (ck [.int .i64 (cmpo),.int .i64 (cmpo)] [] (.bool (cmpo != cmpo)) (.bool false) (congrArg Value.bool (bne_self_eq_false _)) rfl old0) ?_; refine p20 ?_; refine p10 ?_; refine aa rfl rfl (be p5_7.q e5_7 rfl) ?_; refine aa rfl rfl (ac rfl rfl fun hC h1=>ti (HRIGHT.out _ _ h1).1) ?_; refine aa rfl rfl (be q1_7 e2_7 rfl) ?_; refine aa rfl rfl (ac rfl rfl fun hC h1=>ti (HRIGHT.out _ _ h1).2) ?_; refine aa rfl rfl (ck [.bool (ra),.bool (ra)] [] (.bool (ra != ra)) (.bool false) (congrArg Value.bool (bne_self_eq_false _)) rfl old0) ?_; refine p20 ?_; exact ae rfl
 intro W_8 x a_8 hC hall ha hN_8 hD_8 bb_8
 have e2_8:=ab ha e2_7
 have e3_8:=ab ha e3_7
 have e5_8:=ab ha e5_7
 have e6_8:=ab ha e6_7
 have q1_8:=hC.locQ (by simp) q1_7
 have q2_8:=hC.locQ (by simp) q2_7
 have p5_8:=hC.locL (by simp) p5_7
 have p6_8:=hC.locL (by simp) p6_7
 have e89_8:=ln ha hall 89 35
 refine wp_cond_false e89_8 ?_
 repeat first | apply lw | apply lx
 refine lm bb_8 [kQ b1 xs1 b1' ys1,kP 79 (negx) (negy),kQ b1 xs1 b1' ys1,kP 79 (negx) (negy),lq,lr,lr,kQ b1 xs1 b1' ys1,kQ b2 xs2 b2' ys2,kP 79 (subx) (suby),kQ b1 xs1 b1' ys1,kQ b2 xs2 b2' ys2,kP 79 (subx) (suby),lq,lr,lr,lr,lp g5 0,kN b1 xs1,kP 79 (wholex) (wholey),lp w.heap.size 0,kN b1 xs1,kP 79 (wholex) (wholey),lq,lr,lr,lr,kQ b1 xs1 b1' ys1,kIs (.string (txt)),kQ b1 xs1 b1' ys1,kIs (.string (txt)),lr,lr,lr,kQ b1 xs1 b1' ys1,kZ 40 (flz),kQ b1 xs1 b1' ys1,kZ 40 (flz),lq,lr,lr] [[],[0],[],[2],[1,3],[4],[5],[],[],[7,8],[],[],[10,11],[9,12],[13],[6,14],[15],[],[17],[18],[],[20],[21],[19,22],[23],[16,24],[25],[],[27],[],[29],[28,30],[26,31],[32],[],[34],[],[36],[35,37],[38],[33,39]] [90,91,92,93,94,95,96,97,98,99,100,101,102,103,104,105,106,107,108,109,110,111,112,113,114,115,116,117,118,119,120,121,122,123,124,125,126,127,128,129,130] [(6,false),(16,false),(26,false),(33,false)] [] ?_ ?_
 ·
   refine aa rfl rfl (be p5_8.q e5_8 rfl) ?_; refine aa rfl rfl (ac rfl rfl fun hC h1=>tp (HNEG.out _ _ h1).1) ?_; refine aa rfl rfl (be q1_8 e2_8 rfl) ?_; refine aa rfl rfl (ac rfl rfl fun hC h1=>tp (HNEG.out _ _ h1).2) ?_; refine aa rfl rfl (ai rfl rfl rfl fun hC h1 h2=>ti (gp (pm h1) (pm h2))) ?_; refine p10 ?_; refine p10 ?_; refine aa rfl rfl (be p5_8.q e5_8 rfl) ?_; refine aa rfl rfl (be p6_8.q e6_8 rfl) ?_; refine aa rfl rfl (ai rfl rfl rfl fun hC h1 h2=>tp (HSUB.out _ _ _ h1 h2).1) ?_; refine aa rfl rfl (be q1_8 e2_8 rfl) ?_; refine aa rfl rfl (be q2_8 e3_8 rfl) ?_; refine aa rfl rfl (ai rfl rfl rfl fun hC h1 h2=>tp (HSUB.out _ _ _ h1 h2).2) ?_; refine aa rfl rfl (ai rfl rfl rfl fun hC h1 h2=>ti (gp (pm h1) (pm h2))) ?_; refine p10 ?_; refine p20 ?_; refine p10 ?_; refine p01 e5_8 ?_; refine aa rfl rfl (dw p5_8.q rfl rfl) ?_; refine aa rfl rfl (ac rfl rfl fun hC h1=>tp (HWHOLE.out _ _ h1).1) ?_; refine p01 e2_8 ?_; refine aa rfl rfl (dw q1_8 rfl rfl) ?_; refine aa rfl rfl (ac rfl rfl fun hC h1=>tp (HWHOLE.out _ _ h1).2) ?_; refine aa rfl rfl (ai rfl rfl rfl fun hC h1 h2=>ti (gp (pm h1) (pm h2))) ?_; refine p10 ?_; refine p20 ?_; refine p10 ?_; refine aa rfl rfl (be p5_8.q e5_8 rfl) ?_; refine aa rfl rfl (ac rfl rfl fun hC h1=>ti (HTEXT.out _ _ h1 ⟨HT.out.1.below (bb_8.trans hC.below) HT.out.2,Nat.le_trans HT.out.2 (bb_8.trans hC.below).size⟩).1) ?_; refine aa rfl rfl (be q1_8 e2_8 rfl) ?_; refine aa rfl rfl (ac rfl rfl fun hC h1=>ti (HTEXT.out _ _ h1 ⟨HT.out.1.below (bb_8.trans hC.below) HT.out.2,Nat.le_trans HT.out.2 (bb_8.trans hC.below).size⟩).2) ?_; refine aa rfl rfl (ck [.string (txt),.string (txt)] [] (.bool ((txt).toList != (txt).toList)) (.bool false) (congrArg Value.bool (bne_self_eq_false _)) rfl old0) ?_; refine p20 ?_; refine p10 ?_; refine aa rfl rfl (be p5_8.q e5_8 rfl) ?_; refine aa rfl rfl (ac rfl rfl fun hC h1=>tz (HFLOOR.out _ _ h1).1) ?_; refine aa rfl rfl (be q1_8 e2_8 rfl) ?_; refine aa rfl rfl (ac rfl rfl fun hC h1=>tz (HFLOOR.out _ _ h1).2) ?_; refine aa rfl rfl (ai rfl rfl rfl fun hC h1 h2=>ti (z_sameInt (rr h1) (rr h2))) ?_; refine p10 ?_; refine p20 ?_; exact ae rfl
 intro W_9 x a_9 hC hall ha hN_9 hD_9 bb_9
 have e2_9:=ab ha e2_8
 have e3_9:=ab ha e3_8
 have e5_9:=ab ha e5_8
 have e6_9:=ab ha e6_8
 have q1_9:=hC.locQ (by simp) q1_8
 have q2_9:=hC.locQ (by simp) q2_8
 have p5_9:=hC.locL (by simp) p5_8
 have p6_9:=hC.locL (by simp) p6_8
 have e130_9:=ln ha hall 130 40
 refine wp_cond_false e130_9 ?_
 repeat first | apply lw | apply lx
 refine lm bb_9 [kL b1 xs1 b1' ys1,kQ b1 xs1 b1' ys1,lq,lq,kL b2 xs2 b2' ys2,kQ b2 xs2 b2' ys2,lq,lq,lq] [[],[],[0,1],[2],[],[],[4,5],[3,6],[7]] [131,132,133,134,135,136,137,138,4] [(3,true)] [] ?_ ?_
 ·
   refine aa rfl rfl (st_loadL p5_9 e5_9 rfl) ?_; refine aa rfl rfl (be q1_9 e2_9 rfl) ?_; refine aa rfl rfl (ai rfl rfl rfl fun hC h1 h2=>ti (keptRatio_l h1 h2 hl1 hl1')) ?_; refine p10 ?_; refine aa rfl rfl (st_loadL p6_9 e6_9 rfl) ?_; refine aa rfl rfl (be q2_9 e3_9 rfl) ?_; refine aa rfl rfl (ai rfl rfl rfl fun hC h1 h2=>ti (keptRatio_l h1 h2 hl2 hl2')) ?_; refine p20 ?_; refine p10 ?_; exact ae rfl
 intro W_10 x a_10 hC hall ha hN_10 hD_10 bb_10
 have e4_10:=ln ha hall 4 8
 repeat first | apply lw | apply lx
 refine wp_ret ?_
 repeat (refine then_r ?_)
 exact bc (t:=4) rfl hD_10 e4_10 ⟨rfl,bb_10⟩
end Go.Proofs.YtnbhihhjgpddcaaGreatDoor
namespace Go.Proofs.YtnbhihhjgpddcaaGreatDoor
open Go.ChangeShapes Go.WideShapes Go.ChangeAt Go.WideMaps Go.WideElems Go.RowKit
open Go.ChangeMaps (setBlock shut_map_nil open_string shut_string keptBut_setBlock frozen?_setBlock heap_setBlock_same)
theorem int_inner {H : Type} {enc : TypeId × Value → H} {W : World} {n : Nat} {c0 c1 : Value} {y : DataW H × List MemPlace} (h : DataW.trod enc Tryz.prog W 0 (fun _=>true) true n 24 [c0,c1] = some y) :
   ∃ (b : Bool) (A : Option Addr) (c : Nat) (ds : List Nat),c0 = .bool b ∧ c1 = .slice A ds.length c ∧ Row W A (u32s ds) ∧ small 4294967296 ds:=by
 obtain ⟨y0,y1,m,_,_,h0,h1⟩:=trod_struct2 Tryz.underlying24 h
 have e0 : [c0,c1].drop 0 = [c0,c1]:=rfl
 have k0 : Tryz.prog.cellsOf 4 = 1:=by kernel_rfl
 have k1 : Tryz.prog.cellsOf 22 = 1:=by kernel_rfl
 have h0' : DataW.trod enc Tryz.prog W 0 (fun _=>true) true m 4 [c0] = some y0:=by simpa [k0] using h0
 have h1' : DataW.trod enc Tryz.prog W 0 (fun _=>true) true m 22 [c1] = some y1:=by simpa [k1] using h1
 have hb : ∃ b,c0 = .bool b:=by
   obtain ⟨b,hc,_⟩:=DataW.trod_bool Tryz.underlying4 h0'; injection hc with hc; exact ⟨b,hc⟩
 obtain ⟨b,rfl⟩:=hb
 rcases open_ints Tryz.underlying22 Tryz.underlying81 (by kernel_rfl) h1' with ⟨hcs,_⟩ | ⟨a,len,cap,zs,hcs,_,hl,hm,hz,_,hcell,hw⟩
 · injection hcs with hcs; subst hcs; exact ⟨b,none,0,[],rfl,rfl,Row.nil _ _,br _⟩
 · injection hcs with hcs; subst hcs; simp only [if_true] at hz; have hll:=lim_length (zs:=zs) (n:=len) (by omega); refine ⟨b,some a,cap,lim zs len,rfl,by rw [hll],lim_row hl hz hw (fun h=>by cases h) (fun a' ha i hi=>?_),lim_small hw⟩; injection ha with ha; subst ha; exact hcell i (by omega)
theorem open_apiRatio {H : Type} {enc : TypeId × Value → H} {W : World} {base : Nat} {v : Value} {d : DataW H} {ps : List MemPlace} (hv : Value.okWide Tryz.prog W .any base 26 v) (h : DataW.Trod enc Tryz.prog W 0 (fun _=>true) true 26 v d ps) :
   ∃ (b b' : Bool) (A A' : Option Addr) (c c' : Nat) (ds es : List Nat),v = .agg #[.bool b,.slice A ds.length c,.bool b',.slice A' es.length c'] ∧ Row W A (u32s ds) ∧ small 4294967296 ds ∧ Row W A' (u32s es) ∧ small 4294967296 es:=by
 obtain ⟨cs,rfl,hsz⟩:=okWide_struct Tryz.underlying26 hv
 obtain ⟨c0,c1,c2,c3,rfl⟩:=Go.Joins.array4 (hsz.trans (show Tryz.prog.cellsOf 26 = 4 by kernel_rfl))
 obtain ⟨fuel,hf⟩:=h
 obtain ⟨y0,y1,n,_,_,h0,h1⟩:=trod_struct2 Tryz.underlying26 hf
 have k : Tryz.prog.cellsOf 24 = 2:=by kernel_rfl
 have h0' : DataW.trod enc Tryz.prog W 0 (fun _=>true) true n 24 [c0,c1] = some y0:=by simpa [Value.cells,k] using h0
 have h1' : DataW.trod enc Tryz.prog W 0 (fun _=>true) true n 24 [c2,c3] = some y1:=by simpa [Value.cells,k] using h1
 obtain ⟨b,A,c,ds,rfl,rfl,r1,s1⟩:=int_inner h0'
 obtain ⟨b',A',c',es,rfl,rfl,r2,s2⟩:=int_inner h1'
 exact ⟨b,b',A,A',c,c',ds,es,rfl,r1,s1,r2,s2⟩
theorem apiRatio_ok : Tryz.prog.readableRec 26 = true ∧ 26 < Tryz.prog.types.size:=⟨by kernel_rfl,of_decide_eq_true (by kernel_rfl)⟩
theorem maxL_of {W : World} (h : W.ShapedOpen Tryz.prog) : MaxL W :=
 cell_of_shapedOpen_int (P:=Tryz.prog) (g:=0) (t:=3) (zero:=#[.int .i64 0]) h (of_decide_eq_true (by kernel_rfl)) (by kernel_rfl) rfl (by kernel_rfl) (by kernel_rfl) Tryz.underlying3
theorem handed_and_shape {H : Type} {enc : TypeId × Value → H} {os : Os} {f : FuncId} {fn : Func} {s : ChangeSpec} {apart fresh handsOn again : Bool} {X : World → Prop} (hX : ∀ w w' : World, w.heap = w'.heap → X w → X w') (started : os.Started) (noInit : Tryz.checked.prog.inits.idxOf? f = none) (hfn : Tryz.checked.prog.funcs[f]? = some fn)
   (witness : ∃ (w : World) (tape : Tape) (i : Input), w.os = os ∧ (w.forCall tape i).Shaped Tryz.checked.prog ∧ i.vars = [] ∧ Input.okWide Tryz.checked.prog (w.forCall tape i) .any w.heap.size f i ∧
     ((s.pre enc Tryz.checked.prog fn [] apart (w.forCall tape i).memory i.args ∧ X (w.forCall tape i).memory) ∧ sizedMet enc Tryz.checked.prog fn (OpenSpec.ofChange s) apart (w.forCall tape i).memory i.args) ∧ ({} : Assume).holds Tryz.checked.prog (lone (Frame.enter Tryz.checked.prog f i.args .normal) [] (w.forCall tape i)))
   (contract : ∀ (W : World) (base : Nat) (args : Array Value) (ds gs : List (DataW H)) (before : List MemPlace),
     (∀ (j : Nat) t v,fn.params[j]? = some t → args[j]? = some v → Value.okWide Tryz.checked.prog W .any base t v) →
     DataW.Whole enc Tryz.checked.prog fn.params.toList s.vars apart W args.toList ds gs before → W.ShapedOpen Tryz.checked.prog → X W →
     (DataW.weightsEach Tryz.checked.prog (fn.params.toList ++ s.plain.varTypes Tryz.checked.prog) (ds ++ gs)).all (· ≤ reachBytes) = true →
     Calls Tryz.checked.prog f args W fun e W'=>∃ v,e = .returned v ∧ s.post enc Tryz.checked.prog fn apart fresh handsOn again W args v W') :
   ReturnsInHanded {} Tryz.checked os f .any (fun w args=>(s.pre enc Tryz.checked.prog fn [] apart w args ∧ X w) ∧ sizedMet enc Tryz.checked.prog fn (OpenSpec.ofChange s) apart w args) (s.post enc Tryz.checked.prog fn apart fresh handsOn again):=by
 refine returnsInHanded_of_calls own started noInit witness fun w tape i _ shape _ good met _=>?_
 obtain ⟨_,_,_,g,hg,_,_,_,_,vals⟩:=good
 obtain rfl : g = fn:=Option.some.inj (hg.symm.trans hfn)
 obtain ⟨⟨⟨ds,gs,before,whole,_⟩,x⟩,size⟩:=met
 exact (contract (w.forCall tape i) w.heap.size i.args ds gs before vals (DataW.Whole.of_heap (w':=w.forCall tape i) (by rfl) whole) shape (hX _ _ (by rfl) x) (size.weights whole)).mono fun _ _ ⟨v,e,p⟩=>e ▸ ChangeSpec.post_blind p
end Go.Proofs.YtnbhihhjgpddcaaGreatDoor
namespace Go.Proofs.YtnbhihhjgpddcaaGreatDoor
open Go.ChangeShapes Go.WideShapes Go.ChangeAt Go.WideMaps Go.WideElems Go.RowKit
open Go.ChangeMaps (setBlock shut_map_nil open_string shut_string keptBut_setBlock frozen?_setBlock heap_setBlock_same)
theorem ratioTells_lifted (os : Os) (started : os.Started) (H : Type) (enc : TypeId × Value → H) :
   ReturnsInHanded {} Tryz.checked os 3 .any (fun w args => (Rows.ratioTellsSpec.pre enc Tryz.prog Tryz.f3 [] false w args ∧ laidMetH Tryz.prog laid3 w) ∧ sizedMet enc Tryz.prog Tryz.f3 (OpenSpec.ofChange Rows.ratioTellsSpec) false w args)
     (Rows.ratioTellsSpec.post enc Tryz.prog Tryz.f3 false true false false):=by
 refine handed_and_shape (X := fun w => laidMetH Tryz.prog laid3 w) (fun _ _ hh h => h.of_heap hh) started (by kernel_rfl) Tryz.func3
   (ChangeSpec.witness_shaped (enc:=enc) (C:=Tryz.checked) (os:=os) (X:=fun w _=>laidMetH Tryz.prog laid3 w) false (World.doorLaid Tryz.prog 400 os) #[.agg #[.bool false,.slice none 0 0,.bool false,.slice none 0 0],.agg #[.bool false,.slice none 0 0,.bool false,.slice none 0 0]] 8 rfl (World.shaped_of_RefB (by kernel_rfl) (by kernel_rfl)) (by kernel_rfl) (by kernel_rfl) (by kernel_rfl) (door_met os _)) ?_
 intro W base args ds gs before hval0 hW hsh hL _
 have hval : ∀ (j : Nat) t v,Tryz.f3.params[j]? = some t → args[j]? = some v → Value.okWide Tryz.prog W .any base t v:=hval0
 have hW':=hW
 obtain ⟨p,q,hA0,hV,rfl,hfz,hnd⟩:=hW
 have hA : DataW.TrodAll enc Tryz.prog W 0 (fun _=>true) true Tryz.f3.params.toList args.toList ds p:=hA0
 have hlt:=hA.lt
 rw [ Tryz.params3 ] at hA hval
 have hAk:=hA
 obtain ⟨v0,v1,d0,d1,p0,p1,rfl,rfl,rfl,h0,h1⟩:=trodAll_two hA
 obtain ⟨rfl,rfl⟩:=trodVars_none hV
 obtain ⟨b1,b1',A1,A1',c1,c1',xs,xs',rfl,r1,s1,r1',s1'⟩:=open_apiRatio (hval 0 26 v0 rfl rfl) h0
 obtain ⟨b2,b2',A2,A2',c2,c2',ys,ys',rfl,r2,s2,r2',s2'⟩:=open_apiRatio (hval 1 26 v1 rfl rfl) h1
 obtain ⟨ht,hw3⟩:=tab_of_laid hL
 have hm:=maxL_of hsh
 have HT:=Lib.hid (show Tab W ∧ 2 ≤ W.heap.size from ⟨ht,hw3⟩)
 clear hA0 hval0 hsh
 simp only [List.append_nil] at hW'
 have e1 : Rows.ratioTellsSpec.fn H ([d0,d1] ++ []) = { results:=[.lit (.bool true)],args:=[d0,d1] }:=by simp [Rows.ratioTellsSpec]
 have hlaw : Calls Tryz.prog 3 #[.agg #[.bool b1,.slice A1 xs.length c1,.bool b1',.slice A1' xs'.length c1'],.agg #[.bool b2,.slice A2 ys.length c2,.bool b2',.slice A2' ys'.length c2']] W fun e w'=>e = .returned (.bool true) ∧ Below W.heap.size W w':=by
   cases hf : fewP [(xs.length,xs'.length),(ys.length,ys'.length)] with
   | false=>exact lawTellQ_great hf HT hm
   | true =>
     have hl:=hf; simp [fewP] at hl; exact lawTellQ_few hf r1 r1' r2 r2' s1 s1' s2 s2' hl.1.1 hl.1.2 hl.2.1 hl.2.2 HT hm
 refine hlaw.mono fun e W' ⟨he,hb⟩=>?_
 subst he
 refine ⟨_,rfl,_,_,_,[],p0 ++ p1,[],hW',?_,?_,?_,hb.frame _,fun h=>by cases h⟩
 · rw [e1]; exact trodAll_mk1 (shut_bool Tryz.underlying4 true)
 · rw [e1]; exact below_trodAll hb (fun t ht=>by
     have : t = 26:=by simpa using ht
     rw [this]; exact apiRatio_ok) hAk hlt
 · rw [e1]; rfl
theorem ratioTells_said : Rows.RatioTellsSaid :=
 OpenClaim.holds_of_wide 3 Tryz.f3 rfl rfl rfl rfl rfl rfl rfl ⟨rfl, rfl, rfl, rfl, rfl⟩ rfl rfl rfl rfl rfl (by kernel_rfl) Tryz.func3 (by kernel_rfl)
   (of_decide_eq_true (by kernel_rfl)) (by unfold Func.isWrapper; first | (rw [if_pos (by decide +kernel)]; kernel_rfl) | (rw [if_neg (by decide +kernel)]; exact ⟨rfl,rfl⟩))
   (fun os started H enc _=>ratioTells_lifted os started H enc)
theorem ratioTells_card : Rows.RatioTellsCardSaid :=
 Claim7.holds_tied_plain_at .later [] [.data, .data, .data] true (true, Rows.ratioTellsCard.stood.harness.2) false
   ratioTells_said (fun _ h=>by cases h) (by kernel_rfl) (fun _ h=>by cases h) ratioTells_row_tie rfl ⟨rfl,rfl⟩ (by kernel_rfl) rfl
   (fun f fn hf hfn=>by
     obtain rfl : f = 3:=Option.some.inj ((show Tryz.prog.funcNamed "whetstone/whetstonelaw03.RatioTells" = some 3 by kernel_rfl).symm.trans hf) |>.symm; obtain rfl : fn = Tryz.f3:=(Option.some.inj (Tryz.func3.symm.trans hfn)).symm
     exact ⟨by kernel_rfl,fun j t ht=>by
       rw [ Tryz.params3 ] at ht; have hm : t ∈ [ 26,26 ]:=by simpa using Array.mem_of_getElem? ht
       have hall : ([ 26,26 ].all fun u=>!Tryz.prog.wantsStandIn u) = true:=by kernel_rfl
       exact (show Tryz.prog.wantsStandIn t = false by simpa using List.all_eq_true.1 hall t hm)⟩)
   (by kernel_rfl)
theorem ratioTells_proved : Rows.RatioTellsCardSaid:=ratioTells_card
end Go.Proofs.YtnbhihhjgpddcaaGreatDoor
namespace Go.Proofs.YtnbhihhjgpddcaaGreatDoor
open Go.RowKit
theorem ref2Parse_core {s t : ByteArray} {neg ok sb : Bool} {v N : Nat} (hs : s.size ≤ 4000)
   (hcase : (s.size = 0 ∧ neg = false ∧ t = s) ∨ (∃ h : 0 < s.size,((s[0].toNat : Int) == 45) = neg ∧ t = if neg then s.extract 1 s.size else s))
   (hof : ∀ W,Calls Tryz.prog 133 #[.string t] W (RetSB W v ok)) (hv : v < 1000000000 ^ N) (hN : N ≤ 445) (hsb : sb = sgn v neg) (w : World) :
   Calls Tryz.prog 110 #[.string s] w (RetIntB w (if ok && (sb == neg) then v else 0) (ok && (sb == neg) && neg) (ok && (sb == neg))):=by
 have HO:=Lib.hid hof
 have hzero : ∀ W : World,Calls Tryz.prog 93 #[.int .i64 0] W (RetInt W 0 false):=fun W=>ref2Of_any (w:=W) 0 0 (by decide) (by decide) rfl
 have HZ:=Lib.hid hzero
 have hdig : ∀ (W : World) (A : Option Addr) (k c : Nat),Rr W (.slice A k c) v → (k : Int) = 0 ∧ v = 0 ∨ ((k : Int) == 0) = false ∧ v ≠ 0:=fun W A k c h=>by
   have:=(rr_len h).1
   by_cases hv0 : v = 0
   · exact .inl ⟨by have:=this.2 hv0; omega,hv0⟩
   · exact .inr ⟨beq_eq_false_iff_ne.2 fun h1=>hv0 (this.1 (by omega)),hv0⟩
 have HD:=Lib.hid hdig
 have hmake : ∀ (W : World) (A : Option Addr) (k c : Nat),Rr W (.slice A k c) v → Calls Tryz.prog 94 #[.bool neg,.slice A k c] W (RetInt W v sb):=fun W A k c h=>by
   obtain ⟨xs,rfl,hr,hx,rfl,hl⟩:=gb h hv; rw [hsb]; exact ref2of_any neg hr (fun d hd=>Nat.lt_trans (hx.1 d hd) (by decide)) (by omega) hv (by omega)
 have HM:=Lib.hid hmake
 clear hof hzero hmake hdig hv hN
 have HSB:=Lib.hid hsb
 clear hsb
 obtain ⟨W0,hW0⟩ : ∃ W0,W0 = w.alloc (Obj.cells #[Value.bool false,Value.slice none 0 0] 24):=⟨_,rfl⟩
 have bW0 : Below w.heap.size w W0:=by rw [hW0]; exact bal (Below.refl _ _) _
 have K0 : Hid (W0.heap[w.heap.size]? = some (Obj.cells #[Value.bool false,Value.slice none 0 0] 24)):=by show _ = _; rw [hW0]; exact heap_alloc_new _ _
 have hs0 : w.heap.size < W0.heap.size:=lt_block K0.out
 have HW0:=Lib.hid hW0
 have hfin : ∀ (w3 : World) (A3 : Option Addr) (k3 c3 n : Nat),Below W0.heap.size W0 w3 → Rr w3 (.slice A3 k3 c3) n → (∀ b' : Bool,((w3.setCell ⟨w.heap.size,0,none⟩ (.bool b')).setCell ⟨w.heap.size,1,none⟩ (.slice A3 k3 c3)).cell? ⟨w.heap.size,0,none⟩ = some (.bool b') ∧ ((w3.setCell ⟨w.heap.size,0,none⟩ (.bool b')).setCell ⟨w.heap.size,1,none⟩ (.slice A3 k3 c3)).cell? ⟨w.heap.size,1,none⟩ = some (.slice A3 k3 c3) ∧ Rr ((w3.setCell ⟨w.heap.size,0,none⟩ (.bool b')).setCell ⟨w.heap.size,1,none⟩ (.slice A3 k3 c3)) (.slice A3 k3 c3) n) ∧ (w3.cell? ⟨w.heap.size,0,none⟩ = some (.bool false) ∧ w3.cell? ⟨w.heap.size,1,none⟩ = some (.slice none 0 0) ∧ w3.frozen? ⟨w.heap.size,0,none⟩ = false ∧ w3.frozen? ⟨w.heap.size,1,none⟩ = false):=fun w3 A3 k3 c3 n hb hr=>by
   have k3':=(hb.block w.heap.size hs0).trans K0.out; exact ⟨fun b'=>ch k3' (fun d h=>by cases h) (fun d h=>by cases h) hr,cell_of_two k3'⟩
 have HFIN:=Lib.hid hfin
 clear hW0 hfin
 have HC:=Lib.hid hcase
 clear hcase
 obtain ⟨r,hr⟩ : ∃ r,r = if ok && (sb == neg) then v else 0:=⟨_,rfl⟩
 obtain ⟨b',hb'⟩ : ∃ b',b' = (ok && (sb == neg) && neg):=⟨_,rfl⟩
 obtain ⟨o',ho'⟩ : ∃ o',o' = (ok && (sb == neg)):=⟨_,rfl⟩
 rw [← hr,← hb',← ho']
 have HR:=Lib.hid hr
 have HB:=Lib.hid hb'
 have HK:=Lib.hid ho'
 clear hr hb' ho'
 go_enter Tryz.func110,Tryz.ntmps110
 go_wp2_with fail
 all_goals rw [← HW0.out]
 · rename_i q1 q2 _ _ _ _
   have hnt : neg = true ∧ t = s.extract 1 s.size:=by
     rcases HC.out with ⟨h0,_⟩ | ⟨_,hq,ht⟩
     · omega
     · have e : neg = true:=hq ▸ q2; subst e; exact ⟨rfl,ht⟩
   obtain ⟨rfl,rfl⟩:=hnt; clear HC; refine (HO.out _).mono ?_; rintro e w2 ⟨A1,k1,c1,rfl,h1,hb⟩; have hdd:=HD.out _ _ _ _ h1; have HDD:=Lib.hid hdd; have hmm:=HM.out _ _ _ _ h1; have HMM:=Lib.hid hmm; clear hdd hmm
   cases ok
   · have er : r = 0 ∧ b' = false ∧ o' = false:=by rw [HR.out,HB.out,HK.out]; simp
     obtain ⟨rfl,rfl,rfl⟩:=er
     go_wp2_with fail
     refine (HZ.out _).mono ?_; rintro e w3 ⟨A3,k3,c3,rfl,h3,_,hb3⟩; obtain ⟨hst,m1,m2,m3,m4⟩:=HFIN.out w3 A3 k3 c3 _ (bstep hb hb3) h3; obtain ⟨n1,n2,n3⟩:=hst false; have hbw:=bstep bW0 (bstep hb hb3); clear hst hb hb3
     go_wp2
     refine bodyPost_ret (v:=.tuple #[.agg #[.bool false,.slice A3 k3 c3],.bool false]) (by simp [results,Tryz.results110,go_sem,n1,n2]) rfl ?_; exact ⟨A3,k3,c3,rfl,n3,fun _=>rfl,(hbw.setCell (Nat.le_refl _) _).setCell (Nat.le_refl _) _⟩
   · rcases HDD.out with ⟨hk,hv⟩ | ⟨hk,hv⟩
     · have es : sb = false:=by rw [HSB.out,hv]; rfl
       subst es; have er : r = 0 ∧ b' = false ∧ o' = false:=by rw [HR.out,HB.out,HK.out]; simp
       obtain ⟨rfl,rfl,rfl⟩:=er
       go_wp2_with fail
       refine (HZ.out _).mono ?_; rintro e w3 ⟨A3,k3,c3,rfl,h3,_,hb3⟩; obtain ⟨hst,m1,m2,m3,m4⟩:=HFIN.out w3 A3 k3 c3 _ (bstep hb hb3) h3; obtain ⟨n1,n2,n3⟩:=hst false; have hbw:=bstep bW0 (bstep hb hb3); clear hst hb hb3
       go_wp2
       refine bodyPost_ret (v:=.tuple #[.agg #[.bool false,.slice A3 k3 c3],.bool false]) (by simp [results,Tryz.results110,go_sem,n1,n2]) rfl ?_; exact ⟨A3,k3,c3,rfl,n3,fun _=>rfl,(hbw.setCell (Nat.le_refl _) _).setCell (Nat.le_refl _) _⟩
     · have es : sb = true:=by rw [HSB.out]; simp [sgn,hv]
       subst es; have er : r = v ∧ b' = true ∧ o' = true:=by rw [HR.out,HB.out,HK.out]; simp
       obtain ⟨rfl,rfl,rfl⟩:=er
       go_wp2_with fail
       refine (HMM.out).mono ?_; rintro e w3 ⟨A3,k3,c3,rfl,h3,z3,hb3⟩; obtain ⟨hst,m1,m2,m3,m4⟩:=HFIN.out w3 A3 k3 c3 _ (bstep hb hb3) h3; obtain ⟨n1,n2,n3⟩:=hst true; have hbw:=bstep bW0 (bstep hb hb3); clear hst hb hb3
       go_wp2
       refine bodyPost_ret (v:=.tuple #[.agg #[.bool true,.slice A3 k3 c3],.bool true]) (by simp [results,Tryz.results110,go_sem,n1,n2]) rfl ?_; exact ⟨A3,k3,c3,rfl,n3,z3,(hbw.setCell (Nat.le_refl _) _).setCell (Nat.le_refl _) _⟩
 · rename_i q1 q2 _ _ _ _
   have hnt : neg = false ∧ t = s:=by
     rcases HC.out with ⟨h0,_⟩ | ⟨_,hq,ht⟩
     · omega
     · have e : neg = false:=hq ▸ q2; subst e; exact ⟨rfl,ht⟩
   obtain ⟨rfl,rfl⟩:=hnt; clear HC; refine (HO.out _).mono ?_; rintro e w2 ⟨A1,k1,c1,rfl,h1,hb⟩; have hdd:=HD.out _ _ _ _ h1; have HDD:=Lib.hid hdd; have hmm:=HM.out _ _ _ _ h1; have HMM:=Lib.hid hmm; clear hdd hmm
   cases ok
   · have er : r = 0 ∧ b' = false ∧ o' = false:=by rw [HR.out,HB.out,HK.out]; simp
     obtain ⟨rfl,rfl,rfl⟩:=er
     go_wp2_with fail
     refine (HZ.out _).mono ?_; rintro e w3 ⟨A3,k3,c3,rfl,h3,_,hb3⟩; obtain ⟨hst,m1,m2,m3,m4⟩:=HFIN.out w3 A3 k3 c3 _ (bstep hb hb3) h3; obtain ⟨n1,n2,n3⟩:=hst false; have hbw:=bstep bW0 (bstep hb hb3); clear hst hb hb3
     go_wp2
     refine bodyPost_ret (v:=.tuple #[.agg #[.bool false,.slice A3 k3 c3],.bool false]) (by simp [results,Tryz.results110,go_sem,n1,n2]) rfl ?_; exact ⟨A3,k3,c3,rfl,n3,fun _=>rfl,(hbw.setCell (Nat.le_refl _) _).setCell (Nat.le_refl _) _⟩
   · have es : sb = false:=by rw [HSB.out]; rfl
     subst es; have er : r = v ∧ b' = false ∧ o' = true:=by rw [HR.out,HB.out,HK.out]; simp
     obtain ⟨rfl,rfl,rfl⟩:=er
     go_wp2_with fail
     refine (HMM.out).mono ?_; rintro e w3 ⟨A3,k3,c3,rfl,h3,_,hb3⟩; obtain ⟨hst,m1,m2,m3,m4⟩:=HFIN.out w3 A3 k3 c3 _ (bstep hb hb3) h3; obtain ⟨n1,n2,n3⟩:=hst false; have hbw:=bstep bW0 (bstep hb hb3); clear hst hb hb3
     go_wp2
     refine bodyPost_ret (v:=.tuple #[.agg #[.bool false,.slice A3 k3 c3],.bool true]) (by simp [results,Tryz.results110,go_sem,n1,n2]) rfl ?_; exact ⟨A3,k3,c3,rfl,n3,fun _=>rfl,(hbw.setCell (Nat.le_refl _) _).setCell (Nat.le_refl _) _⟩
 · rename_i q1 _ _ _ _
   have hnt : neg = false ∧ t = s:=by
     rcases HC.out with ⟨_,h1,h2⟩ | ⟨h0,_⟩
     · exact ⟨h1,h2⟩
     · exact absurd h0 q1
   obtain ⟨rfl,rfl⟩:=hnt; clear HC; refine (HO.out _).mono ?_; rintro e w2 ⟨A1,k1,c1,rfl,h1,hb⟩; have hdd:=HD.out _ _ _ _ h1; have HDD:=Lib.hid hdd; have hmm:=HM.out _ _ _ _ h1; have HMM:=Lib.hid hmm; clear hdd hmm
   cases ok
   · have er : r = 0 ∧ b' = false ∧ o' = false:=by rw [HR.out,HB.out,HK.out]; simp
     obtain ⟨rfl,rfl,rfl⟩:=er
     go_wp2_with fail
     refine (HZ.out _).mono ?_; rintro e w3 ⟨A3,k3,c3,rfl,h3,_,hb3⟩; obtain ⟨hst,m1,m2,m3,m4⟩:=HFIN.out w3 A3 k3 c3 _ (bstep hb hb3) h3; obtain ⟨n1,n2,n3⟩:=hst false; have hbw:=bstep bW0 (bstep hb hb3); clear hst hb hb3
     go_wp2
     refine bodyPost_ret (v:=.tuple #[.agg #[.bool false,.slice A3 k3 c3],.bool false]) (by simp [results,Tryz.results110,go_sem,n1,n2]) rfl ?_; exact ⟨A3,k3,c3,rfl,n3,fun _=>rfl,(hbw.setCell (Nat.le_refl _) _).setCell (Nat.le_refl _) _⟩
   · have es : sb = false:=by rw [HSB.out]; rfl
     subst es; have er : r = v ∧ b' = false ∧ o' = true:=by rw [HR.out,HB.out,HK.out]; simp
     obtain ⟨rfl,rfl,rfl⟩:=er
     go_wp2_with fail
     refine (HMM.out).mono ?_; rintro e w3 ⟨A3,k3,c3,rfl,h3,_,hb3⟩; obtain ⟨hst,m1,m2,m3,m4⟩:=HFIN.out w3 A3 k3 c3 _ (bstep hb hb3) h3; obtain ⟨n1,n2,n3⟩:=hst false; have hbw:=bstep bW0 (bstep hb hb3); clear hst hb hb3
     go_wp2
     refine bodyPost_ret (v:=.tuple #[.agg #[.bool false,.slice A3 k3 c3],.bool true]) (by simp [results,Tryz.results110,go_sem,n1,n2]) rfl ?_; exact ⟨A3,k3,c3,rfl,n3,fun _=>rfl,(hbw.setCell (Nat.le_refl _) _).setCell (Nat.le_refl _) _⟩
theorem cut_of (s : ByteArray) : ∃ (neg : Bool) (t : ByteArray), t.size ≤ s.size ∧ ((s.size = 0 ∧ neg = false ∧ t = s) ∨ (∃ h : 0 < s.size, ((s[0].toNat : Int) == 45) = neg ∧ t = if neg then s.extract 1 s.size else s)) ∧
   (⟨(Lib.trimPrefix s.data.toList [45]).toArray⟩ : ByteArray) = t ∧ Lib.hasPrefix s.data.toList [45] = neg:=by
 refine ⟨Lib.hasPrefix s.data.toList [45],⟨(Lib.trimPrefix s.data.toList [45]).toArray⟩,?_,?_,rfl,rfl⟩
 · have:=Lib.trimPrefix_le s.data.toList [45]; rw [Lib.size_eq,Lib.size_eq]; exact this
 · obtain ⟨⟨l⟩⟩:=s
   match l with
   | []=>exact .inl ⟨rfl,rfl,rfl⟩
   | x :: r =>
     have hx : ((x.toNat : Int) == 45) = (x == 45):=by
       rw [Bool.eq_iff_iff,beq_iff_eq,beq_iff_eq,← UInt8.toNat_inj]
       exact ⟨fun h => by have h1 : x.toNat = 45 := by omega
                          exact h1, fun h => by have h1 : x.toNat = 45 := h
                                                omega⟩
     have hf : Lib.hasPrefix (x :: r) [45] = (x == 45):=by
       show ((45 == x) && List.isPrefixOf [] r) = _
       rw [List.isPrefixOf_nil_left,Bool.and_true,Bool.beq_comm]
     refine .inr ⟨by show 0 < (x :: r).length; exact Nat.succ_pos _,hx.trans hf.symm,?_⟩
     show (⟨(if Lib.hasPrefix (x :: r) [45] then r else x :: r).toArray⟩ : ByteArray) = if Lib.hasPrefix (x :: r) [45] then _ else _
     rw [hf]; split
     · rw [Lib.extract_eq]
       show _ = (⟨(r.take (r.length + 1 - 1)).toArray⟩ : ByteArray)
       rw [Nat.add_sub_cancel,List.take_length]
     · rfl
section
variable {ρ : Operand → Value} {w : World} {d : Option Tmp} {T E2 : TypeId} {pos : String} {af : Array Edge} {gu : Option (Nat × Bool)} {a b : Operand} {s : ByteArray} {k : Nat}
theorem jg (ha : ρ a = .string s) (hb : ρ b = .int .i64 (k : Int)) (hk : k ≤ s.size) :
   (execOp ρ { dst:=d,op:=.slice 9 a none (some b) none,type:=T,pos:=pos,after:=af,guard:=gu }).run Tryz.prog w = .ok (.value (.string (s.extract 0 k))) w:=by
 show ((Instr.sliceAt 9 (ρ a) none (some (ρ b)) none) >>= fun v=>pure (Next.value v)).run Tryz.prog w = _
 rw [ha,hb]
 have e : (Instr.sliceAt 9 (.string s) none (some (.int .i64 (k : Int))) none).run Tryz.prog w = .ok (.string (s.extract 0 k)) w:=by go_simp
 rw [bm e]; rfl
theorem ex_slHi (ha : ρ a = .string s) (hb : ρ b = .int .i64 ((k : Int) + 1)) (hk : k + 1 ≤ s.size) :
   (execOp ρ { dst:=d,op:=.slice 9 a (some b) none none,type:=T,pos:=pos,after:=af,guard:=gu }).run Tryz.prog w = .ok (.value (.string (s.extract (k + 1) s.size))) w:=by
 show ((Instr.sliceAt 9 (ρ a) (some (ρ b)) none none) >>= fun v=>pure (Next.value v)).run Tryz.prog w = _
 rw [ha,hb]
 have e : (Instr.sliceAt 9 (.string s) (some (.int .i64 ((k : Int) + 1))) none none).run Tryz.prog w = .ok (.string (s.extract (k + 1) s.size)) w:=by
   go_simp
   intro h; have:=h (by omega); omega
 rw [bm e]; rfl
theorem ex_add1 (ha : ρ a = .int .i64 (k : Int)) (hb : ρ b = .int .i64 1) (hk : k ≤ 100) :
   (execOp ρ { dst:=d,op:=.binOp .add 3 a b E2,type:=T,pos:=pos,after:=af,guard:=gu }).run Tryz.prog w = .ok (.value (.int .i64 ((k : Int) + 1))) w:=by
 show (((do eqGuard .add 3 a b (ρ a) (ρ b); binOp .add 3 (ρ a) (ρ b)) : Sem Value) >>= fun v=>pure (Next.value v)).run Tryz.prog w = _
 rw [ha,hb]
 have e : (binOp .add 3 (.int .i64 (k : Int)) (.int .i64 1)).run Tryz.prog w = .ok (.int .i64 ((k : Int) + 1)) w:=by
   go_simp
   rw [IntKind.wrap_i64]; omega
 have e2 : ((do eqGuard .add 3 a b (.int .i64 (k : Int)) (.int .i64 1); binOp .add 3 (.int .i64 (k : Int)) (.int .i64 1)) : Sem Value).run Tryz.prog w = .ok (.int .i64 ((k : Int) + 1)) w:=by
   rw [bm (v:=()) (w':=w) rfl]; exact e
 rw [bm e2]; rfl
end
theorem refParse_whole_yes {w : World} {s : ByteArray} {k : Nat} (hs : s.size ≤ 100) (hk : k = s.size) (h1 : ∀ j,j < k → (bt s).getD j 0 ≠ 47) {zx : Int} (HA : Hid (∀ (W : World) {S0 : Nat} {x_ : Nat → Value},Calls Tryz.prog 110 #[.string (s.extract 0 k)] W (Told (kZB 19 (zx) true) S0 x_ W))) :
   Calls Tryz.prog 79 #[.string s] w fun e w'=>∃ v,e = .returned (.tuple #[v,.bool true]) ∧ Pr w' v 19 (zx) (1) ∧ Below w.heap.size w w':=by
 have HP:=Lib.hid (show (∀ j,j < k → (bt s).getD j 0 ≠ 47) from h1)
 have hks : k ≤ s.size:=by omega
 have hk1 : k ≤ 100:=by omega
 have hwh : ((k : Int) == (s.size : Int)) = true:=by rw [hk]; exact beq_self_eq_true _
 have HC:=Lib.hid (show k ≤ s.size ∧ k ≤ 100 ∧ ((k : Int) == (s.size : Int)) = true from ⟨hks,hk1,hwh⟩)
 clear h1 hk1 hwh
 go_enter Tryz.func79,Tryz.ntmps79
 go_wp2_with fail
 go_loop [4] (fun i=>∃ q : Nat,q ≤ k ∧ i = .int .i64 q) (fun i=>k - (intOf i).toNat)
 case atStart=>exact ⟨0,Nat.zero_le _,rfl⟩
 case round =>
   obtain ⟨q,hq,rfl⟩:=hrel
   by_cases hlt : q < k
   · have hqs : q < s.size:=by omega
     have hx:=gy s q hqs
     obtain ⟨x,hxe⟩ : ∃ x,x = (bt s).getD q 0:=⟨_,rfl⟩
     rw [← hxe] at hx; have h47 : ((x : Int) == 47) = false:=by rw [beq_eq_false_iff_ne]; have:=HP.out q hlt; omega
     clear hxe
     go_wp2
     go_round
     case rel=>exact ⟨q + 1,by omega,by go_num⟩
     case measure=>first | (simp [intOf]; done) | (simp [intOf]; omega)
   · obtain rfl : q = k:=by omega
     have hk':=hq; have hnl : ¬ q < s.size:=by omega
     go_upto_region 4 with fail
     rename_i hrest
     clear hk' hlt hq HP hnl; refine mb (G:=fun W=>Code.wp _ _ _ _ W) ?_; intro W_0 bb_0 K0; have R_0:=ge K0; clear K0; obtain ⟨hks,hk1,hwh⟩:=HC.out; refine ly (G:=fun a=>Code.wp _ _ _ a _) 64 ?_; intro a_0 ha hN_0 hD_0; have e0_0 : a_0.eval (.tmp 0) = .string s:=ma ha; have e2_0:=lu ha 2 w.heap.size; have e4_0 : a_0.eval (.tmp 4) = .int .i64 ((q : Nat) : Int):=ma ha
     repeat first | apply lw | apply lx
     refine lm bb_0 [kIs (.string s),kIs (.int .i64 ((q : Nat) : Int)),kIs (.string (s.extract 0 q)),kZB 19 (zx) true,kZB 19 (zx) true,kZ 19 (zx),lq,PK.fresh 2,kPutZ 7 19 (zx),lq] [[],[],[0,1],[2],[3],[4],[4],[],[7,5],[6]] [23,24,25,26,22,27,28,5,999,6] [] [] ?_ ?_
     ·
       refine p01 e0_0 ?_; refine p01 e4_0 ?_; refine p20 (hr:=fun _=>jg (by kernel_rfl) (by kernel_rfl) hks) ?_; refine aa rfl rfl (ac rfl rfl fun hC h1=>cf h1 (HA.out _)) ?_; refine aa rfl rfl (bg rfl rfl) ?_; refine ap ext_z ?_; refine ap ext_ok ?_; refine ar ?_; refine bf ?_; refine p10 ?_; exact ae rfl
     intro W_1 x_ a_1 hC hall ha hN_1 hD_1 bb_1; have e0_1:=ab ha e0_0; have e2_1:=ab ha e2_0; have e4_1:=ab ha e4_0; have R_1:=hC.holds R_0; obtain ⟨g5,hx,hge,l5_1⟩:=bh (me hall 8); have d5:=Nat.lt_of_lt_of_le R_0.lt hge; clear hge; have e5_1:=(ak (t:=5) (i:=7) ha).trans hx; clear hx; have e6_1:=ln ha hall 6 9; have q5_1:=l5_1.atR; clear l5_1; refine hrest _ _ ?_
     repeat first | apply lw | apply lx
     refine lm bb_1 [lq,lr] [[],[0]] [29,30] [] [] ?_ ?_
     ·
       refine p01 e6_1 ?_; refine p10 ?_; exact ae rfl
     intro W_2 x_ a_2 hC hall ha hN_2 hD_2 bb_2; have e0_2:=ab ha e0_1; have e2_2:=ab ha e2_1; have e4_2:=ab ha e4_1; have e5_2:=ab ha e5_1; have R_2:=hC.holds R_1; have q5_2:=hC.at0 q5_1; have e30_2:=ln ha hall 30 1; refine wp_cond_false e30_2 ?_
     repeat first | apply lw | apply lx
     refine lm bb_2 [kIs (.int .i64 ((q : Nat) : Int)),kIs (.string s),kIs (.int .i64 (s.size : Int)),lq] [[],[],[1],[0,2]] [32,33,34,35] [] [] ?_ ?_
     ·
       refine p01 e4_2 ?_; refine p01 e0_2 ?_; refine p10 ?_; refine aa rfl rfl (ck [.int .i64 ((q : Nat) : Int),.int .i64 (s.size : Int)] [] (.bool ((q : Int) == (s.size : Int))) (.bool true) (congrArg Value.bool hwh) rfl old0) ?_; exact ae rfl
     intro W_3 x_ a_3 hC hall ha hN_3 hD_3 bb_3; have e2_3:=ab ha e2_2; have e5_3:=ab ha e5_2; have R_3:=hC.holds R_2; have q5_3:=hC.at0 q5_2; have e35_3:=ln ha hall 35 3; refine wp_cond_true e35_3 ?_
     repeat first | apply lw | apply lx
     refine mg bb_3 R_3 [kZ 19 (zx),kP 19 (zx) (1),kRes (w.heap.size) 19 (zx) (1),lq] [[],[0],[1],[]] [36,37,999,3] [] [] ?_ ?_
     ·
       refine aj (hG:=(by simp only [List.mem_singleton]; omega)) q5_3 e5_3 ?_; refine aa rfl rfl (ac rfl rfl fun hC h1=>tp (refWhole (rr h1))) ?_; refine aa rfl rfl (bd R_3 rfl e2_3 rfl rfl) ?_; refine p00 ?_; exact ae rfl
     intro W x_ a1 hC hall ha hN1 hD1 bb1; obtain ⟨cs,hg,hP⟩:=me hall 2; have e1:=ab (t:=2) ha e2_3; have e2:=ln ha hall 3 3
     repeat first | apply lw | apply lx
     refine wp_ret ?_
     repeat (refine then_r ?_)
     exact bi (t:=2) (u:=3) rfl hD1 e1 e2 hg hP fun v hv=>⟨v,rfl,hv,bb1⟩
theorem refParse_whole_no {w : World} {s : ByteArray} {k : Nat} (hs : s.size ≤ 100) (hk : k = s.size) (h1 : ∀ j,j < k → (bt s).getD j 0 ≠ 47) {zx : Int} (HA : Hid (∀ (W : World) {S0 : Nat} {x_ : Nat → Value},Calls Tryz.prog 110 #[.string (s.extract 0 k)] W (Told (kZB 19 (zx) false) S0 x_ W))) :
   Calls Tryz.prog 79 #[.string s] w fun e w'=>∃ v,e = .returned (.tuple #[v,.bool false]) ∧ Pr w' v 1 (0) (1) ∧ Below w.heap.size w w':=by
 have HP:=Lib.hid (show (∀ j,j < k → (bt s).getD j 0 ≠ 47) from h1)
 have hks : k ≤ s.size:=by omega
 have hk1 : k ≤ 100:=by omega
 have hwh : ((k : Int) == (s.size : Int)) = true:=by rw [hk]; exact beq_self_eq_true _
 have HC:=Lib.hid (show k ≤ s.size ∧ k ≤ 100 ∧ ((k : Int) == (s.size : Int)) = true from ⟨hks,hk1,hwh⟩)
 clear h1 hk1 hwh
 go_enter Tryz.func79,Tryz.ntmps79
 go_wp2_with fail
 go_loop [4] (fun i=>∃ q : Nat,q ≤ k ∧ i = .int .i64 q) (fun i=>k - (intOf i).toNat)
 case atStart=>exact ⟨0,Nat.zero_le _,rfl⟩
 case round =>
   obtain ⟨q,hq,rfl⟩:=hrel
   by_cases hlt : q < k
   · have hqs : q < s.size:=by omega
     have hx:=gy s q hqs
     obtain ⟨x,hxe⟩ : ∃ x,x = (bt s).getD q 0:=⟨_,rfl⟩
     rw [← hxe] at hx; have h47 : ((x : Int) == 47) = false:=by rw [beq_eq_false_iff_ne]; have:=HP.out q hlt; omega
     clear hxe
     go_wp2
     go_round
     case rel=>exact ⟨q + 1,by omega,by go_num⟩
     case measure=>first | (simp [intOf]; done) | (simp [intOf]; omega)
   · obtain rfl : q = k:=by omega
     have hk':=hq; have hnl : ¬ q < s.size:=by omega
     go_upto_region 4 with fail
     rename_i hrest
     clear hk' hlt hq HP hnl; refine mb (G:=fun W=>Code.wp _ _ _ _ W) ?_; intro W_0 bb_0 K0; have R_0:=ge K0; clear K0; obtain ⟨hks,hk1,hwh⟩:=HC.out; refine ly (G:=fun a=>Code.wp _ _ _ a _) 64 ?_; intro a_0 ha hN_0 hD_0; have e0_0 : a_0.eval (.tmp 0) = .string s:=ma ha; have e2_0:=lu ha 2 w.heap.size; have e4_0 : a_0.eval (.tmp 4) = .int .i64 ((q : Nat) : Int):=ma ha
     repeat first | apply lw | apply lx
     refine lm bb_0 [kIs (.string s),kIs (.int .i64 ((q : Nat) : Int)),kIs (.string (s.extract 0 q)),kZB 19 (zx) false,kZB 19 (zx) false,kZ 19 (zx),lr,PK.fresh 2,kPutZ 7 19 (zx),lr] [[],[],[0,1],[2],[3],[4],[4],[],[7,5],[6]] [23,24,25,26,22,27,28,5,999,6] [] [] ?_ ?_
     ·
       refine p01 e0_0 ?_; refine p01 e4_0 ?_; refine p20 (hr:=fun _=>jg (by kernel_rfl) (by kernel_rfl) hks) ?_; refine aa rfl rfl (ac rfl rfl fun hC h1=>cf h1 (HA.out _)) ?_; refine aa rfl rfl (bg rfl rfl) ?_; refine ap ext_z ?_; refine ap ext_ok ?_; refine ar ?_; refine bf ?_; refine p10 ?_; exact ae rfl
     intro W_1 x_ a_1 hC hall ha hN_1 hD_1 bb_1; have e2_1:=ab ha e2_0; have R_1:=hC.holds R_0; obtain ⟨g5,hx,hge,l5_1⟩:=bh (me hall 8); have d5:=Nat.lt_of_lt_of_le R_0.lt hge; clear hge; have e5_1:=(ak (t:=5) (i:=7) ha).trans hx; clear hx; have e6_1:=ln ha hall 6 9; have q5_1:=l5_1.atR; clear l5_1; refine hrest _ _ ?_
     repeat first | apply lw | apply lx
     refine lm bb_1 [lr,lq] [[],[0]] [29,30] [] [] ?_ ?_
     ·
       refine p01 e6_1 ?_; refine p10 ?_; exact ae rfl
     intro W_2 x_ a_2 hC hall ha hN_2 hD_2 bb_2; have e2_2:=ab ha e2_1; have R_2:=hC.holds R_1; have e30_2:=ln ha hall 30 1; refine wp_cond_true e30_2 ?_
     repeat first | apply lw | apply lx
     refine mg bb_2 R_2 [kP 1 (0) (1),kRes (w.heap.size) 1 (0) (1),lr] [[],[0],[]] [31,999,3] [] [] ?_ ?_
     ·
       refine aa rfl rfl (aq [] rfl rfl fun hC=>tp db) ?_; refine aa rfl rfl (bd R_2 rfl e2_2 rfl rfl) ?_; refine p00 ?_; exact ae rfl
     intro W x_ a1 hC hall ha hN1 hD1 bb1; obtain ⟨cs,hg,hP⟩:=me hall 1; have e1:=ab (t:=2) ha e2_2; have e2:=ln ha hall 3 2
     repeat first | apply lw | apply lx
     refine wp_ret ?_
     repeat (refine then_r ?_)
     exact bi (t:=2) (u:=3) rfl hD1 e1 e2 hg hP fun v hv=>⟨v,rfl,hv,bb1⟩
theorem refParse_cut_noA {w : World} {s : ByteArray} {k : Nat} (hs : s.size ≤ 100) (hk : k < s.size) (h1 : ∀ j,j < k → (bt s).getD j 0 ≠ 47) (h2 : (bt s).getD k 0 = 47) {zx : Int} (HA : Hid (∀ (W : World) {S0 : Nat} {x_ : Nat → Value},Calls Tryz.prog 110 #[.string (s.extract 0 k)] W (Told (kZB 19 (zx) false) S0 x_ W))) :
   Calls Tryz.prog 79 #[.string s] w fun e w'=>∃ v,e = .returned (.tuple #[v,.bool false]) ∧ Pr w' v 1 (0) (1) ∧ Below w.heap.size w w':=by
 have HP:=Lib.hid (show (∀ j,j < k → (bt s).getD j 0 ≠ 47) ∧ (bt s).getD k 0 = 47 from ⟨h1,h2⟩)
 have hks : k ≤ s.size:=by omega
 have hk1 : k ≤ 100:=by omega
 have hkl : k + 1 ≤ s.size:=by omega
 have hwh : ((k : Int) == (s.size : Int)) = false:=by rw [beq_eq_false_iff_ne]; omega
 have HC:=Lib.hid (show k ≤ s.size ∧ k ≤ 100 ∧ ((k : Int) == (s.size : Int)) = false ∧ k + 1 ≤ s.size from ⟨hks,hk1,hwh,hkl⟩)
 clear h1 h2 hk1 hwh hkl
 go_enter Tryz.func79,Tryz.ntmps79
 go_wp2_with fail
 go_loop [4] (fun i=>∃ q : Nat,q ≤ k ∧ i = .int .i64 q) (fun i=>k - (intOf i).toNat)
 case atStart=>exact ⟨0,Nat.zero_le _,rfl⟩
 case round =>
   obtain ⟨q,hq,rfl⟩:=hrel
   by_cases hlt : q < k
   · have hqs : q < s.size:=by omega
     have hx:=gy s q hqs
     obtain ⟨x,hxe⟩ : ∃ x,x = (bt s).getD q 0:=⟨_,rfl⟩
     rw [← hxe] at hx; have h47 : ((x : Int) == 47) = false:=by rw [beq_eq_false_iff_ne]; have:=HP.out.1 q hlt; omega
     clear hxe
     go_wp2
     go_round
     case rel=>exact ⟨q + 1,by omega,by go_num⟩
     case measure=>first | (simp [intOf]; done) | (simp [intOf]; omega)
   · obtain rfl : q = k:=by omega
     have hk':=hq; have he : q < s.size:=hk; have hx:=gy s q he; rw [HP.out.2] at hx
     go_upto_region 4 with fail
     rename_i hrest
     clear hk' hlt hq HP he hx; refine mb (G:=fun W=>Code.wp _ _ _ _ W) ?_; intro W_0 bb_0 K0; have R_0:=ge K0; clear K0; obtain ⟨hks,hk1,hwh,hkl⟩:=HC.out; refine ly (G:=fun a=>Code.wp _ _ _ a _) 64 ?_; intro a_0 ha hN_0 hD_0; have e0_0 : a_0.eval (.tmp 0) = .string s:=ma ha; have e2_0:=lu ha 2 w.heap.size; have e4_0 : a_0.eval (.tmp 4) = .int .i64 ((q : Nat) : Int):=ma ha
     repeat first | apply lw | apply lx
     refine lm bb_0 [kIs (.string s),kIs (.int .i64 ((q : Nat) : Int)),kIs (.string (s.extract 0 q)),kZB 19 (zx) false,kZB 19 (zx) false,kZ 19 (zx),lr,PK.fresh 2,kPutZ 7 19 (zx),lr] [[],[],[0,1],[2],[3],[4],[4],[],[7,5],[6]] [23,24,25,26,22,27,28,5,999,6] [] [] ?_ ?_
     ·
       refine p01 e0_0 ?_; refine p01 e4_0 ?_; refine p20 (hr:=fun _=>jg (by kernel_rfl) (by kernel_rfl) hks) ?_; refine aa rfl rfl (ac rfl rfl fun hC h1=>cf h1 (HA.out _)) ?_; refine aa rfl rfl (bg rfl rfl) ?_; refine ap ext_z ?_; refine ap ext_ok ?_; refine ar ?_; refine bf ?_; refine p10 ?_; exact ae rfl
     intro W_1 x_ a_1 hC hall ha hN_1 hD_1 bb_1; have e2_1:=ab ha e2_0; have R_1:=hC.holds R_0; obtain ⟨g5,hx,hge,l5_1⟩:=bh (me hall 8); have d5:=Nat.lt_of_lt_of_le R_0.lt hge; clear hge; have e5_1:=(ak (t:=5) (i:=7) ha).trans hx; clear hx; have e6_1:=ln ha hall 6 9; have q5_1:=l5_1.atR; clear l5_1; refine hrest _ _ ?_
     repeat first | apply lw | apply lx
     refine lm bb_1 [lr,lq] [[],[0]] [29,30] [] [] ?_ ?_
     ·
       refine p01 e6_1 ?_; refine p10 ?_; exact ae rfl
     intro W_2 x_ a_2 hC hall ha hN_2 hD_2 bb_2; have e2_2:=ab ha e2_1; have R_2:=hC.holds R_1; have e30_2:=ln ha hall 30 1; refine wp_cond_true e30_2 ?_
     repeat first | apply lw | apply lx
     refine mg bb_2 R_2 [kP 1 (0) (1),kRes (w.heap.size) 1 (0) (1),lr] [[],[0],[]] [31,999,3] [] [] ?_ ?_
     ·
       refine aa rfl rfl (aq [] rfl rfl fun hC=>tp db) ?_; refine aa rfl rfl (bd R_2 rfl e2_2 rfl rfl) ?_; refine p00 ?_; exact ae rfl
     intro W x_ a1 hC hall ha hN1 hD1 bb1; obtain ⟨cs,hg,hP⟩:=me hall 1; have e1:=ab (t:=2) ha e2_2; have e2:=ln ha hall 3 2
     repeat first | apply lw | apply lx
     refine wp_ret ?_
     repeat (refine then_r ?_)
     exact bi (t:=2) (u:=3) rfl hD1 e1 e2 hg hP fun v hv=>⟨v,rfl,hv,bb1⟩
theorem refParse_cut_noB {w : World} {s : ByteArray} {k : Nat} (hs : s.size ≤ 100) (hk : k < s.size) (h1 : ∀ j,j < k → (bt s).getD j 0 ≠ 47) (h2 : (bt s).getD k 0 = 47) {zx zy : Int} (HA : Hid (∀ (W : World) {S0 : Nat} {x_ : Nat → Value},Calls Tryz.prog 110 #[.string (s.extract 0 k)] W (Told (kZB 19 (zx) true) S0 x_ W))) (HB : Hid (∀ (W : World) {S0 : Nat} {x_ : Nat → Value},Calls Tryz.prog 110 #[.string (s.extract (k + 1) s.size)] W (Told (kZB 19 (zy) false) S0 x_ W))) :
   Calls Tryz.prog 79 #[.string s] w fun e w'=>∃ v,e = .returned (.tuple #[v,.bool false]) ∧ Pr w' v 1 (0) (1) ∧ Below w.heap.size w w':=by
 have HP:=Lib.hid (show (∀ j,j < k → (bt s).getD j 0 ≠ 47) ∧ (bt s).getD k 0 = 47 from ⟨h1,h2⟩)
 have hks : k ≤ s.size:=by omega
 have hk1 : k ≤ 100:=by omega
 have hkl : k + 1 ≤ s.size:=by omega
 have hwh : ((k : Int) == (s.size : Int)) = false:=by rw [beq_eq_false_iff_ne]; omega
 have HC:=Lib.hid (show k ≤ s.size ∧ k ≤ 100 ∧ ((k : Int) == (s.size : Int)) = false ∧ k + 1 ≤ s.size from ⟨hks,hk1,hwh,hkl⟩)
 clear h1 h2 hk1 hwh hkl
 go_enter Tryz.func79,Tryz.ntmps79
 go_wp2_with fail
 go_loop [4] (fun i=>∃ q : Nat,q ≤ k ∧ i = .int .i64 q) (fun i=>k - (intOf i).toNat)
 case atStart=>exact ⟨0,Nat.zero_le _,rfl⟩
 case round =>
   obtain ⟨q,hq,rfl⟩:=hrel
   by_cases hlt : q < k
   · have hqs : q < s.size:=by omega
     have hx:=gy s q hqs
     obtain ⟨x,hxe⟩ : ∃ x,x = (bt s).getD q 0:=⟨_,rfl⟩
     rw [← hxe] at hx; have h47 : ((x : Int) == 47) = false:=by rw [beq_eq_false_iff_ne]; have:=HP.out.1 q hlt; omega
     clear hxe
     go_wp2
     go_round
     case rel=>exact ⟨q + 1,by omega,by go_num⟩
     case measure=>first | (simp [intOf]; done) | (simp [intOf]; omega)
   · obtain rfl : q = k:=by omega
     have hk':=hq; have he : q < s.size:=hk; have hx:=gy s q he; rw [HP.out.2] at hx
     go_upto_region 4 with fail
     rename_i hrest
     clear hk' hlt hq HP he hx; refine mb (G:=fun W=>Code.wp _ _ _ _ W) ?_; intro W_0 bb_0 K0; have R_0:=ge K0; clear K0; obtain ⟨hks,hk1,hwh,hkl⟩:=HC.out; refine ly (G:=fun a=>Code.wp _ _ _ a _) 64 ?_; intro a_0 ha hN_0 hD_0; have e0_0 : a_0.eval (.tmp 0) = .string s:=ma ha; have e2_0:=lu ha 2 w.heap.size; have e4_0 : a_0.eval (.tmp 4) = .int .i64 ((q : Nat) : Int):=ma ha
     repeat first | apply lw | apply lx
     refine lm bb_0 [kIs (.string s),kIs (.int .i64 ((q : Nat) : Int)),kIs (.string (s.extract 0 q)),kZB 19 (zx) true,kZB 19 (zx) true,kZ 19 (zx),lq,PK.fresh 2,kPutZ 7 19 (zx),lq] [[],[],[0,1],[2],[3],[4],[4],[],[7,5],[6]] [23,24,25,26,22,27,28,5,999,6] [] [] ?_ ?_
     ·
       refine p01 e0_0 ?_; refine p01 e4_0 ?_; refine p20 (hr:=fun _=>jg (by kernel_rfl) (by kernel_rfl) hks) ?_; refine aa rfl rfl (ac rfl rfl fun hC h1=>cf h1 (HA.out _)) ?_; refine aa rfl rfl (bg rfl rfl) ?_; refine ap ext_z ?_; refine ap ext_ok ?_; refine ar ?_; refine bf ?_; refine p10 ?_; exact ae rfl
     intro W_1 x_ a_1 hC hall ha hN_1 hD_1 bb_1; have e0_1:=ab ha e0_0; have e2_1:=ab ha e2_0; have e4_1:=ab ha e4_0; have R_1:=hC.holds R_0; obtain ⟨g5,hx,hge,l5_1⟩:=bh (me hall 8); have d5:=Nat.lt_of_lt_of_le R_0.lt hge; clear hge; have e5_1:=(ak (t:=5) (i:=7) ha).trans hx; clear hx; have e6_1:=ln ha hall 6 9; have q5_1:=l5_1.atR; clear l5_1; refine hrest _ _ ?_
     repeat first | apply lw | apply lx
     refine lm bb_1 [lq,lr] [[],[0]] [29,30] [] [] ?_ ?_
     ·
       refine p01 e6_1 ?_; refine p10 ?_; exact ae rfl
     intro W_2 x_ a_2 hC hall ha hN_2 hD_2 bb_2; have e0_2:=ab ha e0_1; have e2_2:=ab ha e2_1; have e4_2:=ab ha e4_1; have e5_2:=ab ha e5_1; have R_2:=hC.holds R_1; have q5_2:=hC.at0 q5_1; have e30_2:=ln ha hall 30 1; refine wp_cond_false e30_2 ?_
     repeat first | apply lw | apply lx
     refine lm bb_2 [kIs (.int .i64 ((q : Nat) : Int)),kIs (.string s),kIs (.int .i64 (s.size : Int)),lr] [[],[],[1],[0,2]] [32,33,34,35] [] [] ?_ ?_
     ·
       refine p01 e4_2 ?_; refine p01 e0_2 ?_; refine p10 ?_; refine aa rfl rfl (ck [.int .i64 ((q : Nat) : Int),.int .i64 (s.size : Int)] [] (.bool ((q : Int) == (s.size : Int))) (.bool false) (congrArg Value.bool hwh) rfl old0) ?_; exact ae rfl
     intro W_3 x_ a_3 hC hall ha hN_3 hD_3 bb_3; have e0_3:=ab ha e0_2; have e2_3:=ab ha e2_2; have e4_3:=ab ha e4_2; have e5_3:=ab ha e5_2; have R_3:=hC.holds R_2; have q5_3:=hC.at0 q5_2; have e35_3:=ln ha hall 35 3; refine wp_cond_false e35_3 ?_
     repeat first | apply lw | apply lx
     refine lm bb_3 [kIs (.string s),kIs (.int .i64 ((q : Nat) : Int)),kIs (.int .i64 ((q : Int) + 1)),kIs (.string (s.extract (q + 1) s.size)),kZB 19 (zy) false,kZB 19 (zy) false,kZ 19 (zy),lr,PK.fresh 2,kPutZ 8 19 (zy),lr] [[],[],[1],[0,2],[3],[4],[5],[5],[],[8,6],[7]] [39,40,41,42,43,38,44,45,7,999,8] [] [] ?_ ?_
     ·
       refine p01 e0_3 ?_; refine p01 e4_3 ?_; refine p10 (hr:=fun _=>ex_add1 (by kernel_rfl) (by kernel_rfl) hk1) ?_; refine p20 (hr:=fun _=>ex_slHi (by kernel_rfl) (by kernel_rfl) hkl) ?_; refine aa rfl rfl (ac rfl rfl fun hC h1=>cf h1 (HB.out _)) ?_; refine aa rfl rfl (bg rfl rfl) ?_; refine ap ext_z ?_; refine ap ext_ok ?_; refine ar ?_; refine bf ?_; refine p10 ?_; exact ae rfl
     intro W_4 x_ a_4 hC hall ha hN_4 hD_4 bb_4; have e2_4:=ab ha e2_3; have e5_4:=ab ha e5_3; have R_4:=hC.holds R_3; have q5_4:=hC.at0 q5_3; obtain ⟨g7,hx,hge,l7_4⟩:=bh (me hall 9); have d7:=Nat.lt_of_lt_of_le R_3.lt hge; clear hge; have e7_4:=(ak (t:=7) (i:=8) ha).trans hx; clear hx; have e8_4:=ln ha hall 8 10; have q7_4:=l7_4.atR; clear l7_4
     repeat first | apply lw | apply lx
     refine lm bb_4 [kZ 19 (zx),kZ 19 (zy),kP 19 (zx) (zy),PK.fresh 4,kPutP 3 19 (zx) (zy)] [[],[],[0,1],[],[3,2]] [46,47,48,9,999] [] [] ?_ ?_
     ·
       refine aj q5_4 e5_4 ?_; refine aj q7_4 e7_4 ?_; refine aa rfl rfl (cw (k:=19) rfl rfl rfl) ?_; refine aa rfl rfl (bp rfl) ?_; refine aa rfl rfl (du rfl rfl rfl) ?_; exact ae rfl
     intro W_5 x_ a_5 hC hall ha hN_5 hD_5 bb_5; have e2_5:=ab ha e2_4; have e8_5:=ab ha e8_4; have R_5:=hC.holds R_4; obtain ⟨g9,hx,hge,p9_5,p9'_5⟩:=di (me hall 4); have e9_5:=(ak (t:=9) (i:=3) ha).trans hx; have d9:=Nat.lt_of_lt_of_le R_4.lt hge; clear hx hge
     repeat first | apply lw | apply lx
     refine lm bb_5 [lr,lq,lq,ls,ls,ls,lq,lq,ls,ls,ls,ls,lq] [[],[0],[1],[],[3],[4],[2,5],[6],[],[8],[],[9,10],[7,11]] [49,50,51,52,53,54,55,56,57,58,59,60,61] [(2,true),(7,true)] [3,4,5,8,9,10,11] ?_ ?_
     ·
       refine p01 e8_5 ?_; refine p10 ?_; refine p10 ?_; refine am rfl ?_; refine am rfl ?_; refine am rfl ?_; refine p20 ?_; refine p10 ?_; refine am rfl ?_; refine am rfl ?_; refine am rfl ?_; refine am rfl ?_; refine p20 ?_; exact ae rfl
     intro W_6 x_ a_6 hC hall ha hN_6 hD_6 bb_6; have e2_6:=ab ha e2_5; have R_6:=hC.holds R_5; have e61_6:=ln ha hall 61 12; refine wp_cond_true e61_6 ?_
     repeat first | apply lw | apply lx
     refine mg bb_6 R_6 [kP 1 (0) (1),kRes (w.heap.size) 1 (0) (1),lr] [[],[0],[]] [62,999,3] [] [] ?_ ?_
     ·
       refine aa rfl rfl (aq [] rfl rfl fun hC=>tp db) ?_; refine aa rfl rfl (bd R_6 rfl e2_6 rfl rfl) ?_; refine p00 ?_; exact ae rfl
     intro W x_ a1 hC hall ha hN1 hD1 bb1; obtain ⟨cs,hg,hP⟩:=me hall 1; have e1:=ab (t:=2) ha e2_6; have e2:=ln ha hall 3 2
     repeat first | apply lw | apply lx
     refine wp_ret ?_
     repeat (refine then_r ?_)
     exact bi (t:=2) (u:=3) rfl hD1 e1 e2 hg hP fun v hv=>⟨v,rfl,hv,bb1⟩
theorem refParse_cut_noR {w : World} {s : ByteArray} {k : Nat} (hs : s.size ≤ 100) (hk : k < s.size) (h1 : ∀ j,j < k → (bt s).getD j 0 ≠ 47) (h2 : (bt s).getD k 0 = 47) {zx zy : Int} (HA : Hid (∀ (W : World) {S0 : Nat} {x_ : Nat → Value},Calls Tryz.prog 110 #[.string (s.extract 0 k)] W (Told (kZB 19 (zx) true) S0 x_ W))) (HB : Hid (∀ (W : World) {S0 : Nat} {x_ : Nat → Value},Calls Tryz.prog 110 #[.string (s.extract (k + 1) s.size)] W (Told (kZB 19 (zy) true) S0 x_ W))) (hno : ¬ (0 < zy ∧ ((zgcd [(zx),(zy)] : Nat) : Int) = 1)) :
   Calls Tryz.prog 79 #[.string s] w fun e w'=>∃ v,e = .returned (.tuple #[v,.bool false]) ∧ Pr w' v 1 (0) (1) ∧ Below w.heap.size w w':=by
 have HP:=Lib.hid (show (∀ j,j < k → (bt s).getD j 0 ≠ 47) ∧ (bt s).getD k 0 = 47 from ⟨h1,h2⟩)
 have hks : k ≤ s.size:=by omega
 have hk1 : k ≤ 100:=by omega
 have hkl : k + 1 ≤ s.size:=by omega
 have hwh : ((k : Int) == (s.size : Int)) = false:=by rw [beq_eq_false_iff_ne]; omega
 have HC:=Lib.hid (show k ≤ s.size ∧ k ≤ 100 ∧ ((k : Int) == (s.size : Int)) = false ∧ k + 1 ≤ s.size from ⟨hks,hk1,hwh,hkl⟩)
 clear h1 h2 hk1 hwh hkl
 go_enter Tryz.func79,Tryz.ntmps79
 go_wp2_with fail
 go_loop [4] (fun i=>∃ q : Nat,q ≤ k ∧ i = .int .i64 q) (fun i=>k - (intOf i).toNat)
 case atStart=>exact ⟨0,Nat.zero_le _,rfl⟩
 case round =>
   obtain ⟨q,hq,rfl⟩:=hrel
   by_cases hlt : q < k
   · have hqs : q < s.size:=by omega
     have hx:=gy s q hqs
     obtain ⟨x,hxe⟩ : ∃ x,x = (bt s).getD q 0:=⟨_,rfl⟩
     rw [← hxe] at hx; have h47 : ((x : Int) == 47) = false:=by rw [beq_eq_false_iff_ne]; have:=HP.out.1 q hlt; omega
     clear hxe
     go_wp2
     go_round
     case rel=>exact ⟨q + 1,by omega,by go_num⟩
     case measure=>first | (simp [intOf]; done) | (simp [intOf]; omega)
   · obtain rfl : q = k:=by omega
     have hk':=hq; have he : q < s.size:=hk; have hx:=gy s q he; rw [HP.out.2] at hx
     go_upto_region 4 with fail
     rename_i hrest
     clear hk' hlt hq HP he hx; refine mb (G:=fun W=>Code.wp _ _ _ _ W) ?_; intro W_0 bb_0 K0; have R_0:=ge K0; clear K0; obtain ⟨hks,hk1,hwh,hkl⟩:=HC.out; refine ly (G:=fun a=>Code.wp _ _ _ a _) 64 ?_; intro a_0 ha hN_0 hD_0; have e0_0 : a_0.eval (.tmp 0) = .string s:=ma ha; have e2_0:=lu ha 2 w.heap.size; have e4_0 : a_0.eval (.tmp 4) = .int .i64 ((q : Nat) : Int):=ma ha
     repeat first | apply lw | apply lx
     refine lm bb_0 [kIs (.string s),kIs (.int .i64 ((q : Nat) : Int)),kIs (.string (s.extract 0 q)),kZB 19 (zx) true,kZB 19 (zx) true,kZ 19 (zx),lq,PK.fresh 2,kPutZ 7 19 (zx),lq] [[],[],[0,1],[2],[3],[4],[4],[],[7,5],[6]] [23,24,25,26,22,27,28,5,999,6] [] [] ?_ ?_
     ·
       refine p01 e0_0 ?_; refine p01 e4_0 ?_; refine p20 (hr:=fun _=>jg (by kernel_rfl) (by kernel_rfl) hks) ?_; refine aa rfl rfl (ac rfl rfl fun hC h1=>cf h1 (HA.out _)) ?_; refine aa rfl rfl (bg rfl rfl) ?_; refine ap ext_z ?_; refine ap ext_ok ?_; refine ar ?_; refine bf ?_; refine p10 ?_; exact ae rfl
     intro W_1 x_ a_1 hC hall ha hN_1 hD_1 bb_1; have e0_1:=ab ha e0_0; have e2_1:=ab ha e2_0; have e4_1:=ab ha e4_0; have R_1:=hC.holds R_0; obtain ⟨g5,hx,hge,l5_1⟩:=bh (me hall 8); have d5:=Nat.lt_of_lt_of_le R_0.lt hge; clear hge; have e5_1:=(ak (t:=5) (i:=7) ha).trans hx; clear hx; have e6_1:=ln ha hall 6 9; have q5_1:=l5_1.atR; clear l5_1; refine hrest _ _ ?_
     repeat first | apply lw | apply lx
     refine lm bb_1 [lq,lr] [[],[0]] [29,30] [] [] ?_ ?_
     ·
       refine p01 e6_1 ?_; refine p10 ?_; exact ae rfl
     intro W_2 x_ a_2 hC hall ha hN_2 hD_2 bb_2; have e0_2:=ab ha e0_1; have e2_2:=ab ha e2_1; have e4_2:=ab ha e4_1; have e5_2:=ab ha e5_1; have R_2:=hC.holds R_1; have q5_2:=hC.at0 q5_1; have e30_2:=ln ha hall 30 1; refine wp_cond_false e30_2 ?_
     repeat first | apply lw | apply lx
     refine lm bb_2 [kIs (.int .i64 ((q : Nat) : Int)),kIs (.string s),kIs (.int .i64 (s.size : Int)),lr] [[],[],[1],[0,2]] [32,33,34,35] [] [] ?_ ?_
     ·
       refine p01 e4_2 ?_; refine p01 e0_2 ?_; refine p10 ?_; refine aa rfl rfl (ck [.int .i64 ((q : Nat) : Int),.int .i64 (s.size : Int)] [] (.bool ((q : Int) == (s.size : Int))) (.bool false) (congrArg Value.bool hwh) rfl old0) ?_; exact ae rfl
     intro W_3 x_ a_3 hC hall ha hN_3 hD_3 bb_3; have e0_3:=ab ha e0_2; have e2_3:=ab ha e2_2; have e4_3:=ab ha e4_2; have e5_3:=ab ha e5_2; have R_3:=hC.holds R_2; have q5_3:=hC.at0 q5_2; have e35_3:=ln ha hall 35 3; refine wp_cond_false e35_3 ?_
     repeat first | apply lw | apply lx
     refine lm bb_3 [kIs (.string s),kIs (.int .i64 ((q : Nat) : Int)),kIs (.int .i64 ((q : Int) + 1)),kIs (.string (s.extract (q + 1) s.size)),kZB 19 (zy) true,kZB 19 (zy) true,kZ 19 (zy),lq,PK.fresh 2,kPutZ 8 19 (zy),lq] [[],[],[1],[0,2],[3],[4],[5],[5],[],[8,6],[7]] [39,40,41,42,43,38,44,45,7,999,8] [] [] ?_ ?_
     ·
       refine p01 e0_3 ?_; refine p01 e4_3 ?_; refine p10 (hr:=fun _=>ex_add1 (by kernel_rfl) (by kernel_rfl) hk1) ?_; refine p20 (hr:=fun _=>ex_slHi (by kernel_rfl) (by kernel_rfl) hkl) ?_; refine aa rfl rfl (ac rfl rfl fun hC h1=>cf h1 (HB.out _)) ?_; refine aa rfl rfl (bg rfl rfl) ?_; refine ap ext_z ?_; refine ap ext_ok ?_; refine ar ?_; refine bf ?_; refine p10 ?_; exact ae rfl
     intro W_4 x_ a_4 hC hall ha hN_4 hD_4 bb_4; have e2_4:=ab ha e2_3; have e5_4:=ab ha e5_3; have R_4:=hC.holds R_3; have q5_4:=hC.at0 q5_3; obtain ⟨g7,hx,hge,l7_4⟩:=bh (me hall 9); have d7:=Nat.lt_of_lt_of_le R_3.lt hge; clear hge; have e7_4:=(ak (t:=7) (i:=8) ha).trans hx; clear hx; have e8_4:=ln ha hall 8 10; have q7_4:=l7_4.atR; clear l7_4
     repeat first | apply lw | apply lx
     refine lm bb_4 [kZ 19 (zx),kZ 19 (zy),kP 19 (zx) (zy),PK.fresh 4,kPutP 3 19 (zx) (zy)] [[],[],[0,1],[],[3,2]] [46,47,48,9,999] [] [] ?_ ?_
     ·
       refine aj q5_4 e5_4 ?_; refine aj q7_4 e7_4 ?_; refine aa rfl rfl (cw (k:=19) rfl rfl rfl) ?_; refine aa rfl rfl (bp rfl) ?_; refine aa rfl rfl (du rfl rfl rfl) ?_; exact ae rfl
     intro W_5 x_ a_5 hC hall ha hN_5 hD_5 bb_5; have e2_5:=ab ha e2_4; have e8_5:=ab ha e8_4; have R_5:=hC.holds R_4; obtain ⟨g9,hx,hge,p9_5,p9'_5⟩:=di (me hall 4); have e9_5:=(ak (t:=9) (i:=3) ha).trans hx; have d9:=Nat.lt_of_lt_of_le R_4.lt hge; clear hx hge
     repeat first | apply lw | apply lx
     refine lm bb_5 [lq,lr,lr,kP 19 (zx) (zy),lr,lq,lq,lq,ls,ls,ls,ls,lq] [[],[0],[1],[],[3],[4],[2,5],[6],[],[8],[],[9,10],[7,11]] [49,50,51,52,53,54,55,56,57,58,59,60,61] [(2,false),(7,true)] [8,9,10,11] ?_ ?_
     ·
       refine p01 e8_5 ?_; refine p10 ?_; refine p10 ?_; refine aa rfl rfl (aw p9_5 p9'_5 e9_5 rfl) ?_; refine aa rfl rfl (ac rfl rfl fun hC h1=>ti (refRight_no hno (pm h1))) ?_; refine p10 ?_; refine p20 ?_; refine p10 ?_; refine am rfl ?_; refine am rfl ?_; refine am rfl ?_; refine am rfl ?_; refine p20 ?_; exact ae rfl
     intro W_6 x_ a_6 hC hall ha hN_6 hD_6 bb_6; have e2_6:=ab ha e2_5; have R_6:=hC.holds R_5; have e61_6:=ln ha hall 61 12; refine wp_cond_true e61_6 ?_
     repeat first | apply lw | apply lx
     refine mg bb_6 R_6 [kP 1 (0) (1),kRes (w.heap.size) 1 (0) (1),lr] [[],[0],[]] [62,999,3] [] [] ?_ ?_
     ·
       refine aa rfl rfl (aq [] rfl rfl fun hC=>tp db) ?_; refine aa rfl rfl (bd R_6 rfl e2_6 rfl rfl) ?_; refine p00 ?_; exact ae rfl
     intro W x_ a1 hC hall ha hN1 hD1 bb1; obtain ⟨cs,hg,hP⟩:=me hall 1; have e1:=ab (t:=2) ha e2_6; have e2:=ln ha hall 3 2
     repeat first | apply lw | apply lx
     refine wp_ret ?_
     repeat (refine then_r ?_)
     exact bi (t:=2) (u:=3) rfl hD1 e1 e2 hg hP fun v hv=>⟨v,rfl,hv,bb1⟩
theorem refParse_cut_noT {w : World} {s : ByteArray} {k : Nat} (hs : s.size ≤ 100) (hk : k < s.size) (h1 : ∀ j,j < k → (bt s).getD j 0 ≠ 47) (h2 : (bt s).getD k 0 = 47) {a : Rat} (HA : Hid (∀ (W : World) {S0 : Nat} {x_ : Nat → Value},Calls Tryz.prog 110 #[.string (s.extract 0 k)] W (Told (kZB 19 (a.num) true) S0 x_ W))) (HB : Hid (∀ (W : World) {S0 : Nat} {x_ : Nat → Value},Calls Tryz.prog 110 #[.string (s.extract (k + 1) s.size)] W (Told (kZB 19 ((a.den : Int)) true) S0 x_ W))) (htx : ((textQ a).toList == (s).toList) = false) :
   Calls Tryz.prog 79 #[.string s] w fun e w'=>∃ v,e = .returned (.tuple #[v,.bool false]) ∧ Pr w' v 1 (0) (1) ∧ Below w.heap.size w w':=by
 have HP:=Lib.hid (show (∀ j,j < k → (bt s).getD j 0 ≠ 47) ∧ (bt s).getD k 0 = 47 from ⟨h1,h2⟩)
 have hks : k ≤ s.size:=by omega
 have hk1 : k ≤ 100:=by omega
 have hkl : k + 1 ≤ s.size:=by omega
 have hwh : ((k : Int) == (s.size : Int)) = false:=by rw [beq_eq_false_iff_ne]; omega
 have HC:=Lib.hid (show k ≤ s.size ∧ k ≤ 100 ∧ ((k : Int) == (s.size : Int)) = false ∧ k + 1 ≤ s.size ∧ ((textQ a).toList == (s).toList) = false from ⟨hks,hk1,hwh,hkl,htx⟩)
 clear h1 h2 hk1 hwh hkl htx
 go_enter Tryz.func79,Tryz.ntmps79
 go_wp2_with fail
 go_loop [4] (fun i=>∃ q : Nat,q ≤ k ∧ i = .int .i64 q) (fun i=>k - (intOf i).toNat)
 case atStart=>exact ⟨0,Nat.zero_le _,rfl⟩
 case round =>
   obtain ⟨q,hq,rfl⟩:=hrel
   by_cases hlt : q < k
   · have hqs : q < s.size:=by omega
     have hx:=gy s q hqs
     obtain ⟨x,hxe⟩ : ∃ x,x = (bt s).getD q 0:=⟨_,rfl⟩
     rw [← hxe] at hx; have h47 : ((x : Int) == 47) = false:=by rw [beq_eq_false_iff_ne]; have:=HP.out.1 q hlt; omega
     clear hxe
     go_wp2
     go_round
     case rel=>exact ⟨q + 1,by omega,by go_num⟩
     case measure=>first | (simp [intOf]; done) | (simp [intOf]; omega)
   · obtain rfl : q = k:=by omega
     have hk':=hq; have he : q < s.size:=hk; have hx:=gy s q he; rw [HP.out.2] at hx
     go_upto_region 4 with fail
     rename_i hrest
     clear hk' hlt hq HP he hx; refine mb (G:=fun W=>Code.wp _ _ _ _ W) ?_; intro W_0 bb_0 K0; have R_0:=ge K0; clear K0; obtain ⟨hks,hk1,hwh,hkl,htx⟩:=HC.out; refine ly (G:=fun a=>Code.wp _ _ _ a _) 64 ?_; intro a_0 ha hN_0 hD_0; have e0_0 : a_0.eval (.tmp 0) = .string s:=ma ha; have e2_0:=lu ha 2 w.heap.size; have e4_0 : a_0.eval (.tmp 4) = .int .i64 ((q : Nat) : Int):=ma ha
     repeat first | apply lw | apply lx
     refine lm bb_0 [kIs (.string s),kIs (.int .i64 ((q : Nat) : Int)),kIs (.string (s.extract 0 q)),kZB 19 (a.num) true,kZB 19 (a.num) true,kZ 19 (a.num),lq,PK.fresh 2,kPutZ 7 19 (a.num),lq] [[],[],[0,1],[2],[3],[4],[4],[],[7,5],[6]] [23,24,25,26,22,27,28,5,999,6] [] [] ?_ ?_
     ·
       refine p01 e0_0 ?_; refine p01 e4_0 ?_; refine p20 (hr:=fun _=>jg (by kernel_rfl) (by kernel_rfl) hks) ?_; refine aa rfl rfl (ac rfl rfl fun hC h1=>cf h1 (HA.out _)) ?_; refine aa rfl rfl (bg rfl rfl) ?_; refine ap ext_z ?_; refine ap ext_ok ?_; refine ar ?_; refine bf ?_; refine p10 ?_; exact ae rfl
     intro W_1 x_ a_1 hC hall ha hN_1 hD_1 bb_1; have e0_1:=ab ha e0_0; have e2_1:=ab ha e2_0; have e4_1:=ab ha e4_0; have R_1:=hC.holds R_0; obtain ⟨g5,hx,hge,l5_1⟩:=bh (me hall 8); have d5:=Nat.lt_of_lt_of_le R_0.lt hge; clear hge; have e5_1:=(ak (t:=5) (i:=7) ha).trans hx; clear hx; have e6_1:=ln ha hall 6 9; have q5_1:=l5_1.atR; clear l5_1; refine hrest _ _ ?_
     repeat first | apply lw | apply lx
     refine lm bb_1 [lq,lr] [[],[0]] [29,30] [] [] ?_ ?_
     ·
       refine p01 e6_1 ?_; refine p10 ?_; exact ae rfl
     intro W_2 x_ a_2 hC hall ha hN_2 hD_2 bb_2; have e0_2:=ab ha e0_1; have e2_2:=ab ha e2_1; have e4_2:=ab ha e4_1; have e5_2:=ab ha e5_1; have R_2:=hC.holds R_1; have q5_2:=hC.at0 q5_1; have e30_2:=ln ha hall 30 1; refine wp_cond_false e30_2 ?_
     repeat first | apply lw | apply lx
     refine lm bb_2 [kIs (.int .i64 ((q : Nat) : Int)),kIs (.string s),kIs (.int .i64 (s.size : Int)),lr] [[],[],[1],[0,2]] [32,33,34,35] [] [] ?_ ?_
     ·
       refine p01 e4_2 ?_; refine p01 e0_2 ?_; refine p10 ?_; refine aa rfl rfl (ck [.int .i64 ((q : Nat) : Int),.int .i64 (s.size : Int)] [] (.bool ((q : Int) == (s.size : Int))) (.bool false) (congrArg Value.bool hwh) rfl old0) ?_; exact ae rfl
     intro W_3 x_ a_3 hC hall ha hN_3 hD_3 bb_3; have e0_3:=ab ha e0_2; have e2_3:=ab ha e2_2; have e4_3:=ab ha e4_2; have e5_3:=ab ha e5_2; have R_3:=hC.holds R_2; have q5_3:=hC.at0 q5_2; have e35_3:=ln ha hall 35 3; refine wp_cond_false e35_3 ?_
     repeat first | apply lw | apply lx
     refine lm bb_3 [kIs (.string s),kIs (.int .i64 ((q : Nat) : Int)),kIs (.int .i64 ((q : Int) + 1)),kIs (.string (s.extract (q + 1) s.size)),kZB 19 ((a.den : Int)) true,kZB 19 ((a.den : Int)) true,kZ 19 ((a.den : Int)),lq,PK.fresh 2,kPutZ 8 19 ((a.den : Int)),lq] [[],[],[1],[0,2],[3],[4],[5],[5],[],[8,6],[7]] [39,40,41,42,43,38,44,45,7,999,8] [] [] ?_ ?_
     ·
       refine p01 e0_3 ?_; refine p01 e4_3 ?_; refine p10 (hr:=fun _=>ex_add1 (by kernel_rfl) (by kernel_rfl) hk1) ?_; refine p20 (hr:=fun _=>ex_slHi (by kernel_rfl) (by kernel_rfl) hkl) ?_; refine aa rfl rfl (ac rfl rfl fun hC h1=>cf h1 (HB.out _)) ?_; refine aa rfl rfl (bg rfl rfl) ?_; refine ap ext_z ?_; refine ap ext_ok ?_; refine ar ?_; refine bf ?_; refine p10 ?_; exact ae rfl
     intro W_4 x_ a_4 hC hall ha hN_4 hD_4 bb_4; have e0_4:=ab ha e0_3; have e2_4:=ab ha e2_3; have e5_4:=ab ha e5_3; have R_4:=hC.holds R_3; have q5_4:=hC.at0 q5_3; obtain ⟨g7,hx,hge,l7_4⟩:=bh (me hall 9); have d7:=Nat.lt_of_lt_of_le R_3.lt hge; clear hge; have e7_4:=(ak (t:=7) (i:=8) ha).trans hx; clear hx; have e8_4:=ln ha hall 8 10; have q7_4:=l7_4.atR; clear l7_4
     repeat first | apply lw | apply lx
     refine lm bb_4 [kZ 19 (a.num),kZ 19 ((a.den : Int)),kP 19 (a.num) ((a.den : Int)),PK.fresh 4,kPutP 3 19 (a.num) ((a.den : Int))] [[],[],[0,1],[],[3,2]] [46,47,48,9,999] [] [] ?_ ?_
     ·
       refine aj q5_4 e5_4 ?_; refine aj q7_4 e7_4 ?_; refine aa rfl rfl (cw (k:=19) rfl rfl rfl) ?_; refine aa rfl rfl (bp rfl) ?_; refine aa rfl rfl (du rfl rfl rfl) ?_; exact ae rfl
     intro W_5 x_ a_5 hC hall ha hN_5 hD_5 bb_5; have e0_5:=ab ha e0_4; have e2_5:=ab ha e2_4; have e8_5:=ab ha e8_4; have R_5:=hC.holds R_4; obtain ⟨g9,hx,hge,p9_5,p9'_5⟩:=di (me hall 4); have e9_5:=(ak (t:=9) (i:=3) ha).trans hx; have d9:=Nat.lt_of_lt_of_le R_4.lt hge; clear hx hge
     repeat first | apply lw | apply lx
     refine lm bb_5 [lq,lr,lr,kP 19 (a.num) ((a.den : Int)),lq,lr,lr,lr,kP 19 (a.num) ((a.den : Int)),kIs (.string (textQ a)),kIs (.string s),lq,lq] [[],[0],[1],[],[3],[4],[2,5],[6],[],[8],[],[9,10],[7,11]] [49,50,51,52,53,54,55,56,57,58,59,60,61] [(2,false),(7,false)] [] ?_ ?_
     ·
       refine p01 e8_5 ?_; refine p10 ?_; refine p10 ?_; refine aa rfl rfl (aw p9_5 p9'_5 e9_5 rfl) ?_; refine aa rfl rfl (ac rfl rfl fun hC h1=>ti (refRight_yes (pm h1))) ?_; refine p10 ?_; refine p20 ?_; refine p10 ?_; refine aa rfl rfl (aw p9_5 p9'_5 e9_5 rfl) ?_; refine aa rfl rfl (ac rfl rfl fun hC h1=>ti (refText_yes (pm h1))) ?_; refine p01 e0_5 ?_; refine aa rfl rfl (ck [.string (textQ a),.string s] [] (.bool (!((textQ a).toList == (s).toList))) (.bool true) (congrArg Value.bool (by rw [htx]; rfl)) rfl old0) ?_; refine p20 ?_; exact ae rfl
     intro W_6 x_ a_6 hC hall ha hN_6 hD_6 bb_6; have e2_6:=ab ha e2_5; have R_6:=hC.holds R_5; have e61_6:=ln ha hall 61 12; refine wp_cond_true e61_6 ?_
     repeat first | apply lw | apply lx
     refine mg bb_6 R_6 [kP 1 (0) (1),kRes (w.heap.size) 1 (0) (1),lr] [[],[0],[]] [62,999,3] [] [] ?_ ?_
     ·
       refine aa rfl rfl (aq [] rfl rfl fun hC=>tp db) ?_; refine aa rfl rfl (bd R_6 rfl e2_6 rfl rfl) ?_; refine p00 ?_; exact ae rfl
     intro W x_ a1 hC hall ha hN1 hD1 bb1; obtain ⟨cs,hg,hP⟩:=me hall 1; have e1:=ab (t:=2) ha e2_6; have e2:=ln ha hall 3 2
     repeat first | apply lw | apply lx
     refine wp_ret ?_
     repeat (refine then_r ?_)
     exact bi (t:=2) (u:=3) rfl hD1 e1 e2 hg hP fun v hv=>⟨v,rfl,hv,bb1⟩
theorem refParse_cut_yes {w : World} {s : ByteArray} {k : Nat} (hs : s.size ≤ 100) (hk : k < s.size) (h1 : ∀ j,j < k → (bt s).getD j 0 ≠ 47) (h2 : (bt s).getD k 0 = 47) {a : Rat} (HA : Hid (∀ (W : World) {S0 : Nat} {x_ : Nat → Value},Calls Tryz.prog 110 #[.string (s.extract 0 k)] W (Told (kZB 19 (a.num) true) S0 x_ W))) (HB : Hid (∀ (W : World) {S0 : Nat} {x_ : Nat → Value},Calls Tryz.prog 110 #[.string (s.extract (k + 1) s.size)] W (Told (kZB 19 ((a.den : Int)) true) S0 x_ W))) (htx : ((textQ a).toList == (s).toList) = true) :
   Calls Tryz.prog 79 #[.string s] w fun e w'=>∃ v,e = .returned (.tuple #[v,.bool true]) ∧ Pr w' v 19 (a.num) ((a.den : Int)) ∧ Below w.heap.size w w':=by
 have HP:=Lib.hid (show (∀ j,j < k → (bt s).getD j 0 ≠ 47) ∧ (bt s).getD k 0 = 47 from ⟨h1,h2⟩)
 have hks : k ≤ s.size:=by omega
 have hk1 : k ≤ 100:=by omega
 have hkl : k + 1 ≤ s.size:=by omega
 have hwh : ((k : Int) == (s.size : Int)) = false:=by rw [beq_eq_false_iff_ne]; omega
 have HC:=Lib.hid (show k ≤ s.size ∧ k ≤ 100 ∧ ((k : Int) == (s.size : Int)) = false ∧ k + 1 ≤ s.size ∧ ((textQ a).toList == (s).toList) = true from ⟨hks,hk1,hwh,hkl,htx⟩)
 clear h1 h2 hk1 hwh hkl htx
 go_enter Tryz.func79,Tryz.ntmps79
 go_wp2_with fail
 go_loop [4] (fun i=>∃ q : Nat,q ≤ k ∧ i = .int .i64 q) (fun i=>k - (intOf i).toNat)
 case atStart=>exact ⟨0,Nat.zero_le _,rfl⟩
 case round =>
   obtain ⟨q,hq,rfl⟩:=hrel
   by_cases hlt : q < k
   · have hqs : q < s.size:=by omega
     have hx:=gy s q hqs
     obtain ⟨x,hxe⟩ : ∃ x,x = (bt s).getD q 0:=⟨_,rfl⟩
     rw [← hxe] at hx; have h47 : ((x : Int) == 47) = false:=by rw [beq_eq_false_iff_ne]; have:=HP.out.1 q hlt; omega
     clear hxe
     go_wp2
     go_round
     case rel=>exact ⟨q + 1,by omega,by go_num⟩
     case measure=>first | (simp [intOf]; done) | (simp [intOf]; omega)
   · obtain rfl : q = k:=by omega
     have hk':=hq; have he : q < s.size:=hk; have hx:=gy s q he; rw [HP.out.2] at hx
     go_upto_region 4 with fail
     rename_i hrest
     clear hk' hlt hq HP he hx; refine mb (G:=fun W=>Code.wp _ _ _ _ W) ?_; intro W_0 bb_0 K0; have R_0:=ge K0; clear K0; obtain ⟨hks,hk1,hwh,hkl,htx⟩:=HC.out; refine ly (G:=fun a=>Code.wp _ _ _ a _) 64 ?_; intro a_0 ha hN_0 hD_0; have e0_0 : a_0.eval (.tmp 0) = .string s:=ma ha; have e2_0:=lu ha 2 w.heap.size; have e4_0 : a_0.eval (.tmp 4) = .int .i64 ((q : Nat) : Int):=ma ha
     repeat first | apply lw | apply lx
     refine lm bb_0 [kIs (.string s),kIs (.int .i64 ((q : Nat) : Int)),kIs (.string (s.extract 0 q)),kZB 19 (a.num) true,kZB 19 (a.num) true,kZ 19 (a.num),lq,PK.fresh 2,kPutZ 7 19 (a.num),lq] [[],[],[0,1],[2],[3],[4],[4],[],[7,5],[6]] [23,24,25,26,22,27,28,5,999,6] [] [] ?_ ?_
     ·
       refine p01 e0_0 ?_; refine p01 e4_0 ?_; refine p20 (hr:=fun _=>jg (by kernel_rfl) (by kernel_rfl) hks) ?_; refine aa rfl rfl (ac rfl rfl fun hC h1=>cf h1 (HA.out _)) ?_; refine aa rfl rfl (bg rfl rfl) ?_; refine ap ext_z ?_; refine ap ext_ok ?_; refine ar ?_; refine bf ?_; refine p10 ?_; exact ae rfl
     intro W_1 x_ a_1 hC hall ha hN_1 hD_1 bb_1; have e0_1:=ab ha e0_0; have e2_1:=ab ha e2_0; have e4_1:=ab ha e4_0; have R_1:=hC.holds R_0; obtain ⟨g5,hx,hge,l5_1⟩:=bh (me hall 8); have d5:=Nat.lt_of_lt_of_le R_0.lt hge; clear hge; have e5_1:=(ak (t:=5) (i:=7) ha).trans hx; clear hx; have e6_1:=ln ha hall 6 9; have q5_1:=l5_1.atR; clear l5_1; refine hrest _ _ ?_
     repeat first | apply lw | apply lx
     refine lm bb_1 [lq,lr] [[],[0]] [29,30] [] [] ?_ ?_
     ·
       refine p01 e6_1 ?_; refine p10 ?_; exact ae rfl
     intro W_2 x_ a_2 hC hall ha hN_2 hD_2 bb_2; have e0_2:=ab ha e0_1; have e2_2:=ab ha e2_1; have e4_2:=ab ha e4_1; have e5_2:=ab ha e5_1; have R_2:=hC.holds R_1; have q5_2:=hC.at0 q5_1; have e30_2:=ln ha hall 30 1; refine wp_cond_false e30_2 ?_
     repeat first | apply lw | apply lx
     refine lm bb_2 [kIs (.int .i64 ((q : Nat) : Int)),kIs (.string s),kIs (.int .i64 (s.size : Int)),lr] [[],[],[1],[0,2]] [32,33,34,35] [] [] ?_ ?_
     ·
       refine p01 e4_2 ?_; refine p01 e0_2 ?_; refine p10 ?_; refine aa rfl rfl (ck [.int .i64 ((q : Nat) : Int),.int .i64 (s.size : Int)] [] (.bool ((q : Int) == (s.size : Int))) (.bool false) (congrArg Value.bool hwh) rfl old0) ?_; exact ae rfl
     intro W_3 x_ a_3 hC hall ha hN_3 hD_3 bb_3; have e0_3:=ab ha e0_2; have e2_3:=ab ha e2_2; have e4_3:=ab ha e4_2; have e5_3:=ab ha e5_2; have R_3:=hC.holds R_2; have q5_3:=hC.at0 q5_2; have e35_3:=ln ha hall 35 3; refine wp_cond_false e35_3 ?_
     repeat first | apply lw | apply lx
     refine lm bb_3 [kIs (.string s),kIs (.int .i64 ((q : Nat) : Int)),kIs (.int .i64 ((q : Int) + 1)),kIs (.string (s.extract (q + 1) s.size)),kZB 19 ((a.den : Int)) true,kZB 19 ((a.den : Int)) true,kZ 19 ((a.den : Int)),lq,PK.fresh 2,kPutZ 8 19 ((a.den : Int)),lq] [[],[],[1],[0,2],[3],[4],[5],[5],[],[8,6],[7]] [39,40,41,42,43,38,44,45,7,999,8] [] [] ?_ ?_
     ·
       refine p01 e0_3 ?_; refine p01 e4_3 ?_; refine p10 (hr:=fun _=>ex_add1 (by kernel_rfl) (by kernel_rfl) hk1) ?_; refine p20 (hr:=fun _=>ex_slHi (by kernel_rfl) (by kernel_rfl) hkl) ?_; refine aa rfl rfl (ac rfl rfl fun hC h1=>cf h1 (HB.out _)) ?_; refine aa rfl rfl (bg rfl rfl) ?_; refine ap ext_z ?_; refine ap ext_ok ?_; refine ar ?_; refine bf ?_; refine p10 ?_; exact ae rfl
     intro W_4 x_ a_4 hC hall ha hN_4 hD_4 bb_4; have e0_4:=ab ha e0_3; have e2_4:=ab ha e2_3; have e5_4:=ab ha e5_3; have R_4:=hC.holds R_3; have q5_4:=hC.at0 q5_3; obtain ⟨g7,hx,hge,l7_4⟩:=bh (me hall 9); have d7:=Nat.lt_of_lt_of_le R_3.lt hge; clear hge; have e7_4:=(ak (t:=7) (i:=8) ha).trans hx; clear hx; have e8_4:=ln ha hall 8 10; have q7_4:=l7_4.atR; clear l7_4
     repeat first | apply lw | apply lx
     refine lm bb_4 [kZ 19 (a.num),kZ 19 ((a.den : Int)),kP 19 (a.num) ((a.den : Int)),PK.fresh 4,kPutP 3 19 (a.num) ((a.den : Int))] [[],[],[0,1],[],[3,2]] [46,47,48,9,999] [] [] ?_ ?_
     ·
       refine aj q5_4 e5_4 ?_; refine aj q7_4 e7_4 ?_; refine aa rfl rfl (cw (k:=19) rfl rfl rfl) ?_; refine aa rfl rfl (bp rfl) ?_; refine aa rfl rfl (du rfl rfl rfl) ?_; exact ae rfl
     intro W_5 x_ a_5 hC hall ha hN_5 hD_5 bb_5; have e0_5:=ab ha e0_4; have e2_5:=ab ha e2_4; have e8_5:=ab ha e8_4; have R_5:=hC.holds R_4; obtain ⟨g9,hx,hge,p9_5,p9'_5⟩:=di (me hall 4); have e9_5:=(ak (t:=9) (i:=3) ha).trans hx; have d9:=Nat.lt_of_lt_of_le R_4.lt hge; clear hx hge
     repeat first | apply lw | apply lx
     refine lm bb_5 [lq,lr,lr,kP 19 (a.num) ((a.den : Int)),lq,lr,lr,lr,kP 19 (a.num) ((a.den : Int)),kIs (.string (textQ a)),kIs (.string s),lr,lr] [[],[0],[1],[],[3],[4],[2,5],[6],[],[8],[],[9,10],[7,11]] [49,50,51,52,53,54,55,56,57,58,59,60,61] [(2,false),(7,false)] [] ?_ ?_
     ·
       refine p01 e8_5 ?_; refine p10 ?_; refine p10 ?_; refine aa rfl rfl (aw p9_5 p9'_5 e9_5 rfl) ?_; refine aa rfl rfl (ac rfl rfl fun hC h1=>ti (refRight_yes (pm h1))) ?_; refine p10 ?_; refine p20 ?_; refine p10 ?_; refine aa rfl rfl (aw p9_5 p9'_5 e9_5 rfl) ?_; refine aa rfl rfl (ac rfl rfl fun hC h1=>ti (refText_yes (pm h1))) ?_; refine p01 e0_5 ?_; refine aa rfl rfl (ck [.string (textQ a),.string s] [] (.bool (!((textQ a).toList == (s).toList))) (.bool false) (congrArg Value.bool (by rw [htx]; rfl)) rfl old0) ?_; refine p20 ?_; exact ae rfl
     intro W_6 x_ a_6 hC hall ha hN_6 hD_6 bb_6; have e2_6:=ab ha e2_5; have e9_6:=ab ha e9_5; have R_6:=hC.holds R_5; have p9_6:=hC.at0 p9_5; have p9'_6:=hC.at0 p9'_5; have e61_6:=ln ha hall 61 12; refine wp_cond_false e61_6 ?_
     repeat first | apply lw | apply lx
     refine mg bb_6 R_6 [kP 19 (a.num) ((a.den : Int)),kRes (w.heap.size) 19 (a.num) ((a.den : Int)),lq] [[],[0],[]] [63,999,3] [] [] ?_ ?_
     ·
       refine aa rfl rfl (aw (hG:=(by simp only [List.mem_singleton]; omega)) p9_6 p9'_6 e9_6 rfl) ?_; refine aa rfl rfl (bd R_6 rfl e2_6 rfl rfl) ?_; refine p00 ?_; exact ae rfl
     intro W x_ a1 hC hall ha hN1 hD1 bb1; obtain ⟨cs,hg,hP⟩:=me hall 1; have e1:=ab (t:=2) ha e2_6; have e2:=ln ha hall 3 2
     repeat first | apply lw | apply lx
     refine wp_ret ?_
     repeat (refine then_r ?_)
     exact bi (t:=2) (u:=3) rfl hD1 e1 e2 hg hP fun v hv=>⟨v,rfl,hv,bb1⟩
theorem dec_text {s : ByteArray} (h : isDec (bt s)) : s = dtext (dval (dg s)):=by
 have hl : s.data.toList = Lib.decDigits (dval (dg s)):=by
   rcases h.2 with h1 | h1
   · have e1 : s.data.toList = [48]:=by
       have:=bt_list' s 48 (by rw [h1]; rfl); rw [ByteArray.toList_eq] at this; exact this
     have e2 : dval (dg s) = 0:=by unfold dg; rw [h1]; rfl
     rw [e1,e2,bn (by decide)]; rfl
   · have hsm:=dg_small h.1; have hne : dg s ≠ []:=by unfold dg; simpa using h1.1
     have hlast : (dg s).getLast? ≠ some 0:=by
       unfold dg; rw [List.getLast?_reverse]
       cases hb : bt s with
       | nil=>exact absurd hb h1.1
       | cons b bs =>
         have h0:=(h.1 0 (by rw [hb]; simp)).1; have h2:=h1.2; rw [hb] at h0 h2; simp at h0 h2 ⊢; omega
     have hd : dright (dg s):=⟨hsm,.inr hlast⟩
     have hv:=digits_text hd rfl (dval_pos hne hlast); rw [← hv]; unfold dg; rw [List.reverse_reverse,List.map_map]; unfold bt; rw [List.map_map]; refine (List.map_id _).symm.trans (List.map_congr_left fun b hb=>?_); obtain ⟨j,hj,e⟩:=List.getElem_of_mem hb; have hd:=h.1 j (by unfold bt; simpa using hj)
     have e3 : (bt s).getD j 0 = b.toNat:=by
       unfold bt; rw [List.getD_eq_getElem?_getD,List.getElem?_map,List.getElem?_eq_getElem hj,e]; rfl
     rw [e3] at hd
     show b = UInt8.ofNat (48 + (b.toNat - 48))
     rw [show 48 + (b.toNat - 48) = b.toNat from by omega,UInt8.ofNat_toNat]
 unfold dtext
 rw [← hl]
theorem both_tell (s : ByteArray) (M : Nat) (hM : M ≤ 445) (hs : s.size ≤ 9 * M) : ∃ (v : Nat) (ok : Bool), v < 1000000000 ^ M ∧ (ok = true → s = dtext v) ∧ (ok = false → v = 0 ∧ ¬ isDec (bt s)) ∧
   (∀ W,Calls Tryz.prog 114 #[.string s] W (RetSB W v ok)) ∧ (∀ W,Calls Tryz.prog 133 #[.string s] W (RetSB W v ok)):=by
 by_cases hdec : isDec (bt s)
 · have h0 : 0 < s.size:=by
     rw [← bu]; rcases hdec.2 with h | h
     · rw [h]; decide
     · exact List.length_pos_iff.2 h.1
   have h1 : s.size = 1 ∨ (bt s).getD 0 0 ≠ 48:=by
     rcases hdec.2 with h | h
     · left; rw [← bu,h]; rfl
     · exact .inr h.2
   have hlt : dval (dg s) < 1000000000 ^ M:=by
     have h10 : (10 : Nat) ^ (dg s).length ≤ 10 ^ (9 * M):=Nat.pow_le_pow_right (by decide) (by rw [dg_length]; omega); rw [Nat.pow_mul] at h10; exact Nat.lt_of_lt_of_le (dval_lt (dg_small hdec.1)) h10
   refine ⟨dval (dg s),true,hlt,(fun _=>dec_text hdec),(fun h=>by cases h),fun W=>?_,fun W=>?_⟩
   · refine (of_yes (s:=s) W (by omega) hdec).mono ?_; rintro e w' ⟨v,rfl,hv,hb⟩; have hr:=ft hv hlt (by omega); obtain ⟨A,k,c,rfl⟩:=hr.shape; exact ⟨A,k,c,rfl,hr,hb⟩
   · refine (refOf_body (s:=s) W (by omega) h0 h1).mono ?_; rintro e w' ⟨_,hy,hb⟩; obtain ⟨v,rfl,hv⟩:=hy hdec.1; have hr:=ft hv hlt (by omega); obtain ⟨A,k,c,rfl⟩:=hr.shape; exact ⟨A,k,c,rfl,hr,hb⟩
 · refine ⟨0,false,Nat.pow_pos (by decide),(fun h=>by cases h),(fun _=>⟨rfl,hdec⟩),fun W=>?_,fun W=>?_⟩
   · exact (of_no (s:=s) W (by omega) hdec).mono fun _ _ ⟨a,b⟩=>⟨none,0,0,a,rr_nil _,b ▸ Below.refl _ _⟩
   · by_cases h0 : s.size = 0 ∨ 1 < s.size ∧ (bt s).getD 0 0 = 48
     · exact (refOf_head W h0).mono fun _ _ ⟨a,b⟩=>⟨none,0,0,a,rr_nil _,b ▸ Below.refl _ _⟩
     · have hp : 0 < s.size:=Nat.pos_of_ne_zero fun h=>h0 (.inl h)
       have h1 : s.size = 1 ∨ (bt s).getD 0 0 ≠ 48:=by
         rcases Nat.lt_or_ge 1 s.size with h | h
         · exact .inr fun h2=>h0 (.inr ⟨h,h2⟩)
         · exact .inl (by omega)
       refine (refOf_body W (by omega) hp h1).mono fun e w' h=>?_; have he:=h.1 fun hd=>hdec ⟨hd,?_⟩
       · exact ⟨none,0,0,he,rr_nil _,h.2.2⟩
       rcases h1 with h1 | h1
       · by_cases h48 : (bt s).getD 0 0 = 48
         · left; have hbl:=bu s
           match hb : bt s with
           | []=>rw [hb] at hbl; simp at hbl; omega
           | [d]=>rw [hb] at h48; simp at h48; rw [h48]
           | a :: b :: r=>rw [hb] at hbl; simp at hbl; omega
         · exact .inr ⟨fun e=>by have:=bu s; rw [e] at this; simp at this; omega,h48⟩
       · exact .inr ⟨fun e=>by have:=bu s; rw [e] at this; simp at this; omega,h1⟩
theorem told_intB {P : Program} {F : FuncId} {vs : Array Value} {W : World} {S0 : Nat} {x : Nat → Value} {n k : Nat} {b ok : Bool} (hn : n < 1000000000 ^ k) (h : Calls P F vs W (RetIntB W n b ok)) : Calls P F vs W (Told (kZB k (zOf n b) ok) S0 x W) :=
 h.mono fun _ _ ⟨A,l,c,e,h1,h2,h3⟩=>⟨_,e,h3,_,rfl,A,l,c,by rw [fc,sgn_right h2],by rw [bk]; exact h1,by rw [bk]; exact hn⟩
theorem trim_no {l : List UInt8} (h : Lib.hasPrefix l [45] = false) : Lib.trimPrefix l [45] = l:=by
 unfold Lib.trimPrefix; rw [h]; rfl
theorem trim_yes {l : List UInt8} (h : Lib.hasPrefix l [45] = true) : l = 45 :: Lib.trimPrefix l [45]:=by
 unfold Lib.trimPrefix
 rw [h]
 cases l with
 | nil=>cases h
 | cons b r =>
   have hb : (45 == b) = true:=by
     have : ((45 == b) && List.isPrefixOf [] r) = true:=h
     simpa using this
   rw [beq_iff_eq] at hb; subst hb; rfl
theorem list_text {s : ByteArray} {l : List UInt8} (h : s.data.toList = l) : s = ⟨l.toArray⟩:=by
 cases s with
 | mk d => cases d with
   | mk m=>simp at h; rw [h]
theorem lk (s : ByteArray) (hs : s.size ≤ 100) : ∃ (z : Int) (ok : Bool), z.natAbs < 1000000000 ^ 19 ∧ (ok = true → s = ztext z) ∧ (ok = false → z = 0 ∧ ∀ y, s ≠ ztext y) ∧
   (∀ (W : World) {S0 : Nat} {x : Nat → Value},Calls Tryz.prog 82 #[.string s] W (Told (kZB 19 z ok) S0 x W)) ∧ (∀ (W : World) {S0 : Nat} {x : Nat → Value},Calls Tryz.prog 110 #[.string s] W (Told (kZB 19 z ok) S0 x W)):=by
 obtain ⟨neg,t,ht,hcase,e1,e2⟩:=cut_of s
 obtain ⟨v,ok,hv,hyes,hno,h1,h2⟩:=both_tell t 19 (by decide) (by omega)
 obtain ⟨o',ho'⟩ : ∃ o',o' = (ok && (sgn v neg == neg)):=⟨_,rfl⟩
 obtain ⟨n',hn'⟩ : ∃ n',n' = if ok && (sgn v neg == neg) then v else 0:=⟨_,rfl⟩
 have hnv : n' < 1000000000 ^ 19:=by
   rw [hn']; split
   · exact hv
   · exact Nat.pow_pos (by decide)
 have hp : ∀ W,Calls Tryz.prog 82 #[.string s] W (RetIntB W n' (o' && neg) o'):=fun W=>by
   rw [hn',ho']; refine numParse_core (fun W'=>?_) h1 (fun W' A k c h=>signed_any neg h) W; have:=Tryz.strings_CutPrefix s ⟨#[45]⟩ W'; rw [← e1,← e2]; exact this
 have hr : ∀ W,Calls Tryz.prog 110 #[.string s] W (RetIntB W n' (o' && neg) o'):=fun W=>by
   rw [hn',ho']; exact ref2Parse_core (by omega) hcase h2 hv (by decide) rfl W
 refine ⟨zOf n' (o' && neg),o',by rw [bk]; exact hnv,fun h=>?_,fun h=>⟨?_,fun y hy=>?_⟩,fun W {S0} {x}=>told_intB hnv (hp W),fun W {S0} {x}=>told_intB hnv (hr W)⟩
 · have hb : ok = true ∧ sgn v neg = neg:=by
     rw [ho',Bool.and_eq_true,beq_iff_eq] at h; exact h
   have en : n' = v:=by rw [hn',if_pos (by rw [hb.1,hb.2]; simp)]
   rw [h,en,Bool.true_and]; have et:=hyes hb.1; unfold ztext ntext; rw [bk,fc,hb.2]; have hd : t.data.toList = Lib.decDigits v:=by rw [et,← ByteArray.toList_eq,ia]
   have ht2 : Lib.trimPrefix s.data.toList [45] = Lib.decDigits v:=by rw [← hd,← e1]
   cases neg with
   | false =>
     rw [if_neg (by decide)]; rw [trim_no e2] at ht2; exact list_text ht2
   | true =>
     rw [if_pos rfl]; have:=trim_yes e2; rw [ht2] at this; have h3 : s = ⟨(45 :: Lib.decDigits v).toArray⟩:=list_text this; rw [h3]; refine (list_text ?_).symm; simp [dtext]
 · rw [h,Bool.false_and]; have : n' = 0:=by rw [hn',if_neg (by rw [← ho',h]; decide)]
   rw [this]; rfl
 · obtain ⟨c1,c2⟩:=cut_text y; rw [← hy] at c1 c2; have et : t = dtext y.natAbs:=by rw [← e1,c1]
   have en : neg = decide (y < 0):=by rw [← e2,c2]
   cases ok with
   | false=>exact (hno rfl).2 (by rw [et]; exact dtext_isDec _)
   | true =>
     have ev : v = y.natAbs:=by
       have:=hyes rfl; rw [et] at this; have h3 : Lib.decDigits y.natAbs = Lib.decDigits v:=by rw [← ia,← ia,this]
       exact (decDigits_inj h3).symm
     have hs2 : sgn v neg = neg:=by
       rw [ev,en]; unfold sgn
       by_cases h3 : y < 0
       · rw [decide_eq_true h3,decide_eq_true (by omega)]; rfl
       · rw [decide_eq_false h3]; rfl
     rw [ho',hs2] at h; simp at h
theorem text_any2 (x y : Int) : ∃ t : ByteArray, (∀ (W : World) (v : Value), Hid (Tab W ∧ 2 ≤ W.heap.size) → Pr W v 19 x y → Calls Tryz.prog 24 #[v] W fun e w' => e = .returned (.string t) ∧ Below W.heap.size W w') ∧
   ((∃ a : Rat,a.num = x ∧ (a.den : Int) = y ∧ t = textQ a) ∨ (¬ (0 < y ∧ ((zgcd [(x),(y)] : Nat) : Int) = 1) ∧ t = ztext 0)):=by
 by_cases h : 0 < y ∧ ((zgcd [(x),(y)] : Nat) : Int) = 1
 · obtain ⟨a,ha,hb⟩:=rat_of h; refine ⟨textQ a,fun W v hT hv=>Text_19 hT (by rw [ha,hb]; exact hv),.inl ⟨a,ha,hb,rfl⟩⟩
 · exact ⟨ztext 0,fun W v hT hv=>Text_no_19 h hT hv,.inr ⟨h,rfl⟩⟩
theorem split47 {l : List UInt8} (h : (47 : UInt8) ∈ l) : ∃ p q,l = p ++ 47 :: q ∧ (47 : UInt8) ∉ p:=by
 induction l with
 | nil=>cases h
 | cons b r ih =>
   by_cases e : b = 47
   · exact ⟨[],r,by rw [e]; rfl,by simp⟩
   · have : (47 : UInt8) ∈ r:=by
       rcases List.mem_cons.1 h with h | h
       · exact absurd h.symm e
       · exact h
     obtain ⟨p,q,rfl,hp⟩:=ih this
     exact ⟨b :: p,q,rfl,by
       intro hm; rcases List.mem_cons.1 hm with h | h
       · exact e h.symm
       · exact hp h⟩
theorem bt_ne {s : ByteArray} {k : Nat} {p q : List UInt8} (hl : s.data.toList = p ++ q) (hk : k = p.length) (hp : (47 : UInt8) ∉ p) : ∀ j,j < k → (bt s).getD j 0 ≠ 47:=fun j hj e=>by
 have hjp : j < p.length:=by omega
 have e1 : (bt s).getD j 0 = (p[j]).toNat:=by
   unfold bt; rw [hl,List.getD_eq_getElem?_getD,List.getElem?_map,List.getElem?_append_left hjp,List.getElem?_eq_getElem hjp]; rfl
 rw [e1] at e
 have : p[j] = 47:=UInt8.toNat_inj.1 e
 exact hp (this ▸ List.getElem_mem hjp)
theorem byte_ne {x y : ByteArray} (h : x ≠ y) : (x.toList == y.toList) = false:=beq_eq_false_iff_ne.2 fun e=>h (bytes_inj e)
def TellsPT (W : World) (x y : Int) (ok : Bool) (e : Ending) (w' : World) : Prop:=∃ v,e = .returned (.tuple #[v,.bool ok]) ∧ Pr w' v 19 x y ∧ Below W.heap.size W w'
theorem fa {W : World} {k : Nat} {x y : Int} {ok : Bool} {e : Ending} {w' : World} (hk : k ≤ 19) (h : ∃ v,e = .returned (.tuple #[v,.bool ok]) ∧ Pr w' v k x y ∧ Below W.heap.size W w') : TellsPT W x y ok e w':=by
 obtain ⟨v,h1,h2,h3⟩:=h
 exact ⟨v,h1,h2.mono hk,h3⟩
theorem parse_both (w : World) (s : ByteArray) (hs : s.size ≤ 100) (HT : Hid (Tab w ∧ 2 ≤ w.heap.size)) (hm : MaxL w) :
   ∃ (x y : Int) (ok : Bool),(∀ W,Below w.heap.size w W → Calls Tryz.prog 40 #[.string s] W (TellsPT W x y ok)) ∧ ∀ W,Below w.heap.size w W → Calls Tryz.prog 79 #[.string s] W (TellsPT W x y ok):=by
 have hTab : ∀ W,Below w.heap.size w W → Hid (Tab W ∧ 2 ≤ W.heap.size):=fun W hW=>Lib.hid ⟨HT.out.1.below hW HT.out.2,Nat.le_trans HT.out.2 hW.size⟩
 have hMx : ∀ W,Below w.heap.size w W → Hid (∀ W',Below W.heap.size W W' → MaxL W'):=fun W hW=>Lib.hid fun W' hW'=>(hm.below hW).below hW'
 by_cases h47 : (47 : UInt8) ∈ s.data.toList
 · obtain ⟨p,q,hl,hp⟩:=split47 h47
   obtain ⟨k,hk⟩ : ∃ k,k = p.length:=⟨_,rfl⟩
   have hsz : s.size = p.length + 1 + q.length:=by
     rw [Lib.size_eq,hl]; simp; omega
   have hks : k < s.size:=by omega
   have hbt:=bt_ne (q:=47 :: q) hl hk hp
   have hat : (bt s).getD k 0 = 47:=by
     unfold bt; rw [hl,hk]; simp
   have hA : s.extract 0 k = ⟨p.toArray⟩:=list_text (by rw [Lib.extract_data,hl,hk]; simp)
   have hB : s.extract (k + 1) s.size = ⟨q.toArray⟩:=list_text (by
     have e : (p ++ 47 :: q).drop (p.length + 1) = q:=by rw [← List.drop_drop,List.drop_left]; rfl
     rw [Lib.extract_data,hl,hk,hsz,e,show p.length + 1 + q.length - (p.length + 1) = q.length from by omega,List.take_length])
   have hc : CutIs s (s.extract 0 k) (s.extract (k + 1) s.size) true:=⟨p,q,by rw [hl]; exact cut_at hp,hA,hB⟩
   obtain ⟨zx,okA,bx,yx,nx,numA,refA⟩:=lk (s.extract 0 k) (by rw [ByteArray.size_extract]; omega); obtain ⟨zy,okB,bY,yy,ny,numB,refB⟩:=lk (s.extract (k + 1) s.size) (by rw [ByteArray.size_extract]; omega); obtain ⟨t,htx,hcase⟩:=text_any2 zx zy; have HX : ∀ W0,Below w.heap.size w W0 → Hid (∀ (W : World) (v : Value),Below W0.heap.size W0 W → Pr W v 19 zx zy → Calls Tryz.prog 24 #[v] W fun e w'=>e = .returned (.string t) ∧ Below W.heap.size W w'):=fun W0 h0=>Lib.hid fun W v hW hv=>htx W v (hTab W (h0.trans (hW.mono h0.size))) hv
   by_cases hts : t = s
   · rcases hcase with ⟨a,ha,hb,rfl⟩ | ⟨_,rfl⟩
     · by_cases hd : a.den = 1
       · rw [gn hd] at hts; exact absurd (hts ▸ h47) (ztext_no47 _)
       · have hcut:=cut_textQ2 hd; rw [hts,hl,cut_at hp] at hcut; injection hcut with c1 hcut; injection hcut with c2 _; have e1 : s.extract 0 k = ztext zx:=by rw [hA,c1,ha]
         have e2 : s.extract (k + 1) s.size = ztext zy:=by rw [hB,c2,hb]
         have hoA : okA = true:=by
           cases okA with
           | true=>rfl
           | false=>exact absurd e1 ((nx rfl).2 zx)
         have hoB : okB = true:=by
           cases okB with
           | true=>rfl
           | false=>exact absurd e2 ((ny rfl).2 zy)
         subst hoA; subst hoB; refine ⟨zx,zy,true,fun W hW=>(parse_cut_yes hc (by omega) (hMx W hW) (Lib.hid numA) (Lib.hid numB) (HX W hW) (by rw [hts]; exact beq_self_eq_true _)).mono fun _ _ h=>fa (by decide) h,fun W _=>?_⟩; have:=refParse_cut_yes (w:=W) (a:=a) hs hks hbt hat (Lib.hid (by rw [ha]; exact refA)) (Lib.hid (by rw [hb]; exact refB)) (by rw [hts]; exact beq_self_eq_true _); rw [ha,hb] at this; exact this.mono fun _ _ h=>fa (by decide) h
     · exact absurd (hts ▸ h47) (ztext_no47 _)
   · have hne:=byte_ne hts; refine ⟨0,1,false,fun W hW=>(parse_cut_no hc (by omega) (hMx W hW) (Lib.hid numA) (Lib.hid numB) (HX W hW) hne).mono fun _ _ h=>fa (by decide) h,fun W _=>?_⟩
     cases okA with
     | false=>exact (refParse_cut_noA hs hks hbt hat (Lib.hid refA)).mono fun _ _ h=>fa (by decide) h
     | true =>
       cases okB with
       | false=>exact (refParse_cut_noB hs hks hbt hat (Lib.hid refA) (Lib.hid refB)).mono fun _ _ h=>fa (by decide) h
       | true =>
         rcases hcase with ⟨a,ha,hb,rfl⟩ | ⟨hno,_⟩
         · exact (refParse_cut_noT (a:=a) hs hks hbt hat (Lib.hid (by rw [ha]; exact refA)) (Lib.hid (by rw [hb]; exact refB)) hne).mono fun _ _ h=>fa (by decide) h
         · exact (refParse_cut_noR hs hks hbt hat (Lib.hid refA) (Lib.hid refB) hno).mono fun _ _ h=>fa (by decide) h
 · have hbt : ∀ j,j < s.size → (bt s).getD j 0 ≠ 47:=bt_ne (q:=[]) (List.append_nil _).symm (Lib.size_eq s) h47
   have hA : s.extract 0 s.size = s:=by
     have : s.extract 0 s.size = ⟨s.data.toList.toArray⟩:=list_text (by rw [Lib.extract_data,List.drop_zero,Nat.sub_zero,Lib.size_eq,List.take_length]); rw [this]
   have hc : CutIs s s ⟨#[]⟩ false:=⟨_,_,cut_no h47,by simp,rfl⟩
   obtain ⟨z,ok,bz,yz,nz,numA,refA⟩:=lk s hs; have HB : Hid (∀ (W : World) {S0 : Nat} {x : Nat → Value},Calls Tryz.prog 82 #[.string ⟨#[49]⟩] W (Told (kZB 19 1 true) S0 x W)):=Lib.hid fun W {S0} {x}=>ztext_one ▸ parse_z 1 (by decide) W; have HX : ∀ W0,Below w.heap.size w W0 → Hid (∀ (W : World) (v : Value),Below W0.heap.size W0 W → Pr W v 19 z 1 → Calls Tryz.prog 24 #[v] W fun e w'=>e = .returned (.string (ztext z)) ∧ Below W.heap.size W w'):=fun W0 h0=>Lib.hid fun W v hW hv=>Text_19w (a:=(z : Rat)) (hTab W (h0.trans (hW.mono h0.size))) rfl hv
   cases ok with
   | true =>
     have es:=yz rfl
     exact ⟨z, 1, true, fun W hW => (parse_whole_yes hc (by omega) (hMx W hW) (Lib.hid numA) HB (HX W hW) (by rw [← es]; exact beq_self_eq_true _)).mono fun _ _ h => fa (by decide) h,
       fun W _=>(refParse_whole_yes hs rfl hbt (Lib.hid (by rw [hA]; exact refA))).mono fun _ _ h=>fa (by decide) h⟩
   | false =>
     obtain ⟨_,hny⟩:=nz rfl
     exact ⟨0, 1, false, fun W hW => (parse_whole_no hc (by omega) (hMx W hW) (Lib.hid numA) HB (HX W hW) (byte_ne fun e => hny z e.symm)).mono fun _ _ h => fa (by decide) h,
       fun W _=>(refParse_whole_no hs rfl hbt (Lib.hid (by rw [hA]; exact refA))).mono fun _ _ h=>fa (by decide) h⟩
theorem ka {w : World} {F : FuncId} {s : ByteArray} {px py : Int} {ok : Bool} (H : Hid (∀ W,Below w.heap.size w W → Calls Tryz.prog F #[.string s] W (TellsPT W px py ok))) {W : World} {v : Value} {S0 : Nat} {x : Nat → Value} (h : (kIs (.string s)).sem S0 x v W) (hW : Below w.heap.size w W) : Calls Tryz.prog F #[v] W (Told (kPT 19 px py (.bool ok)) S0 x W):=by
 have e : v = .string s:=h
 subst e
 exact tpt (H.out W hW)
theorem lawTexts_big {w : World} {s : ByteArray} (hbig : decide ((s.size : Int) > 100) = true) (HT : Hid (Tab w ∧ 2 ≤ w.heap.size)) (hm : MaxL w) : Calls Tryz.prog 38 #[.string s] w fun e w'=>e = .returned (.bool true) ∧ Below w.heap.size w w':=by
 have HM:=Lib.hid hm
 have haw:=fun (W : World) (hW : Below w.heap.size w W)=>awake3_any (w:=W) (Lib.hid ⟨HT.out.1.below hW HT.out.2,Nat.le_trans HT.out.2 hW.size⟩) (hm.below hW)
 have HA:=Lib.hid haw
 have HBIG:=Lib.hid hbig
 clear haw hm hbig
 go_enter Tryz.func38,Tryz.ntmps38
 repeat apply wp_seq
 refine mf fun K HK=>?_
 go_wp2
 refine HK.out _ _ (then_n ?_)
 have bb_0 : Below w.heap.size w w:=Below.refl _ _
 refine ly (G:=fun a=>Code.wp _ _ _ a _) 30 ?_
 intro a_0 ha hN_0 hD_0
 have e0_0 : a_0.eval (.tmp 0) = .string s:=ma ha
 repeat first | apply lw | apply lx
 refine lm bb_0 [lq,lr] [[],[0]] [7,8] [] [] ?_ ?_
 ·
   refine aa rfl rfl (aq [] rfl rfl fun hC=>ti (HA.out _ (bb_0.trans hC.below))) ?_; refine p10 ?_; exact ae rfl
 intro W_1 x_ a_1 hC hall ha hN_1 hD_1 bb_1
 have e0_1:=ab ha e0_0
 have e8_1:=ln ha hall 8 1
 refine wp_cond_false e8_1 ?_
 repeat first | apply lw | apply lx
 refine lm bb_1 [kIs (.string s),kIs (.int .i64 (s.size : Int)),lq] [[],[0],[1]] [9,10,11] [] [] ?_ ?_
 ·
   refine p01 e0_1 ?_; refine p10 ?_; refine aa rfl rfl (ck [.int .i64 (s.size : Int)] [] (.bool (decide ((s.size : Int) > 100))) (.bool true) (congrArg Value.bool HBIG.out) rfl old0) ?_; exact ae rfl
 intro W_2 x_ a_2 hC hall ha hN_2 hD_2 bb_2
 have e11_2:=ln ha hall 11 2
 refine wp_cond_true e11_2 ?_
 repeat first | apply lw | apply lx
 refine lm bb_2 [lq] [[]] [2] [] [] ?_ ?_
 ·
   refine p00 ?_; exact ae rfl
 intro W_3 x_ a_3 hC hall ha hN_3 hD_3 bb_3
 have e2_3:=ln ha hall 2 0
 repeat first | apply lw | apply lx
 refine wp_ret ?_
 repeat (refine then_r ?_)
 exact bc (t:=2) rfl hD_3 e2_3 ⟨rfl,bb_3⟩
theorem lawTexts_yes {w : World} {s : ByteArray} (hbig : decide ((s.size : Int) > 100) = false) {px py : Int} (HP : Hid (∀ W,Below w.heap.size w W → Calls Tryz.prog 40 #[.string s] W (TellsPT W px py true))) (HR : Hid (∀ W,Below w.heap.size w W → Calls Tryz.prog 79 #[.string s] W (TellsPT W px py true))) (HT : Hid (Tab w ∧ 2 ≤ w.heap.size)) (hm : MaxL w) : Calls Tryz.prog 38 #[.string s] w fun e w'=>e = .returned (.bool true) ∧ Below w.heap.size w w':=by
 have HM:=Lib.hid hm
 have haw:=fun (W : World) (hW : Below w.heap.size w W)=>awake3_any (w:=W) (Lib.hid ⟨HT.out.1.below hW HT.out.2,Nat.le_trans HT.out.2 hW.size⟩) (hm.below hW)
 have HA:=Lib.hid haw
 have HBIG:=Lib.hid hbig
 clear haw hm hbig
 go_enter Tryz.func38,Tryz.ntmps38
 repeat apply wp_seq
 refine mf fun K HK=>?_
 go_wp2
 refine HK.out _ _ (then_n ?_)
 have bb_0 : Below w.heap.size w w:=Below.refl _ _
 refine ly (G:=fun a=>Code.wp _ _ _ a _) 30 ?_
 intro a_0 ha hN_0 hD_0
 have e0_0 : a_0.eval (.tmp 0) = .string s:=ma ha
 repeat first | apply lw | apply lx
 refine lm bb_0 [lq,lr] [[],[0]] [7,8] [] [] ?_ ?_
 ·
   refine aa rfl rfl (aq [] rfl rfl fun hC=>ti (HA.out _ (bb_0.trans hC.below))) ?_; refine p10 ?_; exact ae rfl
 intro W_1 x_ a_1 hC hall ha hN_1 hD_1 bb_1
 have e0_1:=ab ha e0_0
 have e8_1:=ln ha hall 8 1
 refine wp_cond_false e8_1 ?_
 repeat first | apply lw | apply lx
 refine lm bb_1 [kIs (.string s),kIs (.int .i64 (s.size : Int)),lr] [[],[0],[1]] [9,10,11] [] [] ?_ ?_
 ·
   refine p01 e0_1 ?_; refine p10 ?_; refine aa rfl rfl (ck [.int .i64 (s.size : Int)] [] (.bool (decide ((s.size : Int) > 100))) (.bool false) (congrArg Value.bool HBIG.out) rfl old0) ?_; exact ae rfl
 intro W_2 x_ a_2 hC hall ha hN_2 hD_2 bb_2
 have e0_2:=ab ha e0_1
 have e11_2:=ln ha hall 11 2
 refine wp_cond_false e11_2 ?_
 repeat first | apply lw | apply lx
 refine lm bb_2 [kIs (.string s),kPT 19 (px) (py) (.bool true),kPT 19 (px) (py) (.bool true),kP 19 (px) (py),lq,PK.fresh 4,kPutP 5 19 (px) (py),lq] [[],[0],[1],[2],[2],[],[5,3],[4]] [13,14,12,15,16,3,999,4] [] [] ?_ ?_
 ·
   refine p01 e0_2 ?_; refine aa rfl rfl (ac rfl rfl fun hC h1=>ka HP h1 (bb_2.trans hC.below)) ?_; refine aa rfl rfl (bg rfl rfl) ?_; refine ap ext_p ?_; refine ap ext_v ?_; refine aa rfl rfl (bp rfl) ?_; refine aa rfl rfl (du rfl rfl rfl) ?_; refine p10 ?_; exact ae rfl
 intro W_3 x_ a_3 hC hall ha hN_3 hD_3 bb_3
 have e0_3:=ab ha e0_2
 obtain ⟨g3,hx,hge,p3_3,p3'_3⟩:=di (me hall 6)
 have e3_3:=(ak (t:=3) (i:=5) ha).trans hx
 clear hx hge
 have e4_3:=ln ha hall 4 7
 repeat first | apply lw | apply lx
 refine lm bb_3 [kIs (.string s),kPT 19 (px) (py) (.bool true),kPT 19 (px) (py) (.bool true),kP 19 (px) (py),lq,PK.fresh 4,kPutP 5 19 (px) (py),lq] [[],[0],[1],[2],[2],[],[5,3],[4]] [18,19,17,20,21,5,999,6] [] [] ?_ ?_
 ·
   refine p01 e0_3 ?_; refine aa rfl rfl (ac rfl rfl fun hC h1=>ka HR h1 (bb_3.trans hC.below)) ?_; refine aa rfl rfl (bg rfl rfl) ?_; refine ap ext_p ?_; refine ap ext_v ?_; refine aa rfl rfl (bp rfl) ?_; refine aa rfl rfl (du rfl rfl rfl) ?_; refine p10 ?_; exact ae rfl
 intro W_4 x_ a_4 hC hall ha hN_4 hD_4 bb_4
 have e3_4:=ab ha e3_3
 have e4_4:=ab ha e4_3
 have p3_4:=hC.at0 p3_3
 have p3'_4:=hC.at0 p3'_3
 obtain ⟨g5,hx,hge,p5_4,p5'_4⟩:=di (me hall 6)
 have e5_4:=(ak (t:=5) (i:=5) ha).trans hx
 clear hx hge
 have e6_4:=ln ha hall 6 7
 repeat first | apply lw | apply lx
 refine lm bb_4 [lq,lq,lq,lq,kP 19 (px) (py),kP 19 (px) (py),lq,lq,lq] [[],[],[0,1],[2],[],[],[4,5],[3,6],[7]] [22,23,24,25,26,27,28,29,2] [(3,true)] [] ?_ ?_
 ·
   refine p01 e4_4 ?_; refine p01 e6_4 ?_; refine p20 ?_; refine p10 ?_; refine aa rfl rfl (aw p3_4 p3'_4 e3_4 rfl) ?_; refine aa rfl rfl (aw p5_4 p5'_4 e5_4 rfl) ?_; refine aa rfl rfl (ai rfl rfl rfl fun hC h1 h2=>ti (lawSame_19 (pm h1) (pm h2))) ?_; refine p20 ?_; refine p10 ?_; exact ae rfl
 intro W_5 x_ a_5 hC hall ha hN_5 hD_5 bb_5
 have e2_5:=ln ha hall 2 8
 repeat first | apply lw | apply lx
 refine wp_ret ?_
 repeat (refine then_r ?_)
 exact bc (t:=2) rfl hD_5 e2_5 ⟨rfl,bb_5⟩
theorem lawTexts_no {w : World} {s : ByteArray} (hbig : decide ((s.size : Int) > 100) = false) {px py : Int} (HP : Hid (∀ W,Below w.heap.size w W → Calls Tryz.prog 40 #[.string s] W (TellsPT W px py false))) (HR : Hid (∀ W,Below w.heap.size w W → Calls Tryz.prog 79 #[.string s] W (TellsPT W px py false))) (HT : Hid (Tab w ∧ 2 ≤ w.heap.size)) (hm : MaxL w) : Calls Tryz.prog 38 #[.string s] w fun e w'=>e = .returned (.bool true) ∧ Below w.heap.size w w':=by
 have HM:=Lib.hid hm
 have haw:=fun (W : World) (hW : Below w.heap.size w W)=>awake3_any (w:=W) (Lib.hid ⟨HT.out.1.below hW HT.out.2,Nat.le_trans HT.out.2 hW.size⟩) (hm.below hW)
 have HA:=Lib.hid haw
 have HBIG:=Lib.hid hbig
 clear haw hm hbig
 go_enter Tryz.func38,Tryz.ntmps38
 repeat apply wp_seq
 refine mf fun K HK=>?_
 go_wp2
 refine HK.out _ _ (then_n ?_)
 have bb_0 : Below w.heap.size w w:=Below.refl _ _
 refine ly (G:=fun a=>Code.wp _ _ _ a _) 30 ?_
 intro a_0 ha hN_0 hD_0
 have e0_0 : a_0.eval (.tmp 0) = .string s:=ma ha
 repeat first | apply lw | apply lx
 refine lm bb_0 [lq,lr] [[],[0]] [7,8] [] [] ?_ ?_
 ·
   refine aa rfl rfl (aq [] rfl rfl fun hC=>ti (HA.out _ (bb_0.trans hC.below))) ?_; refine p10 ?_; exact ae rfl
 intro W_1 x_ a_1 hC hall ha hN_1 hD_1 bb_1
 have e0_1:=ab ha e0_0
 have e8_1:=ln ha hall 8 1
 refine wp_cond_false e8_1 ?_
 repeat first | apply lw | apply lx
 refine lm bb_1 [kIs (.string s),kIs (.int .i64 (s.size : Int)),lr] [[],[0],[1]] [9,10,11] [] [] ?_ ?_
 ·
   refine p01 e0_1 ?_; refine p10 ?_; refine aa rfl rfl (ck [.int .i64 (s.size : Int)] [] (.bool (decide ((s.size : Int) > 100))) (.bool false) (congrArg Value.bool HBIG.out) rfl old0) ?_; exact ae rfl
 intro W_2 x_ a_2 hC hall ha hN_2 hD_2 bb_2
 have e0_2:=ab ha e0_1
 have e11_2:=ln ha hall 11 2
 refine wp_cond_false e11_2 ?_
 repeat first | apply lw | apply lx
 refine lm bb_2 [kIs (.string s),kPT 19 (px) (py) (.bool false),kPT 19 (px) (py) (.bool false),kP 19 (px) (py),lr,PK.fresh 4,kPutP 5 19 (px) (py),lr] [[],[0],[1],[2],[2],[],[5,3],[4]] [13,14,12,15,16,3,999,4] [] [] ?_ ?_
 ·
   refine p01 e0_2 ?_; refine aa rfl rfl (ac rfl rfl fun hC h1=>ka HP h1 (bb_2.trans hC.below)) ?_; refine aa rfl rfl (bg rfl rfl) ?_; refine ap ext_p ?_; refine ap ext_v ?_; refine aa rfl rfl (bp rfl) ?_; refine aa rfl rfl (du rfl rfl rfl) ?_; refine p10 ?_; exact ae rfl
 intro W_3 x_ a_3 hC hall ha hN_3 hD_3 bb_3
 have e0_3:=ab ha e0_2
 obtain ⟨g3,hx,hge,p3_3,p3'_3⟩:=di (me hall 6)
 have e3_3:=(ak (t:=3) (i:=5) ha).trans hx
 clear hx hge
 have e4_3:=ln ha hall 4 7
 repeat first | apply lw | apply lx
 refine lm bb_3 [kIs (.string s),kPT 19 (px) (py) (.bool false),kPT 19 (px) (py) (.bool false),kP 19 (px) (py),lr,PK.fresh 4,kPutP 5 19 (px) (py),lr] [[],[0],[1],[2],[2],[],[5,3],[4]] [18,19,17,20,21,5,999,6] [] [] ?_ ?_
 ·
   refine p01 e0_3 ?_; refine aa rfl rfl (ac rfl rfl fun hC h1=>ka HR h1 (bb_3.trans hC.below)) ?_; refine aa rfl rfl (bg rfl rfl) ?_; refine ap ext_p ?_; refine ap ext_v ?_; refine aa rfl rfl (bp rfl) ?_; refine aa rfl rfl (du rfl rfl rfl) ?_; refine p10 ?_; exact ae rfl
 intro W_4 x_ a_4 hC hall ha hN_4 hD_4 bb_4
 have e3_4:=ab ha e3_3
 have e4_4:=ab ha e4_3
 have p3_4:=hC.at0 p3_3
 have p3'_4:=hC.at0 p3'_3
 obtain ⟨g5,hx,hge,p5_4,p5'_4⟩:=di (me hall 6)
 have e5_4:=(ak (t:=5) (i:=5) ha).trans hx
 clear hx hge
 have e6_4:=ln ha hall 6 7
 repeat first | apply lw | apply lx
 refine lm bb_4 [lr,lr,lq,lq,kP 19 (px) (py),kP 19 (px) (py),lq,lq,lq] [[],[],[0,1],[2],[],[],[4,5],[3,6],[7]] [22,23,24,25,26,27,28,29,2] [(3,true)] [] ?_ ?_
 ·
   refine p01 e4_4 ?_; refine p01 e6_4 ?_; refine p20 ?_; refine p10 ?_; refine aa rfl rfl (aw p3_4 p3'_4 e3_4 rfl) ?_; refine aa rfl rfl (aw p5_4 p5'_4 e5_4 rfl) ?_; refine aa rfl rfl (ai rfl rfl rfl fun hC h1 h2=>ti (lawSame_19 (pm h1) (pm h2))) ?_; refine p20 ?_; refine p10 ?_; exact ae rfl
 intro W_5 x_ a_5 hC hall ha hN_5 hD_5 bb_5
 have e2_5:=ln ha hall 2 8
 repeat first | apply lw | apply lx
 refine wp_ret ?_
 repeat (refine then_r ?_)
 exact bc (t:=2) rfl hD_5 e2_5 ⟨rfl,bb_5⟩
theorem lawTexts_any {w : World} (s : ByteArray) (HT : Hid (Tab w ∧ 2 ≤ w.heap.size)) (hm : MaxL w) : Calls Tryz.prog 38 #[.string s] w fun e w'=>e = .returned (.bool true) ∧ Below w.heap.size w w':=by
 by_cases h : 100 < s.size
 · exact lawTexts_big (decide_eq_true (by omega)) HT hm
 · obtain ⟨px,py,ok,h1,h2⟩:=parse_both w s (by omega) HT hm
   cases ok with
   | true=>exact lawTexts_yes (decide_eq_false (by omega)) (Lib.hid h1) (Lib.hid h2) HT hm
   | false=>exact lawTexts_no (decide_eq_false (by omega)) (Lib.hid h1) (Lib.hid h2) HT hm
def ends11 : List Int:=[0,1,-1,2,-2,3,6,999999999,-1000000000,9223372036854775807,-9223372036854775808]
def e11 (i : Nat) : Int:=ends11.getD i 0
theorem e11_in (i : Nat) : -9223372036854775808 ≤ e11 i ∧ e11 i ≤ 9223372036854775807:=by
 unfold e11
 by_cases h : i < ends11.length
 · rw [List.getD_eq_getElem?_getD,List.getElem?_eq_getElem h]; have hall : ∀ z ∈ ends11,-9223372036854775808 ≤ z ∧ z ≤ 9223372036854775807:=by decide
   exact hall _ (List.getElem_mem h)
 · rw [List.getD_eq_getElem?_getD,List.getElem?_eq_none (by omega)]; decide
theorem e11_lt (i : Nat) : (e11 i).natAbs < 1000000000 ^ 3:=by
 have h:=e11_in i
 have h2 : (e11 i).natAbs ≤ 9223372036854775808:=by omega
 exact Nat.lt_of_le_of_lt h2 (by decide)
def AtE (W : World) (g : Nat) : Prop:=∀ i,i < 11 → W.cell? ⟨g,i,none⟩ = some (.int .i64 (e11 i))
theorem AtE.below {W W' : World} {g : Nat} (h : AtE W g) (hb : Below W.heap.size W W') : AtE W' g:=fun i hi=>(hb.cell (cell_lt (h i hi))).trans (h i hi)
theorem Reg.atE {B : Nat} {W0 w : World} (h : Reg B W0 [] w) {g : Nat} (hE : AtE W0 g) : AtE w g:=fun i hi=>((h.cell (cell_lt (hE i hi)) (by simp) i).1).trans (hE i hi)
theorem len_runW (b : Option Addr) (m c : Nat) (T : TypeId) : ∀ w,(Builtin.len_ #[ 49 ] T #[.slice b m c]).run Tryz.prog w = .ok (.int .i64 (m : Int)) w:=fun _=>by kernel_rfl
theorem run_idxW {w : World} {g i n : Nat} (h : i < n) : (Instr.indexAt 49 (.slice (some ⟨g,0,none⟩) n n) (.int .i64 (i : Int))).run Tryz.prog w = .ok (.pointer (some ⟨g,i,none⟩)) w:=by
 have h1 : (0 : Int) ≤ (i : Int) ∧ (i : Int) < (n : Int):=by omega
 go_simp
theorem run_loadW {w : World} {g i : Nat} {v : Value} (h : w.cell? ⟨g,i,none⟩ = some v) : (Instr.loadAt 2 (.pointer (some ⟨g,i,none⟩))).run Tryz.prog w = .ok v w:=by go_simp
theorem rem11_run (n : Nat) (h : n < 9223372036854775808) : ∀ w,(binOp .rem 3 (.int .i64 (n : Int)) (.int .i64 11)).run Tryz.prog w = .ok (.int .i64 ((n % 11 : Nat) : Int)) w:=fun w=>by
 go_simp
 exact Int.tmod_eq_emod_of_nonneg (by omega)
theorem ex_bin {P : Program} {ρ : Operand → Value} {w : World} {d : Option Tmp} {T E E2 : TypeId} {pos : String} {af : Array Edge} {gu : Option (Nat × Bool)} {op : BinOp} {a b : Operand} {x y r : Value} (ha : ρ a = x) (hb : ρ b = y) (hg : (eqGuard op E a b x y).run P w = .ok () w) (h : (binOp op E x y).run P w = .ok r w) :
   (execOp ρ { dst:=d,op:=.binOp op E a b E2,type:=T,pos:=pos,after:=af,guard:=gu }).run P w = .ok (.value r) w:=by
 show (((do eqGuard op E a b (ρ a) (ρ b); binOp op E (ρ a) (ρ b)) : Sem Value) >>= fun v=>pure (Next.value v)).run P w = _
 rw [ha,hb]
 have e2 : ((do eqGuard op E a b x y; binOp op E x y) : Sem Value).run P w = .ok r w:=by
   rw [bm hg]; exact h
 rw [bm e2]; rfl
theorem ex_idx {P : Program} {ρ : Operand → Value} {w : World} {d : Option Tmp} {T E : TypeId} {pos : String} {af : Array Edge} {gu : Option (Nat × Bool)} {a b : Operand} {x y r : Value} (ha : ρ a = x) (hb : ρ b = y) (h : (Instr.indexAt E x y).run P w = .ok r w) :
   (execOp ρ { dst:=d,op:=.indexAddr E a b,type:=T,pos:=pos,after:=af,guard:=gu }).run P w = .ok (.value r) w:=by
 show Sem.run P (Instr.indexAt E (ρ a) (ρ b) >>= fun v=>pure (Next.value v)) w = _
 rw [ha,hb,bm h]; rfl
section
variable {W0 : World} {B S0 N i : Nat} {ks : List PK} {a0 : Act} {T : TypeId} {pos : String} {af : Array Edge} {gu : Option (Nat × Bool)}
theorem iw {d t j g k : Nat} (hl : AtE W0 g) (hk : k < 11)    (hj : at_ ks j = kIs (.pointer (some ⟨g,k,none⟩))) (hi : at_ ks i = kIs (.int .i64 (e11 k))) (hN : a0.tmps.size = N:=by assumption) (hd : decide (d < N) = true:=by kernel_rfl) (ht : decide (t < N) = true:=by kernel_rfl) :
   PkStep Tryz.prog (Reg B W0 []) S0 ks a0 i { dst:=some d,op:=.load 2 (.tmp t),type:=T,pos:=pos,after:=af,guard:=gu } [(j,some t)]:=by
 intro w x hC
 refine ay _ fun hdeps K hK=>?_
 have h1:=hdeps (j,some t) (by simp)
 rw [hj] at h1
 have e1 : (putE x a0 [(j,some t)]).eval (.tmp t) = x j:=putE_new _ _ (by rw [hN]; exact of_decide_eq_true ht) (by simp [slotAt])
 refine cb rfl (by rw [az,hN]) hd (ex_load (e1.trans h1) (run_loadW (hC.atE hl k hk))) (hK _ _ ?_ ?_)
 · rw [hi]; exact Below.refl _ _
 · rw [hi]; rfl
end
theorem ix {S0 : Nat} {x : Nat → Value} {w : World} {v : Value} {i : Nat} (h : (kIs (.int .i64 (e11 i))).sem S0 x v w) : Calls Tryz.prog 37 #[v] w (Told (kZ 3 (e11 i)) S0 x w):=by
 have e : v = .int .i64 (e11 i):=h
 subst e
 exact tz (z_of (e11 i) 3 (e11_in i).1 (e11_in i).2 (e11_lt i))
def Sv (W : World) (v : Value) : Prop:=∃ b xs b' ys,Qv W v b xs b' ys ∧ small 4294967296 xs ∧ small 4294967296 ys ∧ xs.length ≤ 8 ∧ ys.length ≤ 8
theorem rr_rows {W : World} {A : Option Addr} {l c n : Nat} (h : Rr W (.slice A l c) n) (hn : n < 1000000000 ^ 3) : ∃ xs,l = xs.length ∧ Row W A (u32s xs) ∧ small 4294967296 xs ∧ xs.length ≤ 8:=by
 obtain ⟨A',c',xs,e,r,x,_,hv⟩:=h
 injection e with e1 e2 e3
 subst e1; subst e2; subst e3
 refine ⟨xs,rfl,r,right_small x,?_⟩
 by_cases h0 : xs = []
 · subst h0; exact Nat.zero_le _
 · have h2:=fx x h0; have h4 : 1000000000 ^ (xs.length - 1) < 1000000000 ^ 3:=by omega
   have h5:=(Nat.pow_lt_pow_iff_right (by decide)).1 h4; omega
theorem pr_sv {W : World} {v : Value} {x y : Int} (h : Pr W v 3 x y) : Sv W v:=by
 obtain ⟨A,l,c,A',l',c',rfl,⟨h1,h2⟩,h3,h4⟩:=h
 obtain ⟨xs,rfl,r1,s1,l1⟩:=rr_rows h1 h2
 obtain ⟨ys,rfl,r2,s2,l2⟩:=rr_rows h3 h4
 exact ⟨_,xs,_,ys,⟨A,c,A',c',rfl,r1,r2⟩,s1,s2,l1,l2⟩
theorem none_sv {W : World} : Sv W (.agg #[.bool false,.slice none 0 0,.bool false,.slice none 0 0]) :=
 ⟨false,[],false,[],⟨none,0,none,0,rfl,Row.nil _ _,Row.nil _ _⟩,br _,br _,by decide,by decide⟩
theorem tells_sv {W : World} {v1 v2 : Value} (h1 : Sv W v1) (h2 : Sv W v2) (HT : Hid (Tab W ∧ 2 ≤ W.heap.size)) (hm : MaxL W) : Calls Tryz.prog 3 #[v1,v2] W (SaysB W true):=by
 obtain ⟨b1,xs1,b1',ys1,⟨A1,c1,A1',c1',rfl,r1,r1'⟩,s1,s1',l1,l1'⟩:=h1
 obtain ⟨b2,xs2,b2',ys2,⟨A2,c2,A2',c2',rfl,r2,r2'⟩,s2,s2',l2,l2'⟩:=h2
 exact lawTellQ_few (by simp [fewP]; exact ⟨⟨l1,l1'⟩,l2,l2'⟩) r1 r1' r2 r2' s1 s1' s2 s2' l1 l1' l2 l2' HT hm
theorem tellq_told {S0 : Nat} {x : Nat → Value} {w : World} {v1 v2 : Value} (H : Hid (∀ W v1 v2,Below w.heap.size w W → Sv W v1 → Sv W v2 → Calls Tryz.prog 3 #[v1,v2] W (SaysB W true))) {W : World} (hb : Below w.heap.size w W) (h1 : Sv W v1) (h2 : Sv W v2) : Calls Tryz.prog 3 #[v1,v2] W (Told (kIs (.bool true)) S0 x W):=ti (H.out W v1 v2 hb h1 h2)
theorem is_sv {S0 : Nat} {x : Nat → Value} {w : World} {v : Value} (h : (kIs (.agg #[.bool false,.slice none 0 0,.bool false,.slice none 0 0])).sem S0 x v w) : Sv w v:=by
 have e : v = _:=h
 rw [e]; exact none_sv
theorem txt_told {w : World} (H : Hid (∀ W s,Below w.heap.size w W → Calls Tryz.prog 38 #[.string s] W (SaysB W true))) {W : World} {S0 : Nat} {x : Nat → Value} {v : Value} {s : ByteArray} (hb : Below w.heap.size w W) (h : (kIs (.string s)).sem S0 x v W) : Calls Tryz.prog 38 #[v] W (Told (kIs (.bool true)) S0 x W):=by
 have e : v = .string s:=h
 subst e
 exact ti (H.out W s hb)
theorem gr {w : World} (H : Hid (∀ W s,Below w.heap.size w W → Calls Tryz.prog 38 #[.string s] W (SaysB W true))) {W : World} {S0 : Nat} {x : Nat → Value} {s : ByteArray} (hb : Below w.heap.size w W) : Calls Tryz.prog 38 #[.string s] W (Told (kIs (.bool true)) S0 x W):=ti (H.out W s hb)
theorem atE_new (w : World) (T : TypeId) : AtE (w.alloc (.cells #[.int .i64 0,.int .i64 1,.int .i64 (-1),.int .i64 2,.int .i64 (-2),.int .i64 3,.int .i64 6,.int .i64 999999999,.int .i64 (-1000000000),.int .i64 9223372036854775807,.int .i64 (-9223372036854775808)] T)) w.heap.size:=by
 intro i hi
 have hh : Holds_ (w.alloc (.cells #[.int .i64 0,.int .i64 1,.int .i64 (-1),.int .i64 2,.int .i64 (-2),.int .i64 3,.int .i64 6,.int .i64 999999999,.int .i64 (-1000000000),.int .i64 9223372036854775807,.int .i64 (-9223372036854775808)] T)) w.heap.size _:=⟨⟨T,heap_alloc_new _ _⟩,by simp [noDig]⟩
 have h : i = 0 ∨ i = 1 ∨ i = 2 ∨ i = 3 ∨ i = 4 ∨ i = 5 ∨ i = 6 ∨ i = 7 ∨ i = 8 ∨ i = 9 ∨ i = 10:=by omega
 rcases h with rfl | rfl | rfl | rfl | rfl | rfl | rfl | rfl | rfl | rfl | rfl <;> exact (hh.any _ (by decide)).1
theorem zt_size (i : Nat) : (ztext (e11 i)).size ≤ 28:=ir (e11_lt i) (by decide)
end Go.Proofs.YtnbhihhjgpddcaaGreatDoor

/- An append onto a row of the call's own whose source is any row, nil let in; as a law for the walk. No condition beside those of the library's own law. Contracts of package num's plus, times, negated, compare: Contract of whetstoneref01.Of: Contract of whetstoneref01.read: Contract of whetstoneref01.order: Contracts of package num's Of and of the document's answer of stage 2: Contracts of package num's Parse. What the rows' condition on the three tables gives: -/
import Derived.Test.YtifgcjpgelbelaaGreatDoorPN2
import Derived.Test.YtifgcjpgelbelaaGreatDoorPN1
import Derived.Laws.AppendOwn
import Derived.Laws.OwnMore
import Derived.Tactics
import Derived.Test.YtifgcjpgelbelaaGreatDoorRows
import Derived.ProofKit
import Derived.LaidMore
import Derived.LaidSub
import Derived.OpenShut
import Derived.Stop.Joined
import Derived.Lib.LaidTab
import Derived.ShutString
import Derived.Deep.Matrix
set_option maxRecDepth 100000
set_option maxHeartbeats 16000000
set_option linter.unusedVariables false
set_option linter.unusedSimpArgs false
namespace Go.Proofs.YtifgcjpgelbelaaGreatDoor
open Go.RowKit
def zOf (n : Nat) (b : Bool) : Int:=if b = true then -(n : Int) else (n : Int)
def addN (n : Nat) (b : Bool) (m : Nat) (c : Bool) : Nat:=if (b == c) = true then n + m else gapOf n m
def addB (n : Nat) (b : Bool) (m : Nat) (c : Bool) : Bool:=if (b == c) = true then sgn (n + m) b else sgn (gapOf n m) (b != decide (n < m))
theorem fk {w W : World} {o1 o2 o3 : Obj} (h : W = ((w.alloc o1).alloc o2).alloc o3) :
   Below w.heap.size w W ∧ W.heap.size = w.heap.size + 3 ∧ W.heap[w.heap.size]? = some o1 ∧ W.heap[w.heap.size + 1]? = some o2 ∧ W.heap[w.heap.size + 1 + 1]? = some o3:=by
 subst h
 refine ⟨below_first (below_first ((Below.refl _ _).alloc (Nat.le_refl _) _)),by simp,?_,?_,?_⟩
 · rw [Below.heap_alloc _ _ _ (by simp <;> omega),Below.heap_alloc _ _ _ (by simp)]; exact new_at rfl
 · rw [Below.heap_alloc _ _ _ (by simp)]; exact new_at (by simp)
 · exact new_at (by simp)
theorem plus_num {w : World} {A1 A2 : Option Addr} {k1 c1 k2 c2 n1 n2 N : Nat} (b1 b2 : Bool) (h1 : Rr w (.slice A1 k1 c1) n1) (h2 : Rr w (.slice A2 k2 c2) n2) (hn : n1 + n2 < 1000000000 ^ N) (hN : N ≤ 4000) :
   Calls Tryz.prog 98 #[.agg #[.slice A1 k1 c1,.bool b1],.agg #[.slice A2 k2 c2,.bool b2]] w (RetNumB2 w (addN n1 b1 n2 b2) (addB n1 b1 n2 b2)):=by
 have hjn:=fun (W : World) (hW : Below w.heap.size w W)=>joined_any (h1.below hW).rd (h2.below hW).rd hn hN
 have hap:=fun (W : World) (hW : Below w.heap.size w W)=>apart_any (N:=N) (h1.below hW).rd (h2.below hW).rd (by omega) (by omega) hN
 have HJN:=Lib.hid hjn
 have HAP:=Lib.hid hap
 clear hjn hap h1 h2 hn hN
 obtain ⟨Q,hQ⟩ : ∃ Q,Q = addN n1 b1 n2 b2:=⟨_,rfl⟩
 obtain ⟨sq,hsq⟩ : ∃ s,s = addB n1 b1 n2 b2:=⟨_,rfl⟩
 rw [← hQ,← hsq]
 have HQ:=Lib.hid hQ
 have HSQ:=Lib.hid hsq
 clear hQ hsq
 by_cases he : b1 = b2
 · subst he; have eQ : Q = n1 + n2:=by rw [HQ.out]; exact if_pos (by simp)
   have eS : sq = sgn (n1 + n2) b1:=by rw [HSQ.out]; exact if_pos (by simp)
   clear HQ HSQ HAP; subst eQ; subst eS
   go_enter Tryz.func98,Tryz.ntmps98
   go_wp2_with fail
   obtain ⟨W,hW⟩ : ∃ W,W = ((w.alloc (Obj.cells #[Value.slice A1 k1 c1,Value.bool b1] 91)).alloc (Obj.cells #[Value.slice A2 k2 c2,Value.bool b1] 91)).alloc (Obj.cells #[Value.slice none 0 0,Value.bool false] 91):=⟨_,rfl⟩
   obtain ⟨bW,sW,K0,K1,K2⟩:=fk hW; rw [← hW]; clear hW; obtain ⟨p1,p2,_,_⟩:=cell_of_two K0; obtain ⟨q1,q2,_,_⟩:=cell_of_two K1
   go_simp
   have J2 : Holds_ W (w.heap.size + 1 + 1) #[Value.slice none 0 0,Value.bool false]:=⟨⟨_,K2⟩,by simp [noDig]⟩
   clear K0 K1 K2; refine am (w.heap.size) [kIs (.pointer (some ⟨w.heap.size,0,none⟩)),kIs (.slice A1 k1 c1),kIs (.pointer (some ⟨w.heap.size + 1,0,none⟩)),kIs (.slice A2 k2 c2),kRr (n1 + n2),kIs (.pointer (some ⟨w.heap.size,1,none⟩)),kIs (.bool b1),kNum (n1 + n2) (sgn (n1 + n2) b1),kCellNum (w.heap.size + 1 + 1) (n1 + n2) (sgn (n1 + n2) b1)] [ [],[(0,some 12)],[],[(2,some 14)],[(1,some 13),(3,some 15)],[],[(5,some 17)],[(4,some 16),(6,some 18)],[(7,some 19)] ] [(0,some 12),(1,some 13),(2,some 14),(3,some 15),(4,some 16),(5,some 17),(6,some 18),(7,some 19),(8,none)] [] [] ?n1 ?n2 ?n3 ?n4 ?st ?en
   case n1=>show List.Nodup ([(w.heap.size + 1 + 1)] : List Nat); simp
   case n2=>show ∀ g ∈ ([(w.heap.size + 1 + 1)] : List Nat),_; intro g hg; simp only [List.mem_cons,List.not_mem_nil,or_false] at hg; omega
   case n3=>omega
   case n4 =>
     show ∀ g ∈ ([(w.heap.size + 1 + 1)] : List Nat),∃ cs,Holds_ _ g cs
     intro g hg; simp only [List.mem_cons,List.not_mem_nil,or_false] at hg; rcases hg with rfl
     · exact ⟨_,J2⟩
   case st =>
     refine aa rfl rfl ?_ ?_
     · intro wr x hC; simp only [deps,at_,List.getD_cons_zero,PK.sem,PK.move,kIs]; intro K hK; simp only [putE,retOf]
       go_simp
       exact hK _ _ (Below.refl _ _) rfl
     refine aa rfl rfl ?_ ?_
     · intro wr x hC; simp only [deps,at_,List.getD_cons_zero,List.getD_cons_succ,PK.sem,PK.move,kIs]; intro h0; intro K hK; have hce0:=(hC.cell (b:=w.heap.size) (by omega) (show _ ∉ ([(w.heap.size + 1 + 1)] : List Nat) by simp <;> omega) 0).1.trans p1; simp only [putE,retOf,h0]
       go_simp
       exact hK _ _ (Below.refl _ _) rfl
     refine aa rfl rfl ?_ ?_
     · intro wr x hC; simp only [deps,at_,List.getD_cons_zero,List.getD_cons_succ,PK.sem,PK.move,kIs]; intro K hK; simp only [putE,retOf]
       go_simp
       exact hK _ _ (Below.refl _ _) rfl
     refine aa rfl rfl ?_ ?_
     · intro wr x hC; simp only [deps,at_,List.getD_cons_zero,List.getD_cons_succ,PK.sem,PK.move,kIs]; intro h0; intro K hK; have hce0:=(hC.cell (b:=w.heap.size + 1) (by omega) (show _ ∉ ([(w.heap.size + 1 + 1)] : List Nat) by simp <;> omega) 0).1.trans q1; simp only [putE,retOf,h0]
       go_simp
       exact hK _ _ (Below.refl _ _) rfl
     refine aa rfl rfl ?_ ?_
     · intro wr x hC; simp only [deps,at_,List.getD_cons_zero,List.getD_cons_succ,PK.sem,PK.move,kIs,kRr]; intro hA hB; intro K hK; simp only [putE,retOf,hA,hB]
       go_simp
       refine (HJN.out _ (bW.trans hC.below)).mono ?_; rintro e w2 ⟨A2,k2,c2,rfl,h1,h2⟩
       go_simp
       exact hK _ _ h2 ⟨A2,k2,c2,rfl,h1⟩
     refine aa rfl rfl ?_ ?_
     · intro wr x hC; simp only [deps,at_,List.getD_cons_zero,List.getD_cons_succ,PK.sem,PK.move,kIs]; intro K hK; simp only [putE,retOf]
       go_simp
       exact hK _ _ (Below.refl _ _) rfl
     refine aa rfl rfl ?_ ?_
     · intro wr x hC; simp only [deps,at_,List.getD_cons_zero,List.getD_cons_succ,PK.sem,PK.move,kIs]; intro h0; intro K hK; have hce1:=(hC.cell (b:=w.heap.size) (by omega) (show _ ∉ ([(w.heap.size + 1 + 1)] : List Nat) by simp <;> omega) 1).1.trans p2; simp only [putE,retOf,h0]
       go_simp
       exact hK _ _ (Below.refl _ _) rfl
     refine aa rfl rfl ?_ ?_
     · intro wr x hC; simp only [deps,at_,List.getD_cons_zero,List.getD_cons_succ,PK.sem,PK.move,kIs,kNum,kRr]; intro hA hB; intro K hK; obtain ⟨A,k,c,hA,hr1⟩:=hA; simp only [putE,retOf,hA,hB]
       go_simp
       refine (signed_s b1 hr1).mono ?_; rintro e w2 ⟨A2,k2,c2,rfl,h1,h2,h3⟩
       go_simp
       exact hK _ _ h3 ⟨A2,k2,c2,rfl,h1,h2⟩
     refine aa rfl rfl ?_ ?_
     · intro wr x hC; simp only [deps,at_,List.getD_cons_zero,List.getD_cons_succ,PK.sem,PK.move,kCellNum,kNum]; intro hA; intro K hK; obtain ⟨A,k,c,hx,hr1,hr2⟩:=hA; obtain ⟨u0,v0,hg⟩:=hC.two (show _ ∈ ([(w.heap.size + 1 + 1)] : List Nat) by simp) J2; obtain ⟨m1,m2,m3,m4⟩:=hg.two; simp only [putE,retOf,hx]
       go_simp
       exact hK _ _ (stored_put2 hg (noDig_slice _ _ _) (noDig_bool _)) ⟨_,aj hg (noDig_slice _ _ _) (noDig_bool _),A,k,c,rfl,(stored_put2 hg (noDig_slice _ _ _) (noDig_bool _)).rr hr1,hr2⟩
     exact ai rfl
   case en =>
     intro wr x hC hall; have hE:=hall 8 (of_decide_eq_true (by kernel_rfl)); clear hall; simp only [at_,List.getD_cons_zero,List.getD_cons_succ,PK.sem,kCellNum] at hE; obtain ⟨_,e4,A4,k4,c4,rfl,r4,z4⟩:=hE; have hbw:=bW.trans hC.below; obtain ⟨i1,i2,_,_⟩:=e4.two; simp only [putE]; clear hC e4
     go_wp2
     refine bodyPost_ret (v:=.agg #[.slice A4 k4 c4,.bool (sgn (n1 + n2) b1)]) (by simp [results,Tryz.results98,go_sem,i1,i2]) rfl ?_; exact ⟨A4,k4,c4,rfl,r4,z4,hbw⟩
 · have hb1 : (b1 == b2) = false:=by simpa using he
   have eQ : Q = gapOf n1 n2:=by rw [HQ.out]; exact if_neg (by simpa using he)
   have eS : sq = sgn (gapOf n1 n2) (b1 != decide (n1 < n2)):=by rw [HSQ.out]; exact if_neg (by simpa using he)
   obtain ⟨tu,htu⟩ : ∃ t,t = decide (n1 < n2):=⟨_,rfl⟩
   rw [← htu] at eS HAP; clear HQ HSQ HJN he htu; subst eQ
   obtain ⟨G,hG⟩ : ∃ G,G = gapOf n1 n2:=⟨_,rfl⟩
   rw [← hG] at eS HAP ⊢; subst eS; clear hG
   go_enter Tryz.func98,Tryz.ntmps98
   go_wp2_with fail
   obtain ⟨W,hW⟩ : ∃ W,W = ((w.alloc (Obj.cells #[Value.slice A1 k1 c1,Value.bool b1] 91)).alloc (Obj.cells #[Value.slice A2 k2 c2,Value.bool b2] 91)).alloc (Obj.cells #[Value.slice none 0 0,Value.bool false] 91):=⟨_,rfl⟩
   obtain ⟨bW,sW,K0,K1,K2⟩:=fk hW; rw [← hW]; clear hW; refine (HAP.out _ bW).mono ?_; rintro e w1 ⟨A,k,c,rfl,hr,hb⟩; have hz:=hb.size; obtain ⟨p1,p2,_,_⟩:=cell_of_two ((hb.block w.heap.size (by omega)).trans K0); have K2:=(hb.block (w.heap.size + 1 + 1) (by omega)).trans K2; have bw1:=bstep bW hb; have HSG:=Lib.hid (signed_s (b1 != tu) hr); clear hb bW K0 K1 hr HAP
   go_wp2_with fail
   refine HSG.out.mono ?_; rintro e w2 ⟨A3,k3,c3,rfl,h3,z3,hb⟩; have K3:=(hb.block (w.heap.size + 1 + 1) (by omega)).trans K2; have bw2:=bstep bw1 hb; obtain ⟨m1,m2,m3,m4⟩:=cell_of_two K3; obtain ⟨i1,i2,i3⟩:=ar (a':=.slice A3 k3 c3) (b':=.bool (sgn G (b1 != tu))) K3 (fun d h=>by cases h) (fun d h=>by cases h) h3; clear hb K3 K2 bw1 HSG
   go_wp2
   refine bodyPost_ret (v:=.agg #[.slice A3 k3 c3,.bool (sgn G (b1 != tu))]) (by simp [results,Tryz.results98,go_sem,i1,i2]) rfl ?_; exact ⟨A3,k3,c3,rfl,i3,z3,(bw2.setCell (by show w.heap.size ≤ w.heap.size + 1 + 1; omega) _).setCell (by show w.heap.size ≤ w.heap.size + 1 + 1; omega) _⟩
theorem scaled_any {w : World} {A1 A2 : Option Addr} {k1 c1 k2 c2 n1 n2 N : Nat} (h1 : Rd w (.slice A1 k1 c1) n1) (h2 : Rd w (.slice A2 k2 c2) n2) (hn1 : n1 < 1000000000 ^ N) (hn : n1 * n2 < 1000000000 ^ N) (hN : N ≤ 4000) (hN0 : 0 < N) :
   Calls Tryz.prog 134 #[.slice A1 k1 c1,.slice A2 k2 c2] w (RetR w (n1 * n2)):=by
 have ha:=val_mul2 h1 h2 hn1 hn hN hN0
 have HA:=Lib.hid ha
 clear ha h1 h2 hn hn1
 go_enter Tryz.func134,Tryz.ntmps134
 go_wp2_with fail
 refine HA.out.mono ?_
 rintro e w1 ⟨A,k,c,rfl,hr,hb⟩
 have hb1:=bstep (bal (Below.refl w.heap.size w) _) hb
 clear hb
 go_wp2
 go_ret
 exact ⟨A,k,c,rfl,hr,hb1⟩
theorem times_num {w : World} {A1 A2 : Option Addr} {k1 c1 k2 c2 n1 n2 N : Nat} (b1 b2 : Bool) (h1 : Rr w (.slice A1 k1 c1) n1) (h2 : Rr w (.slice A2 k2 c2) n2) (hn1 : n1 < 1000000000 ^ N) (hn : n1 * n2 < 1000000000 ^ N) (hN : N ≤ 4000) (hN0 : 0 < N) :
   Calls Tryz.prog 104 #[.agg #[.slice A1 k1 c1,.bool b1],.agg #[.slice A2 k2 c2,.bool b2]] w (RetNumB2 w (n1 * n2) (sgn (n1 * n2) (b1 != b2))):=by
 have hjn:=fun (W : World) (hW : Below w.heap.size w W)=>scaled_any (h1.below hW).rd (h2.below hW).rd hn1 hn hN hN0
 have HJN:=Lib.hid hjn
 clear hjn h1 h2 hn hN hn1 hN0
 obtain ⟨sx,hsx⟩ : ∃ s,s = (b1 != b2):=⟨_,rfl⟩
 rw [← hsx]
 have HSX:=Lib.hid hsx
 clear hsx
 go_enter Tryz.func104,Tryz.ntmps104
 go_wp2_with fail
 obtain ⟨W,hW⟩ : ∃ W,W = ((w.alloc (Obj.cells #[Value.slice A1 k1 c1,Value.bool b1] 91)).alloc (Obj.cells #[Value.slice A2 k2 c2,Value.bool b2] 91)).alloc (Obj.cells #[Value.slice none 0 0,Value.bool false] 91):=⟨_,rfl⟩
 obtain ⟨bW,sW,K0,K1,K2⟩:=fk hW
 rw [← hW]
 clear hW
 obtain ⟨p1,p2,_,_⟩:=cell_of_two K0
 obtain ⟨q1,q2,_,_⟩:=cell_of_two K1
 go_simp
 have J2 : Holds_ W (w.heap.size + 1 + 1) #[Value.slice none 0 0,Value.bool false]:=⟨⟨_,K2⟩,by simp [noDig]⟩
 clear K0 K1 K2
 refine am (w.heap.size) [kIs (.pointer (some ⟨w.heap.size,0,none⟩)),kIs (.slice A1 k1 c1),kIs (.pointer (some ⟨w.heap.size + 1,0,none⟩)),kIs (.slice A2 k2 c2),kRr (n1 * n2),kIs (.pointer (some ⟨w.heap.size,1,none⟩)),kIs (.bool b1),kIs (.pointer (some ⟨w.heap.size + 1,1,none⟩)),kIs (.bool b2),kIs (.bool sx),kNum (n1 * n2) (sgn (n1 * n2) sx),kCellNum (w.heap.size + 1 + 1) (n1 * n2) (sgn (n1 * n2) sx)] [ [],[(0,some 5)],[],[(2,some 7)],[(1,some 6),(3,some 8)],[],[(5,some 10)],[],[(7,some 12)],[(6,some 11),(8,some 13)],[(4,some 9),(9,some 14)],[(10,some 15)] ] [(0,some 5),(1,some 6),(2,some 7),(3,some 8),(4,some 9),(5,some 10),(6,some 11),(7,some 12),(8,some 13),(9,some 14),(10,some 15),(11,none)] [] [] ?n1 ?n2 ?n3 ?n4 ?st ?en
 case n1=>show List.Nodup ([(w.heap.size + 1 + 1)] : List Nat); simp
 case n2=>show ∀ g ∈ ([(w.heap.size + 1 + 1)] : List Nat),_; intro g hg; simp only [List.mem_cons,List.not_mem_nil,or_false] at hg; omega
 case n3=>omega
 case n4 =>
   show ∀ g ∈ ([(w.heap.size + 1 + 1)] : List Nat),∃ cs,Holds_ _ g cs
   intro g hg; simp only [List.mem_cons,List.not_mem_nil,or_false] at hg; rcases hg with rfl
   · exact ⟨_,J2⟩
 case st =>
   refine aa rfl rfl ?_ ?_
   · intro wr x hC; simp only [deps,at_,List.getD_cons_zero,PK.sem,PK.move,kIs]; intro K hK; simp only [putE,retOf]
     go_simp
     exact hK _ _ (Below.refl _ _) rfl
   refine aa rfl rfl ?_ ?_
   · intro wr x hC; simp only [deps,at_,List.getD_cons_zero,List.getD_cons_succ,PK.sem,PK.move,kIs]; intro h0; intro K hK; have hce0:=(hC.cell (b:=w.heap.size) (by omega) (show _ ∉ ([(w.heap.size + 1 + 1)] : List Nat) by simp <;> omega) 0).1.trans p1; simp only [putE,retOf,h0]
     go_simp
     exact hK _ _ (Below.refl _ _) rfl
   refine aa rfl rfl ?_ ?_
   · intro wr x hC; simp only [deps,at_,List.getD_cons_zero,List.getD_cons_succ,PK.sem,PK.move,kIs]; intro K hK; simp only [putE,retOf]
     go_simp
     exact hK _ _ (Below.refl _ _) rfl
   refine aa rfl rfl ?_ ?_
   · intro wr x hC; simp only [deps,at_,List.getD_cons_zero,List.getD_cons_succ,PK.sem,PK.move,kIs]; intro h0; intro K hK; have hce0:=(hC.cell (b:=w.heap.size + 1) (by omega) (show _ ∉ ([(w.heap.size + 1 + 1)] : List Nat) by simp <;> omega) 0).1.trans q1; simp only [putE,retOf,h0]
     go_simp
     exact hK _ _ (Below.refl _ _) rfl
   refine aa rfl rfl ?_ ?_
   · intro wr x hC; simp only [deps,at_,List.getD_cons_zero,List.getD_cons_succ,PK.sem,PK.move,kIs,kRr]; intro hA hB; intro K hK; simp only [putE,retOf,hA,hB]
     go_simp
     refine (HJN.out _ (bW.trans hC.below)).mono ?_; rintro e w2 ⟨A2,k2,c2,rfl,h1,h2⟩
     go_simp
     exact hK _ _ h2 ⟨A2,k2,c2,rfl,h1⟩
   refine aa rfl rfl ?_ ?_
   · intro wr x hC; simp only [deps,at_,List.getD_cons_zero,List.getD_cons_succ,PK.sem,PK.move,kIs]; intro K hK; simp only [putE,retOf]
     go_simp
     exact hK _ _ (Below.refl _ _) rfl
   refine aa rfl rfl ?_ ?_
   · intro wr x hC; simp only [deps,at_,List.getD_cons_zero,List.getD_cons_succ,PK.sem,PK.move,kIs]; intro h0; intro K hK; have hce1:=(hC.cell (b:=w.heap.size) (by omega) (show _ ∉ ([(w.heap.size + 1 + 1)] : List Nat) by simp <;> omega) 1).1.trans p2; simp only [putE,retOf,h0]
     go_simp
     exact hK _ _ (Below.refl _ _) rfl
   refine aa rfl rfl ?_ ?_
   · intro wr x hC; simp only [deps,at_,List.getD_cons_zero,List.getD_cons_succ,PK.sem,PK.move,kIs]; intro K hK; simp only [putE,retOf]
     go_simp
     exact hK _ _ (Below.refl _ _) rfl
   refine aa rfl rfl ?_ ?_
   · intro wr x hC; simp only [deps,at_,List.getD_cons_zero,List.getD_cons_succ,PK.sem,PK.move,kIs]; intro h0; intro K hK; have hce1:=(hC.cell (b:=w.heap.size + 1) (by omega) (show _ ∉ ([(w.heap.size + 1 + 1)] : List Nat) by simp <;> omega) 1).1.trans q2; simp only [putE,retOf,h0]
     go_simp
     exact hK _ _ (Below.refl _ _) rfl
   refine aa rfl rfl ?_ ?_
   · intro wr x hC; simp only [deps,at_,List.getD_cons_zero,List.getD_cons_succ,PK.sem,PK.move,kIs]; intro hA hB; intro K hK; simp only [putE,retOf,hA,hB]
     go_simp
     exact hK _ _ (Below.refl _ _) (by rw [HSX.out]; rfl)
   refine aa rfl rfl ?_ ?_
   · intro wr x hC; simp only [deps,at_,List.getD_cons_zero,List.getD_cons_succ,PK.sem,PK.move,kIs,kNum,kRr]; intro hA hB; intro K hK; obtain ⟨A,k,c,hA,hr1⟩:=hA; simp only [putE,retOf,hA,hB]
     go_simp
     refine (signed_s sx hr1).mono ?_; rintro e w2 ⟨A2,k2,c2,rfl,h1,h2,h3⟩
     go_simp
     exact hK _ _ h3 ⟨A2,k2,c2,rfl,h1,h2⟩
   refine aa rfl rfl ?_ ?_
   · intro wr x hC; simp only [deps,at_,List.getD_cons_zero,List.getD_cons_succ,PK.sem,PK.move,kCellNum,kNum]; intro hA; intro K hK; obtain ⟨A,k,c,hx,hr1,hr2⟩:=hA; obtain ⟨u0,v0,hg⟩:=hC.two (show _ ∈ ([(w.heap.size + 1 + 1)] : List Nat) by simp) J2; obtain ⟨m1,m2,m3,m4⟩:=hg.two; simp only [putE,retOf,hx]
     go_simp
     exact hK _ _ (stored_put2 hg (noDig_slice _ _ _) (noDig_bool _)) ⟨_,aj hg (noDig_slice _ _ _) (noDig_bool _),A,k,c,rfl,(stored_put2 hg (noDig_slice _ _ _) (noDig_bool _)).rr hr1,hr2⟩
   exact ai rfl
 case en =>
   intro wr x hC hall; have hE:=hall 11 (of_decide_eq_true (by kernel_rfl)); clear hall; simp only [at_,List.getD_cons_zero,List.getD_cons_succ,PK.sem,kCellNum] at hE; obtain ⟨_,e4,A4,k4,c4,rfl,r4,z4⟩:=hE; have hbw:=bW.trans hC.below; obtain ⟨i1,i2,_,_⟩:=e4.two; simp only [putE]; clear hC e4
   go_wp2
   refine bodyPost_ret (v:=.agg #[.slice A4 k4 c4,.bool (sgn (n1 * n2) sx)]) (by simp [results,Tryz.results104,go_sem,i1,i2]) rfl ?_; exact ⟨A4,k4,c4,rfl,r4,z4,hbw⟩
theorem ci (n : Nat) (b : Bool) : (zOf n b).natAbs = n:=by
 unfold zOf; split <;> omega
theorem gg (n : Nat) (b : Bool) : decide (zOf n b < 0) = sgn n b:=by
 unfold zOf sgn
 cases b
 · rw [if_neg (by decide),Bool.false_and,decide_eq_false_iff_not]; omega
 · rw [if_pos rfl,Bool.true_and,decide_eq_decide]; omega
theorem zOf_of (z : Int) : zOf z.natAbs (decide (z < 0)) = z:=by
 unfold zOf
 by_cases h : z < 0
 · rw [if_pos (decide_eq_true h)]; omega
 · rw [if_neg (by simpa using h)]; omega
theorem abs_zero {z : Int} (h : z.natAbs = 0) : decide (z < 0) = false:=by
 rw [decide_eq_false_iff_not]; omega
theorem addN_z (x y : Int) : addN x.natAbs (decide (x < 0)) y.natAbs (decide (y < 0)) = (x + y).natAbs ∧ addB x.natAbs (decide (x < 0)) y.natAbs (decide (y < 0)) = decide (x + y < 0):=by
 unfold addN addB gapOf sgn
 by_cases h1 : x < 0 <;> by_cases h2 : y < 0
 · simp only [decide_eq_true h1,decide_eq_true h2,beq_self_eq_true,if_true]; exact ⟨by omega,by rw [Bool.true_and,decide_eq_decide]; omega⟩
 · simp only [decide_eq_true h1,decide_eq_false h2,Bool.true_eq_false,beq_iff_eq,if_false]; refine ⟨by split <;> omega,?_⟩
   by_cases h3 : x.natAbs < y.natAbs
   · rw [decide_eq_true h3,if_neg (by omega),bne_self_eq_false,Bool.false_and,eq_comm,decide_eq_false_iff_not]; omega
   · rw [decide_eq_false h3,if_pos (by omega)]
     show (true && _) = _
     rw [Bool.true_and,decide_eq_decide]; omega
 · simp only [decide_eq_false h1,decide_eq_true h2,Bool.false_eq_true,beq_iff_eq,if_false]; refine ⟨by split <;> omega,?_⟩
   by_cases h3 : x.natAbs < y.natAbs
   · rw [decide_eq_true h3,if_neg (by omega)]
     show (true && _) = _
     rw [Bool.true_and,decide_eq_decide]; omega
   · rw [decide_eq_false h3,if_pos (by omega),bne_self_eq_false,Bool.false_and,eq_comm,decide_eq_false_iff_not]; omega
 · simp only [decide_eq_false h1,decide_eq_false h2,beq_self_eq_true,if_true]; exact ⟨by omega,by rw [Bool.false_and,eq_comm,decide_eq_false_iff_not]; omega⟩
theorem mulB_z (x y : Int) : sgn (x.natAbs * y.natAbs) (decide (x < 0) != decide (y < 0)) = decide (x * y < 0):=by
 rw [← Int.natAbs_mul]
 have hp : ∀ a b : Int,0 ≤ a → 0 ≤ b → decide (a * b < 0) = false:=fun a b ha hb=>by
   rw [decide_eq_false_iff_not]; have:=Int.mul_nonneg ha hb; omega
 have hm : ∀ a b : Int,a < 0 → 0 ≤ b → (decide ((a * b).natAbs ≠ 0)) = decide (a * b < 0):=fun a b ha hb=>by
   rw [decide_eq_decide]; have : 0 ≤ (-a) * b:=Int.mul_nonneg (by omega) hb; rw [Int.neg_mul] at this; omega
 unfold sgn
 by_cases h1 : x < 0 <;> by_cases h2 : y < 0
 · rw [decide_eq_true h1,decide_eq_true h2,bne_self_eq_false,Bool.false_and]; have:=hp (-x) (-y) (by omega) (by omega); rw [Int.neg_mul_neg] at this; exact this.symm
 · rw [decide_eq_true h1,decide_eq_false h2]
   show (true && _) = _
   rw [Bool.true_and]; exact hm x y h1 (by omega)
 · rw [decide_eq_false h1,decide_eq_true h2]
   show (true && _) = _
   rw [Bool.true_and,Int.mul_comm]; exact hm y x h2 (by omega)
 · rw [decide_eq_false h1,decide_eq_false h2,bne_self_eq_false,Bool.false_and]; exact (hp x y (by omega) (by omega)).symm
def RetZ (w : World) (z : Int) (e : Ending) (w' : World) : Prop:=∃ A k c,e = .returned (.agg #[.slice A k c,.bool (decide (z < 0))]) ∧ Rr w' (.slice A k c) z.natAbs ∧ Below w.heap.size w w'
theorem plus_z {w : World} {A1 A2 : Option Addr} {k1 c1 k2 c2 N : Nat} {z2 z1 : Int} (hB : z2.natAbs + z1.natAbs < 1000000000 ^ N) (hN : N ≤ 4000) (h2 : Rr w (.slice A2 k2 c2) z2.natAbs) (h1 : Rr w (.slice A1 k1 c1) z1.natAbs) :
   Calls Tryz.prog 98 #[.agg #[.slice A2 k2 c2,.bool (decide (z2 < 0))],.agg #[.slice A1 k1 c1,.bool (decide (z1 < 0))]] w (RetZ w (z2 + z1)):=by
 have h:=plus_num (decide (z2 < 0)) (decide (z1 < 0)) h2 h1 hB hN
 rw [(addN_z z2 z1).1,(addN_z z2 z1).2] at h
 exact h.mono fun _ _ ⟨A,k,c,e,hr,_,hb⟩=>⟨A,k,c,e,hr,hb⟩
theorem times_z {w : World} {A1 A2 : Option Addr} {k1 c1 k2 c2 N : Nat} {z2 z1 : Int} (hB : z2.natAbs < 1000000000 ^ N) (hB2 : z2.natAbs * z1.natAbs < 1000000000 ^ N) (hN : N ≤ 4000) (hN0 : 0 < N) (h2 : Rr w (.slice A2 k2 c2) z2.natAbs) (h1 : Rr w (.slice A1 k1 c1) z1.natAbs) :
   Calls Tryz.prog 104 #[.agg #[.slice A2 k2 c2,.bool (decide (z2 < 0))],.agg #[.slice A1 k1 c1,.bool (decide (z1 < 0))]] w (RetZ w (z2 * z1)):=by
 have h:=times_num (decide (z2 < 0)) (decide (z1 < 0)) h2 h1 hB hB2 hN hN0
 rw [mulB_z,← Int.natAbs_mul] at h
 exact h.mono fun _ _ ⟨A,k,c,e,hr,_,hb⟩=>⟨A,k,c,e,hr,hb⟩
def addBound (N : Nat) (z2 z1 : Int) : Prop:=z2.natAbs + z1.natAbs < 1000000000 ^ N
def zadd (L : List (Nat × Bool)) : Int:=L.foldl (fun s p=>(fun s x : Int=>s + x) s (zOf p.1 p.2)) 0
theorem zadd_succ {L : List (Nat × Bool)} {k : Nat} (hk : k < L.length) : zadd (L.take (k + 1)) = (fun s x : Int=>s + x) (zadd (L.take k)) (zOf L[k].1 L[k].2):=by
 unfold zadd
 rw [List.take_add_one,List.getElem?_eq_getElem hk,Option.toList_some,List.foldl_append]; rfl
theorem addStep {w : World} {g : Nat} {A1 A2 : Option Addr} {k1 c1 k2 c2 N : Nat} {z2 z1 : Int} {T : TypeId} (h1 : Rr w (.slice A1 k1 c1) z1.natAbs) (hg : w.heap[g]? = some (.cells #[.slice A2 k2 c2,.bool (decide (z2 < 0))] T (0,0))) (h2 : Rr w (.slice A2 k2 c2) z2.natAbs) (hB : addBound N z2 z1) (hN : N ≤ 4000) :
   Calls Tryz.prog 97 #[.agg #[.slice A1 k1 c1,.bool (decide (z1 < 0))],.pointer (some ⟨g,0,none⟩)] w fun e w'=>(∃ v,e = .returned v) ∧ ∃ A k c w2 s,Rr w2 (.slice A k c) ((fun s x : Int=>s + x) z2 z1).natAbs ∧ Below w.heap.size w w2 ∧ s = decide ((fun s x : Int=>s + x) z2 z1 < 0) ∧ w' = put2 w2 g (.slice A k c) (.bool s):=by
 have hcm:=fun (W : World) (hW : Below w.heap.size w W)=>plus_z hB hN (h2.below hW) (h1.below hW)
 have hlt:=lt_block hg
 obtain ⟨q1,q2,q3,q4⟩:=cell_of_two hg
 have HG:=Lib.hid hg
 have HCM:=Lib.hid hcm
 obtain ⟨s1,hs1⟩ : ∃ s,s = decide (z1 < 0):=⟨_,rfl⟩
 obtain ⟨s2,hs2⟩ : ∃ s,s = decide (z2 < 0):=⟨_,rfl⟩
 obtain ⟨z,hz⟩ : ∃ z,z = (fun s x : Int=>s + x) z2 z1:=⟨_,rfl⟩
 have hz' : (fun s x : Int=>s + x) z2 z1 = z:=hz.symm
 simp only [] at hz'
 rw [← hs1,← hs2,hz'] at HCM
 rw [← hs2] at q2 HG
 rw [← hs1,← hz]
 obtain ⟨s,hs⟩ : ∃ s,s = decide (z < 0):=⟨_,rfl⟩
 unfold RetZ at HCM
 rw [← hs] at HCM
 have HS:=Lib.hid hs
 clear hcm h1 h2 hg hB hN hs1 hs2 hz hz' hs
 go_enter Tryz.func97,Tryz.ntmps97
 go_wp2_with fail
 refine (HCM.out _ (bal (Below.refl _ _) _)).mono ?_
 rintro e w2 ⟨A,k,c,rfl,hr,hb⟩
 have hb:=bstep (bal (Below.refl _ _) _) hb
 have hg2:=(hb.block g hlt).trans HG.out
 obtain ⟨m1,m2,m3,m4⟩:=cell_of_two hg2
 clear hg2
 go_wp2
 go_end0
 exact ⟨⟨_,rfl⟩,A,k,c,w2,s,hr,hb,HS.out,rfl⟩
theorem each_add {w0 w : World} {g g0 N c0 : Nat} {A : Option Addr} {k c : Nat} {T : TypeId} {L : List (Nat × Bool)} (hL : Ints w0 g0 L) (hb0 : Below w0.heap.size w0 w) (hlt : w0.heap.size ≤ g) (hg : w.heap[g]? = some (.cells #[.slice A k c,.bool (decide ((0 : Int) < 0))] T (0,0))) (h : Rr w (.slice A k c) (0 : Int).natAbs) (hLn : ∀ p ∈ L,p.1 < 1000000000 ^ N) (hB : ∀ k (hk : k < L.length),addBound N (zadd (L.take k)) (zOf L[k].1 L[k].2)) (hN : N ≤ 4000) (hlen : L.length ≤ 100000) :
   Calls Tryz.prog 96 #[.func (.func 97) #[] #[.pointer (some ⟨g,0,none⟩)],.slice (some ⟨g0,0,none⟩) L.length c0] w fun e w'=>(∃ v,e = .returned v) ∧ ∃ A k c,w'.heap[g]? = some (.cells #[.slice A k c,.bool (decide (zadd L < 0))] T (0,0)) ∧ Rr w' (.slice A k c) (zadd L).natAbs ∧ Below w0.heap.size w0 w' ∧ w.heap.size ≤ w'.heap.size:=by
 have HL:=Lib.hid hL
 have HB:=Lib.hid (show (∀ p ∈ L,p.1 < 1000000000 ^ N) ∧ N ≤ 4000 from ⟨hLn,hN⟩)
 have HBB:=Lib.hid hB
 have HG:=Lib.hid hg
 have HH:=Lib.hid h
 have HB0:=Lib.hid hb0
 obtain ⟨l,hl⟩ : ∃ l,l = L.length:=⟨_,rfl⟩
 rw [← hl] at hlen ⊢
 have HLL:=Lib.hid hl
 clear hL hLn hN hg h hb0 hl hB
 go_enter Tryz.func96,Tryz.ntmps96
 go_wp2_with fail
 go_loopw [8] (fun i wr=>∃ (k' : Nat) (A' : Option Addr) (j d : Nat),k' ≤ l ∧ i = .int .i64 k' ∧ Hid (wr.heap[g]? = some (.cells #[.slice A' j d,.bool (decide (zadd (L.take k') < 0))] T (0,0))) ∧ Hid (Rr wr (.slice A' j d) (zadd (L.take k')).natAbs) ∧ Hid (Below w0.heap.size w0 wr) ∧ w.heap.size ≤ wr.heap.size) (fun i _=>l - (intOf i).toNat)
 case atStart=>exact ⟨0,_,_,_,Nat.zero_le _,rfl,HG,HH,HB0,Nat.le_refl _⟩
 case round =>
   obtain ⟨k',A',j,d,hk,rfl,HG1,HR1,HB1,hsz⟩:=hrel
   by_cases hlt2 : k' < l
   · have hkL : k' < L.length:=by rw [← HLL.out]; exact hlt2
     have hbd:=HBB.out k' hkL; have hGS:=zadd_succ hkL
     obtain ⟨⟨n1,b1⟩,hp⟩ : ∃ p,p = L[k']:=⟨_,rfl⟩
     obtain ⟨B,m,e,hc1,hc2,hrd⟩:=(HL.out.below HB1.out) k' (n1,b1) (by rw [List.getElem?_eq_getElem hkL,hp]); have hc1 : wr.cell? ⟨g0,k' * 2,none⟩ = some (.bool b1):=hc1; have hrd : Rd wr (.slice B m e) n1:=hrd; rw [← hp] at hbd hGS; have HRD:=Lib.hid hrd; have HGS:=Lib.hid hGS; have HBD:=Lib.hid hbd; have HPL:=Lib.hid (hp ▸ List.getElem_mem hkL : (n1,b1) ∈ L); clear hp hrd hGS hbd
     go_wp2_with fail
     refine (numOf_any b1 (HRD.out.below (bal (Below.refl _ _) _)) (HB.out.1 _ HPL.out) HB.out.2).mono ?_; rintro e w2 ⟨A3,k3,c3,rfl,hr3,_,hb3⟩; have hb30:=bstep (bal (Below.refl _ _) _) hb3; have hgr:=lt_block HG1.out; have hg3:=(hb30.block g hgr).trans HG1.out; have hz3:=hb30.size; have HB3:=Lib.hid (bstep HB1.out hb30); clear hb3; have e1:=gg n1 b1; have e2:=ci n1 b1; rw [← e2] at hr3; have hst:=addStep hr3 hg3 (HR1.out.below hb30) HBD.out HB.out.2; rw [e1] at hst; have HST:=Lib.hid hst; have HG3:=Lib.hid hg3; clear hst hg3 hr3 hb30 e1 e2
     go_wp2_with fail
     refine HST.out.mono ?_; rintro e w3 ⟨⟨v,rfl⟩,A4,k4,c4,w4,s4,hr4,hb4,hs4,rfl⟩; have hgs : zadd (L.take k') + zOf n1 b1 = zadd (L.take (k' + 1)):=HGS.out.symm; replace hr4 : Rr w4 (.slice A4 k4 c4) (zadd (L.take (k' + 1))).natAbs:=by rw [← hgs]; exact hr4
     replace hs4 : s4 = decide (zadd (L.take (k' + 1)) < 0):=hs4.trans (congrArg (fun z : Int=>decide (z < 0)) hgs)
     have hg4 : Holds_ w4 g #[.slice A' j d,.bool (decide (zadd (L.take k') < 0))]:=⟨⟨T,(hb4.block g (by omega)).trans HG3.out⟩,fun y hy=>by
       rcases List.mem_cons.1 (by simpa using hy : y ∈ [.slice A' j d,.bool (decide (zadd (L.take k') < 0))]) with rfl | hy
       · exact noDig_slice _ _ _
       · rw [List.mem_singleton.1 hy]; exact noDig_bool _⟩
     have hst4:=stored_put2 hg4 (noDig_slice A4 k4 c4) (noDig_bool s4); have hg5:=fw (u:=.bool s4) (set_two0 (u:=.slice A4 k4 c4) ((hb4.block g (by omega)).trans HG3.out)); have HG4 : Hid ((put2 w4 g (.slice A4 k4 c4) (.bool s4)).heap[g]? = some (.cells #[.slice A4 k4 c4,.bool (decide (zadd (L.take (k' + 1)) < 0))] T (0,0))):=by rw [← hs4]; exact hg5
     have HR4:=Lib.hid (hst4.rr hr4); have HB4:=Lib.hid (hst4.below (bstep HB3.out hb4) hlt); have hz4:=hb4.size; have hz5 : w.heap.size ≤ (put2 w4 g (.slice A4 k4 c4) (.bool s4)).heap.size:=by rw [hst4.size]; omega
     clear hb4 hg4 hr4 HST HG3 hst4 hgs hs4 hg5
     go_wp2
     go_roundw
     case rel=>exact ⟨k' + 1,_,_,_,by omega,by go_num,HG4,HR4,HB4,hz5⟩
     case measure=>simp [intOf]; omega
   · have hk' : k' = l:=by omega
     have HK:=Lib.hid hk'; clear hk'
     go_wp2
     go_end0
     have et : L.take k' = L:=by rw [HK.out,HLL.out,List.take_length]
     exact ⟨⟨_,rfl⟩,A',j,d,by rw [← et]; exact HG1.out,by rw [← et]; exact HR1.out,HB1.out,hsz⟩
theorem add_int {w : World} {g0 c0 N : Nat} {L : List (Nat × Bool)} (hL : Ints w g0 L) (hLn : ∀ p ∈ L,p.1 < 1000000000 ^ N) (hB : ∀ k (hk : k < L.length),addBound N (zadd (L.take k)) (zOf L[k].1 L[k].2)) (hN : N ≤ 4000) (hlen : L.length ≤ 100000) :
   Calls Tryz.prog 47 #[.slice (some ⟨g0,0,none⟩) L.length c0] w (RetInt w (zadd L).natAbs (decide (zadd L < 0))):=by
 have hmf : ∀ (fn : Fn) (first cap : Array Value) (w : World),(Instr.makeFunc fn first cap).run Tryz.prog w = .ok (.func fn first cap) w:=fun _ _ _ _=>rfl
 obtain ⟨w1,hw1⟩ : ∃ w1,w1 = w.alloc (Obj.cells #[Value.bool false,Value.slice none 0 0] 24):=⟨_,rfl⟩
 have b1 : Below w.heap.size w w1:=by rw [hw1]; exact bal (Below.refl _ _) _
 have s1 : w1.heap.size = w.heap.size + 1:=by rw [hw1]; simp
 have K1 : w1.heap[w.heap.size]? = some (Obj.cells #[Value.bool false,Value.slice none 0 0] 24):=by rw [hw1]; exact heap_alloc_new _ _
 have e0 : decide ((0 : Int) < 0) = false:=by decide
 have e1 : (0 : Int).natAbs = 0:=rfl
 have hea:=fun (W : World) (hb : Below w1.heap.size w1 W) (A : Option Addr) (k c g : Nat) (hg1 : w1.heap.size ≤ g) (hg : W.heap[g]? = some (.cells #[.slice A k c,.bool false] 91 (0,0))) (h : Rr W (.slice A k c) 0)=>each_add (c0:=c0) (hL.below b1) hb hg1 (by rw [e0]; exact hg) (by rw [e1]; exact h) hLn hB hN hlen
 obtain ⟨l,hl⟩ : ∃ l,l = L.length:=⟨_,rfl⟩
 rw [← hl] at hea ⊢
 obtain ⟨z,hz⟩ : ∃ z,z = zadd L:=⟨_,rfl⟩
 rw [← hz] at hea ⊢
 obtain ⟨s,hs⟩ : ∃ s,s = decide (z < 0):=⟨_,rfl⟩
 have hzs : z.natAbs = 0 → s = false:=fun h=>by rw [hs]; exact abs_zero h
 rw [← hs] at hea ⊢
 obtain ⟨m,hm⟩ : ∃ m,m = z.natAbs:=⟨_,rfl⟩
 rw [← hm] at hea hzs ⊢
 clear hl hlen hz hs hm
 have HEA:=Lib.hid hea
 have HW1:=Lib.hid hw1
 have HK1:=Lib.hid K1
 have HZS:=Lib.hid hzs
 clear hea hL hLn hN hB hw1 K1 hzs e0 e1
 go_enter Tryz.func47,Tryz.ntmps47
 go_wp2_with fail
 rw [← HW1.out]
 refine (HEA.out _ (bal (Below.refl _ _) (Obj.cells #[Value.slice none 0 0,Value.bool false] 91)) none 0 0 (w.heap.size + 1) (Nat.le_of_eq s1) (by rw [← s1]; exact heap_alloc_new _ _) (rr_nil _)).mono ?_
 rintro e w2 ⟨⟨v,rfl⟩,A,k,c,hg,hr,hb,_⟩
 have K2:=(hb.block w.heap.size (by omega)).trans HK1.out
 obtain ⟨q1,q2,_,_⟩:=cell_of_two hg
 have bw2:=b1.trans (hb.mono (by omega))
 have hz:=hb.size
 have HK2:=Lib.hid K2
 have HT:=Lib.hid (told_any hr HZS.out)
 clear hb hg HK1 K2 hr
 go_wp2_with fail
 refine HT.out.mono ?_
 rintro e w4 ⟨A4,k4,c4,rfl,h4,z4,hb4⟩
 have K4:=(hb4.block w.heap.size (by omega)).trans HK2.out
 have bw4:=bstep bw2 hb4
 obtain ⟨m1,m2,m3,m4⟩:=cell_of_two K4
 obtain ⟨n1,n2,n3⟩:=ar (a':=.bool s) (b':=.slice A4 k4 c4) K4 (fun d h=>by cases h) (fun d h=>by cases h) h4
 clear hb4 K4 q1 q2
 go_wp2
 refine bodyPost_ret (v:=.agg #[.bool s,.slice A4 k4 c4]) (by simp [results,Tryz.results47,go_sem,n1,n2]) rfl ?_
 exact ⟨A4,k4,c4,rfl,n3,z4,(bw4.setCell (Nat.le_refl _) _).setCell (Nat.le_refl _) _⟩
def mulBound (N : Nat) (z2 z1 : Int) : Prop:=z2.natAbs < 1000000000 ^ N ∧ z2.natAbs * z1.natAbs < 1000000000 ^ N ∧ 0 < N
def zmul (L : List (Nat × Bool)) : Int:=L.foldl (fun s p=>(fun s x : Int=>s * x) s (zOf p.1 p.2)) 1
theorem zmul_succ {L : List (Nat × Bool)} {k : Nat} (hk : k < L.length) : zmul (L.take (k + 1)) = (fun s x : Int=>s * x) (zmul (L.take k)) (zOf L[k].1 L[k].2):=by
 unfold zmul
 rw [List.take_add_one,List.getElem?_eq_getElem hk,Option.toList_some,List.foldl_append]; rfl
theorem mulStep {w : World} {g : Nat} {A1 A2 : Option Addr} {k1 c1 k2 c2 N : Nat} {z2 z1 : Int} {T : TypeId} (h1 : Rr w (.slice A1 k1 c1) z1.natAbs) (hg : w.heap[g]? = some (.cells #[.slice A2 k2 c2,.bool (decide (z2 < 0))] T (0,0))) (h2 : Rr w (.slice A2 k2 c2) z2.natAbs) (hB : mulBound N z2 z1) (hN : N ≤ 4000) :
   Calls Tryz.prog 103 #[.agg #[.slice A1 k1 c1,.bool (decide (z1 < 0))],.pointer (some ⟨g,0,none⟩)] w fun e w'=>(∃ v,e = .returned v) ∧ ∃ A k c w2 s,Rr w2 (.slice A k c) ((fun s x : Int=>s * x) z2 z1).natAbs ∧ Below w.heap.size w w2 ∧ s = decide ((fun s x : Int=>s * x) z2 z1 < 0) ∧ w' = put2 w2 g (.slice A k c) (.bool s):=by
 have hcm:=fun (W : World) (hW : Below w.heap.size w W)=>times_z hB.1 hB.2.1 hN hB.2.2 (h2.below hW) (h1.below hW)
 have hlt:=lt_block hg
 obtain ⟨q1,q2,q3,q4⟩:=cell_of_two hg
 have HG:=Lib.hid hg
 have HCM:=Lib.hid hcm
 obtain ⟨s1,hs1⟩ : ∃ s,s = decide (z1 < 0):=⟨_,rfl⟩
 obtain ⟨s2,hs2⟩ : ∃ s,s = decide (z2 < 0):=⟨_,rfl⟩
 obtain ⟨z,hz⟩ : ∃ z,z = (fun s x : Int=>s * x) z2 z1:=⟨_,rfl⟩
 have hz' : (fun s x : Int=>s * x) z2 z1 = z:=hz.symm
 simp only [] at hz'
 rw [← hs1,← hs2,hz'] at HCM
 rw [← hs2] at q2 HG
 rw [← hs1,← hz]
 obtain ⟨s,hs⟩ : ∃ s,s = decide (z < 0):=⟨_,rfl⟩
 unfold RetZ at HCM
 rw [← hs] at HCM
 have HS:=Lib.hid hs
 clear hcm h1 h2 hg hB hN hs1 hs2 hz hz' hs
 go_enter Tryz.func103,Tryz.ntmps103
 go_wp2_with fail
 refine (HCM.out _ (bal (Below.refl _ _) _)).mono ?_
 rintro e w2 ⟨A,k,c,rfl,hr,hb⟩
 have hb:=bstep (bal (Below.refl _ _) _) hb
 have hg2:=(hb.block g hlt).trans HG.out
 obtain ⟨m1,m2,m3,m4⟩:=cell_of_two hg2
 clear hg2
 go_wp2
 go_end0
 exact ⟨⟨_,rfl⟩,A,k,c,w2,s,hr,hb,HS.out,rfl⟩
theorem each_mul {w0 w : World} {g g0 N c0 : Nat} {A : Option Addr} {k c : Nat} {T : TypeId} {L : List (Nat × Bool)} (hL : Ints w0 g0 L) (hb0 : Below w0.heap.size w0 w) (hlt : w0.heap.size ≤ g) (hg : w.heap[g]? = some (.cells #[.slice A k c,.bool (decide ((1 : Int) < 0))] T (0,0))) (h : Rr w (.slice A k c) (1 : Int).natAbs) (hLn : ∀ p ∈ L,p.1 < 1000000000 ^ N) (hB : ∀ k (hk : k < L.length),mulBound N (zmul (L.take k)) (zOf L[k].1 L[k].2)) (hN : N ≤ 4000) (hlen : L.length ≤ 100000) :
   Calls Tryz.prog 96 #[.func (.func 103) #[] #[.pointer (some ⟨g,0,none⟩)],.slice (some ⟨g0,0,none⟩) L.length c0] w fun e w'=>(∃ v,e = .returned v) ∧ ∃ A k c,w'.heap[g]? = some (.cells #[.slice A k c,.bool (decide (zmul L < 0))] T (0,0)) ∧ Rr w' (.slice A k c) (zmul L).natAbs ∧ Below w0.heap.size w0 w' ∧ w.heap.size ≤ w'.heap.size:=by
 have HL:=Lib.hid hL
 have HB:=Lib.hid (show (∀ p ∈ L,p.1 < 1000000000 ^ N) ∧ N ≤ 4000 from ⟨hLn,hN⟩)
 have HBB:=Lib.hid hB
 have HG:=Lib.hid hg
 have HH:=Lib.hid h
 have HB0:=Lib.hid hb0
 obtain ⟨l,hl⟩ : ∃ l,l = L.length:=⟨_,rfl⟩
 rw [← hl] at hlen ⊢
 have HLL:=Lib.hid hl
 clear hL hLn hN hg h hb0 hl hB
 go_enter Tryz.func96,Tryz.ntmps96
 go_wp2_with fail
 go_loopw [8] (fun i wr=>∃ (k' : Nat) (A' : Option Addr) (j d : Nat),k' ≤ l ∧ i = .int .i64 k' ∧ Hid (wr.heap[g]? = some (.cells #[.slice A' j d,.bool (decide (zmul (L.take k') < 0))] T (0,0))) ∧ Hid (Rr wr (.slice A' j d) (zmul (L.take k')).natAbs) ∧ Hid (Below w0.heap.size w0 wr) ∧ w.heap.size ≤ wr.heap.size) (fun i _=>l - (intOf i).toNat)
 case atStart=>exact ⟨0,_,_,_,Nat.zero_le _,rfl,HG,HH,HB0,Nat.le_refl _⟩
 case round =>
   obtain ⟨k',A',j,d,hk,rfl,HG1,HR1,HB1,hsz⟩:=hrel
   by_cases hlt2 : k' < l
   · have hkL : k' < L.length:=by rw [← HLL.out]; exact hlt2
     have hbd:=HBB.out k' hkL; have hGS:=zmul_succ hkL
     obtain ⟨⟨n1,b1⟩,hp⟩ : ∃ p,p = L[k']:=⟨_,rfl⟩
     obtain ⟨B,m,e,hc1,hc2,hrd⟩:=(HL.out.below HB1.out) k' (n1,b1) (by rw [List.getElem?_eq_getElem hkL,hp]); have hc1 : wr.cell? ⟨g0,k' * 2,none⟩ = some (.bool b1):=hc1; have hrd : Rd wr (.slice B m e) n1:=hrd; rw [← hp] at hbd hGS; have HRD:=Lib.hid hrd; have HGS:=Lib.hid hGS; have HBD:=Lib.hid hbd; have HPL:=Lib.hid (hp ▸ List.getElem_mem hkL : (n1,b1) ∈ L); clear hp hrd hGS hbd
     go_wp2_with fail
     refine (numOf_any b1 (HRD.out.below (bal (Below.refl _ _) _)) (HB.out.1 _ HPL.out) HB.out.2).mono ?_; rintro e w2 ⟨A3,k3,c3,rfl,hr3,_,hb3⟩; have hb30:=bstep (bal (Below.refl _ _) _) hb3; have hgr:=lt_block HG1.out; have hg3:=(hb30.block g hgr).trans HG1.out; have hz3:=hb30.size; have HB3:=Lib.hid (bstep HB1.out hb30); clear hb3; have e1:=gg n1 b1; have e2:=ci n1 b1; rw [← e2] at hr3; have hst:=mulStep hr3 hg3 (HR1.out.below hb30) HBD.out HB.out.2; rw [e1] at hst; have HST:=Lib.hid hst; have HG3:=Lib.hid hg3; clear hst hg3 hr3 hb30 e1 e2
     go_wp2_with fail
     refine HST.out.mono ?_; rintro e w3 ⟨⟨v,rfl⟩,A4,k4,c4,w4,s4,hr4,hb4,hs4,rfl⟩; have hgs : zmul (L.take k') * zOf n1 b1 = zmul (L.take (k' + 1)):=HGS.out.symm; replace hr4 : Rr w4 (.slice A4 k4 c4) (zmul (L.take (k' + 1))).natAbs:=by rw [← hgs]; exact hr4
     replace hs4 : s4 = decide (zmul (L.take (k' + 1)) < 0):=hs4.trans (congrArg (fun z : Int=>decide (z < 0)) hgs)
     have hg4 : Holds_ w4 g #[.slice A' j d,.bool (decide (zmul (L.take k') < 0))]:=⟨⟨T,(hb4.block g (by omega)).trans HG3.out⟩,fun y hy=>by
       rcases List.mem_cons.1 (by simpa using hy : y ∈ [.slice A' j d,.bool (decide (zmul (L.take k') < 0))]) with rfl | hy
       · exact noDig_slice _ _ _
       · rw [List.mem_singleton.1 hy]; exact noDig_bool _⟩
     have hst4:=stored_put2 hg4 (noDig_slice A4 k4 c4) (noDig_bool s4); have hg5:=fw (u:=.bool s4) (set_two0 (u:=.slice A4 k4 c4) ((hb4.block g (by omega)).trans HG3.out)); have HG4 : Hid ((put2 w4 g (.slice A4 k4 c4) (.bool s4)).heap[g]? = some (.cells #[.slice A4 k4 c4,.bool (decide (zmul (L.take (k' + 1)) < 0))] T (0,0))):=by rw [← hs4]; exact hg5
     have HR4:=Lib.hid (hst4.rr hr4); have HB4:=Lib.hid (hst4.below (bstep HB3.out hb4) hlt); have hz4:=hb4.size; have hz5 : w.heap.size ≤ (put2 w4 g (.slice A4 k4 c4) (.bool s4)).heap.size:=by rw [hst4.size]; omega
     clear hb4 hg4 hr4 HST HG3 hst4 hgs hs4 hg5
     go_wp2
     go_roundw
     case rel=>exact ⟨k' + 1,_,_,_,by omega,by go_num,HG4,HR4,HB4,hz5⟩
     case measure=>simp [intOf]; omega
   · have hk' : k' = l:=by omega
     have HK:=Lib.hid hk'; clear hk'
     go_wp2
     go_end0
     have et : L.take k' = L:=by rw [HK.out,HLL.out,List.take_length]
     exact ⟨⟨_,rfl⟩,A',j,d,by rw [← et]; exact HG1.out,by rw [← et]; exact HR1.out,HB1.out,hsz⟩
theorem mul_int {w : World} {g0 c0 N : Nat} {L : List (Nat × Bool)} (hL : Ints w g0 L) (hLn : ∀ p ∈ L,p.1 < 1000000000 ^ N) (hB : ∀ k (hk : k < L.length),mulBound N (zmul (L.take k)) (zOf L[k].1 L[k].2)) (hN : N ≤ 4000) (hlen : L.length ≤ 100000) :
   Calls Tryz.prog 49 #[.slice (some ⟨g0,0,none⟩) L.length c0] w (RetInt w (zmul L).natAbs (decide (zmul L < 0))):=by
 have hmf : ∀ (fn : Fn) (first cap : Array Value) (w : World),(Instr.makeFunc fn first cap).run Tryz.prog w = .ok (.func fn first cap) w:=fun _ _ _ _=>rfl
 obtain ⟨w1,hw1⟩ : ∃ w1,w1 = w.alloc (Obj.cells #[Value.bool false,Value.slice none 0 0] 24):=⟨_,rfl⟩
 have b1 : Below w.heap.size w w1:=by rw [hw1]; exact bal (Below.refl _ _) _
 have s1 : w1.heap.size = w.heap.size + 1:=by rw [hw1]; simp
 have K1 : w1.heap[w.heap.size]? = some (Obj.cells #[Value.bool false,Value.slice none 0 0] 24):=by rw [hw1]; exact heap_alloc_new _ _
 have e0 : decide ((1 : Int) < 0) = false:=by decide
 have e1 : (1 : Int).natAbs = 1:=rfl
 have hea:=fun (W : World) (hb : Below w1.heap.size w1 W) (A : Option Addr) (k c g : Nat) (hg1 : w1.heap.size ≤ g) (hg : W.heap[g]? = some (.cells #[.slice A k c,.bool false] 91 (0,0))) (h : Rr W (.slice A k c) 1)=>each_mul (c0:=c0) (hL.below b1) hb hg1 (by rw [e0]; exact hg) (by rw [e1]; exact h) hLn hB hN hlen
 obtain ⟨l,hl⟩ : ∃ l,l = L.length:=⟨_,rfl⟩
 rw [← hl] at hea ⊢
 obtain ⟨z,hz⟩ : ∃ z,z = zmul L:=⟨_,rfl⟩
 rw [← hz] at hea ⊢
 obtain ⟨s,hs⟩ : ∃ s,s = decide (z < 0):=⟨_,rfl⟩
 have hzs : z.natAbs = 0 → s = false:=fun h=>by rw [hs]; exact abs_zero h
 rw [← hs] at hea ⊢
 obtain ⟨m,hm⟩ : ∃ m,m = z.natAbs:=⟨_,rfl⟩
 rw [← hm] at hea hzs ⊢
 clear hl hlen hz hs hm
 have HEA:=Lib.hid hea
 have HW1:=Lib.hid hw1
 have HK1:=Lib.hid K1
 have HZS:=Lib.hid hzs
 clear hea hL hLn hN hB hw1 K1 hzs e0 e1
 go_enter Tryz.func49,Tryz.ntmps49
 go_wp2_with fail
 rw [← HW1.out]
 have hone:=rr_lit1 w1
 rw [s1] at hone
 have hsg:=signed_s false hone
 rw [show sgn 1 false = false from rfl] at hsg
 refine hsg.mono ?_
 clear hsg hone
 rintro e w5 ⟨A5,k5,c5,rfl,h5,_,b5⟩
 have HB5:=Lib.hid (bstep (bal (Below.refl w1.heap.size w1) _) b5)
 have hz5 : w1.heap.size ≤ w5.heap.size:=HB5.out.size
 have H5:=Lib.hid h5
 clear b5 h5
 go_wp2_with fail
 refine (HEA.out _ (bal HB5.out _) A5 k5 c5 w5.heap.size hz5 (heap_alloc_new _ _) (H5.out.alloc _)).mono ?_
 rintro e w2 ⟨⟨v,rfl⟩,A,k,c,hg,hr,hb,_⟩
 have K2:=(hb.block w.heap.size (by omega)).trans HK1.out
 obtain ⟨q1,q2,_,_⟩:=cell_of_two hg
 have bw2:=b1.trans (hb.mono (by omega))
 have hz:=hb.size
 have HK2:=Lib.hid K2
 have HT:=Lib.hid (told_any hr HZS.out)
 clear hb hg HK1 K2 hr
 go_wp2_with fail
 refine HT.out.mono ?_
 rintro e w4 ⟨A4,k4,c4,rfl,h4,z4,hb4⟩
 have K4:=(hb4.block w.heap.size (by omega)).trans HK2.out
 have bw4:=bstep bw2 hb4
 obtain ⟨m1,m2,m3,m4⟩:=cell_of_two K4
 obtain ⟨n1,n2,n3⟩:=ar (a':=.bool s) (b':=.slice A4 k4 c4) K4 (fun d h=>by cases h) (fun d h=>by cases h) h4
 clear hb4 K4 q1 q2
 go_wp2
 refine bodyPost_ret (v:=.agg #[.bool s,.slice A4 k4 c4]) (by simp [results,Tryz.results49,go_sem,n1,n2]) rfl ?_
 exact ⟨A4,k4,c4,rfl,n3,z4,(bw4.setCell (Nat.le_refl _) _).setCell (Nat.le_refl _) _⟩
def Lens (W : World) (g : Nat) (ns : List Nat) : Prop:=∀ j n,ns[j]? = some n → ∃ A c,W.cell? ⟨g,j * 2 + 1,none⟩ = some (.slice A n c)
theorem sum_take_le (ns : List Nat) (k : Nat) : (ns.take k).sum ≤ ns.sum:=by
 have:=List.take_append_drop k ns
 have h2 : ns.sum = (ns.take k).sum + (ns.drop k).sum:=by rw [← List.sum_append_nat,this]
 omega
theorem gh : (Tryz.prog.info? 5).map (fun i=>(i.zero,i.size,i.bytes)) = some (some (.int .u8 0),1,1):=by kernel_rfl
theorem fl {w : World} {B n : Nat} {v : Value} (h : w.ownsRow B 5 1 v n (madeCells #[Value.int .u8 0] n).toList) : Own w B 5 v (u8s (List.replicate n 0)):=by
 rw [toList_madeCells_one,show List.replicate n (Value.int .u8 0) = u8s (List.replicate n 0) from by simp [u8s]] at h
 exact Own.mk_ h
theorem own_set8 {w : World} {B g n c : Nat} {ds : List Nat} (h : Own w B 5 (.slice (some ⟨g,0,none⟩) n c) (u8s ds)) (k d : Nat) :
   Own (w.setCell ⟨g,k,none⟩ (.int .u8 (d : Int))) B 5 (.slice (some ⟨g,0,none⟩) n c) (u8s (ds.set k d)):=by
 have hn:=h.lt.1
 have hh : w.ownsRow B 5 1 (.slice (some ⟨g,0,none⟩) n c) n (u8s ds):=by rw [hn]; rw [hn] at h; exact h
 have:=(hh.stored k (.int .u8 (d : Int))).1
 rw [show (u8s ds).set k (.int .u8 (d : Int)) = u8s (ds.set k d) from by simp [u8s,List.map_set]] at this
 exact Own.mk_ this
def RetDec (w : World) (n : Nat) (e : Ending) (w' : World) : Prop:=∃ A c ds,e = .returned (.slice A ds.length c) ∧ Row w' A (u8s ds) ∧ ds.length ≤ c ∧ dright ds ∧ dval ds = n ∧ Below w.heap.size w w'
theorem bf (ds : List Nat) (k : Nat) : dval (ds.take (k + 1)) = dval (ds.take k) + 10 ^ k * ds.getD k 0:=by
 rcases Nat.lt_or_ge k ds.length with h | h
 · rw [List.take_add_one,List.getElem?_eq_getElem h,Option.toList_some,be,List.length_take,Nat.min_eq_left (by omega),List.getD_eq_getElem?_getD,List.getElem?_eq_getElem h]; simp [dval]
 · rw [List.take_of_length_le h,List.take_of_length_le (by omega),List.getD_eq_getElem?_getD,List.getElem?_eq_none h]; simp
theorem fg {out xs ys : List Nat} {k cy x y : Nat} (hx : xs.getD k 0 = x) (hy : ys.getD k 0 = y) (hlen : out.length = k) (hval : dval out + 10 ^ k * cy = dval (xs.take k) + dval (ys.take k)) :
   dval (out ++ [(cy + x + y) % 10]) + 10 ^ (k + 1) * ((cy + x + y) / 10) = dval (xs.take (k + 1)) + dval (ys.take (k + 1)):=by
 rw [be,bf,bf,hlen,hx,hy,Nat.pow_succ,Nat.mul_assoc]
 simp only [dval,Nat.mul_zero,Nat.add_zero]
 have h2:=Nat.mod_add_div (cy + x + y) 10
 have h3 : 10 ^ k * (cy + x + y) = 10 ^ k * ((cy + x + y) % 10) + 10 ^ k * (10 * ((cy + x + y) / 10)):=by rw [← Nat.mul_add,h2]
 rw [Nat.mul_add,Nat.mul_add] at h3
 omega
theorem ec {w : World} {B n : Nat} {v : Value} {ds : List Nat} {d : Nat} (h : w.ownsRow B 5 1 v n (u8s ds ++ [.int .u8 (d : Int)])) : Own w B 5 v (u8s (ds ++ [d])):=by
 rw [← u8s_snoc]; exact Own.mk_ h
theorem getD_out {ds : List Nat} {k : Nat} (h : ¬ k < ds.length) : ds.getD k 0 = 0:=by
 rw [List.getD_eq_getElem?_getD,List.getElem?_eq_none (by omega)]; rfl
theorem refPlus {w : World} {A1 A2 : Option Addr} {c1 c2 : Nat} {xs ys : List Nat} (hr1 : Row w A1 (u8s xs)) (hr2 : Row w A2 (u8s ys)) (hx : small 10 xs) (hy : small 10 ys) (hl1 : xs.length ≤ 100000) (hl2 : ys.length ≤ 100000) :
   Calls Tryz.prog 151 #[.slice A1 xs.length c1,.slice A2 ys.length c2] w (RetDec w (dval xs + dval ys)):=by
 obtain ⟨i0,hi,hz0,hz1,hz2⟩:=info_parts gh
 obtain ⟨B,hB⟩ : ∃ B,B = w.heap.size:=⟨_,rfl⟩
 have HB:=Lib.hid hB
 clear hB
 obtain ⟨n,hn⟩ : ∃ n : Nat,n = xs.length:=⟨_,rfl⟩
 obtain ⟨m,hm⟩ : ∃ m : Nat,m = ys.length:=⟨_,rfl⟩
 have hn1 : n ≤ 100000:=by omega
 have hm1 : m ≤ 100000:=by omega
 rw [← hn,← hm]
 have HN:=Lib.hid hn
 have HM:=Lib.hid hm
 clear hn hm
 go_enter Tryz.func151,Tryz.ntmps151
 go_wp2
 go_loopw [5, 6, 7] (fun v cv iv wr => ∃ (k cy : Nat) (out : List Nat), k ≤ n + m + 1 ∧ (k ≤ n ∨ k ≤ m ∨ cy = 0) ∧ iv = .int .i64 (k : Int) ∧ cv = .int .u8 (cy : Int) ∧ cy ≤ 1 ∧ Own wr B 5 v (u8s out) ∧ Hid (out.length = k ∧ small 10 out ∧ dval out + 10 ^ k * cy = dval (xs.take k) + dval (ys.take k)) ∧ Below w.heap.size w wr)
   (fun _ _ iv _=>n + m + 2 - (intOf iv).toNat)
 case atStart=>exact ⟨0,0,[],Nat.zero_le _,.inl (Nat.zero_le _),rfl,rfl,by omega,Own.nil _ _ _,⟨rfl,ak _,by simp [dval]⟩,Below.refl _ _⟩
 case round =>
   obtain ⟨k,cy,out,hk,hkk,rfl,rfl,hcy,hout,HO,hb⟩:=hrel; have hsz:=hb.size; have hkn : k ≤ 300000:=by omega
   by_cases hgo : k < n ∨ k < m ∨ 0 < cy
   · have hx1 : ∃ x : Nat,x < 10 ∧ Hid (xs.getD k 0 = x) ∧ (k < n → ∃ ad,A1 = some ad ∧ wr.cell? (ad.add k) = some (.int .u8 (x : Int))) ∧ (¬ k < n → x = 0):=by
       by_cases h : k < n
       · obtain ⟨ad,x,e,hc,hxx,hm⟩:=(hr1.below hb).byte (k:=k) (by rw [← HN.out]; exact h); exact ⟨x,hx x hm,hxx,fun _=>⟨ad,e,hc⟩,fun h'=>absurd h h'⟩
       · exact ⟨0,by omega,getD_out (by rw [← HN.out]; exact h),fun h'=>absurd h' h,fun _=>rfl⟩
     have hy1 : ∃ y : Nat,y < 10 ∧ Hid (ys.getD k 0 = y) ∧ (k < m → ∃ ad,A2 = some ad ∧ wr.cell? (ad.add k) = some (.int .u8 (y : Int))) ∧ (¬ k < m → y = 0):=by
       by_cases h : k < m
       · obtain ⟨ad,y,e,hc,hyy,hm⟩:=(hr2.below hb).byte (k:=k) (by rw [← HM.out]; exact h); exact ⟨y,hy y hm,hyy,fun _=>⟨ad,e,hc⟩,fun h'=>absurd h h'⟩
       · exact ⟨0,by omega,getD_out (by rw [← HM.out]; exact h),fun h'=>absurd h' h,fun _=>rfl⟩
     obtain ⟨x,hx10,HX,hxc,hx0⟩:=hx1; obtain ⟨y,hy10,HY,hyc,hy0⟩:=hy1; have hkle : k + 1 ≤ n + m + 1:=by omega
     have hkor : k + 1 ≤ n ∨ k + 1 ≤ m ∨ (cy + x + y) / 10 = 0:=by
       by_cases h : k < n
       · exact .inl h
       · by_cases h' : k < m
         · exact .inr (.inl h')
         · right; right; rw [hx0 h,hy0 h']; omega
     have HK:=Lib.hid hkor; clear hkor hkk
     by_cases ha : k < n
     · obtain ⟨ad1,rfl,hc1⟩:=hxc ha; clear hx0 hgo
       by_cases hbb : k < m
       · obtain ⟨ad2,rfl,hc2⟩:=hyc hbb; clear hy0 hxc hyc
         go_wp2_with (at_builtin; refine wpList_append_own _ rfl _ _ 124 rfl B 5 i0 (.int .u8 0) 1 1 Tryz.underlying124 hi hz0 hz1 hz2 rfl (by decide) _ _ _ rfl (hout.alloc _) ⟨wr.heap.size,0,none⟩ 1 1 [.int .u8 (((cy + x + y) % 10 : Nat) : Int)] rfl rfl (one_news (int_eq (by omega))) ay (by rw [ae,HO.out.1]; unfold maxLen; omega) (by rw [ae,HO.out.1]; omega) (by rw [HB.out]; simp; omega) ?_)
         intro v' w2 hown' hgrow' _; have ho2:=ec hown'; have hb2:=bk hb hout HB hgrow'; clear hown' hgrow' hout hb hc1 hc2
         go_wp2
         go_roundw
         case rel=>exact ⟨k + 1,(cy + x + y) / 10,_,by omega,HK.out,by go_num,by go_num,by omega,ho2,⟨by rw [List.length_append,HO.out.1]; rfl,small_snoc HO.out.2.1 (Nat.mod_lt _ (by decide)),fg HX.out HY.out HO.out.1 HO.out.2.2⟩,hb2⟩
         case measure=>first | (simp [intOf]; done) | (simp [intOf]; omega)
       · obtain rfl : y = 0:=hy0 hbb; clear hxc hyc
         go_wp2_with (at_builtin; refine wpList_append_own _ rfl _ _ 124 rfl B 5 i0 (.int .u8 0) 1 1 Tryz.underlying124 hi hz0 hz1 hz2 rfl (by decide) _ _ _ rfl (hout.alloc _) ⟨wr.heap.size,0,none⟩ 1 1 [.int .u8 (((cy + x + 0) % 10 : Nat) : Int)] rfl rfl (one_news (int_eq (by omega))) ay (by rw [ae,HO.out.1]; unfold maxLen; omega) (by rw [ae,HO.out.1]; omega) (by rw [HB.out]; simp; omega) ?_)
         intro v' w2 hown' hgrow' _; have ho2:=ec hown'; have hb2:=bk hb hout HB hgrow'; clear hown' hgrow' hout hb
         go_wp2
         go_roundw
         case rel=>exact ⟨k + 1,(cy + x + 0) / 10,_,by omega,HK.out,by go_num,by go_num,by omega,ho2,⟨by rw [List.length_append,HO.out.1]; rfl,small_snoc HO.out.2.1 (Nat.mod_lt _ (by decide)),fg HX.out HY.out HO.out.1 HO.out.2.2⟩,hb2⟩
         case measure=>first | (simp [intOf]; done) | (simp [intOf]; omega)
     · obtain rfl : x = 0:=hx0 ha; clear hxc
       by_cases hbb : k < m
       · obtain ⟨ad2,rfl,hc2⟩:=hyc hbb; clear hy0 hyc hgo
         go_wp2_with (at_builtin; refine wpList_append_own _ rfl _ _ 124 rfl B 5 i0 (.int .u8 0) 1 1 Tryz.underlying124 hi hz0 hz1 hz2 rfl (by decide) _ _ _ rfl (hout.alloc _) ⟨wr.heap.size,0,none⟩ 1 1 [.int .u8 (((cy + 0 + y) % 10 : Nat) : Int)] rfl rfl (one_news (int_eq (by omega))) ay (by rw [ae,HO.out.1]; unfold maxLen; omega) (by rw [ae,HO.out.1]; omega) (by rw [HB.out]; simp; omega) ?_)
         intro v' w2 hown' hgrow' _; have ho2:=ec hown'; have hb2:=bk hb hout HB hgrow'; clear hown' hgrow' hout hb
         go_wp2
         go_roundw
         case rel=>exact ⟨k + 1,(cy + 0 + y) / 10,_,by omega,HK.out,by go_num,by go_num,by omega,ho2,⟨by rw [List.length_append,HO.out.1]; rfl,small_snoc HO.out.2.1 (Nat.mod_lt _ (by decide)),fg HX.out HY.out HO.out.1 HO.out.2.2⟩,hb2⟩
         case measure=>first | (simp [intOf]; done) | (simp [intOf]; omega)
       · obtain rfl : y = 0:=hy0 hbb; have hcp : 0 < cy:=by omega
         clear hyc hgo hx0 hy0
         go_wp2_with (at_builtin; refine wpList_append_own _ rfl _ _ 124 rfl B 5 i0 (.int .u8 0) 1 1 Tryz.underlying124 hi hz0 hz1 hz2 rfl (by decide) _ _ _ rfl (hout.alloc _) ⟨wr.heap.size,0,none⟩ 1 1 [.int .u8 (((cy + 0 + 0) % 10 : Nat) : Int)] rfl rfl (one_news (int_eq (by omega))) ay (by rw [ae,HO.out.1]; unfold maxLen; omega) (by rw [ae,HO.out.1]; omega) (by rw [HB.out]; simp; omega) ?_)
         intro v' w2 hown' hgrow' _; have ho2:=ec hown'; have hb2:=bk hb hout HB hgrow'; clear hown' hgrow' hout hb
         go_wp2
         go_roundw
         case rel=>exact ⟨k + 1,(cy + 0 + 0) / 10,_,by omega,HK.out,by go_num,by go_num,by omega,ho2,⟨by rw [List.length_append,HO.out.1]; rfl,small_snoc HO.out.2.1 (Nat.mod_lt _ (by decide)),fg HX.out HY.out HO.out.1 HO.out.2.2⟩,hb2⟩
         case measure=>first | (simp [intOf]; done) | (simp [intOf]; omega)
   · have hcy0 : cy = 0:=by omega
     have hkn2 : n ≤ k:=by omega
     have hkm2 : m ≤ k:=by omega
     have hw : k ≤ 200001:=by omega
     have HV : Hid (dval out = dval xs + dval ys):=by
       have:=HO.out.2.2; rw [hcy0,Nat.mul_zero,Nat.add_zero,List.take_of_length_le (by rw [← HN.out]; exact hkn2),List.take_of_length_le (by rw [← HM.out]; exact hkm2)] at this; exact this
     subst hcy0; obtain ⟨A3,c3,rfl,hr3,hlc,_⟩:=hout.slice8; have hol : out.length ≤ 1000000:=by rw [HO.out.1]; omega
     have htr:=ff (c:=c3) hr3 hol hlc; have HTR:=Lib.hid htr; have hsl:=Nat.le_trans (strip_length out) hlc; clear htr hgo hkk
     go_wp2_with fail
     refine HTR.out.mono ?_; rintro e w' ⟨⟨rfl,hrt⟩,rfl⟩
     go_wp2
     go_ret
     exact ⟨_,_,_,rfl,hrt,hsl,ct HO.out.2.1,by rw [dp]; exact HV.out,hb⟩
theorem dright_length {ds : List Nat} (h : dright ds) {k : Nat} (hk : dval ds < 10 ^ k) : ds.length ≤ k:=by
 rcases Nat.lt_or_ge k ds.length with h1 | h1
 · exfalso
   have hne : ds ≠ []:=fun e=>by subst e; simp at h1
   have h2 : dval ds = dval (ds.take k) + 10 ^ k * dval (ds.drop k):=by
     have:=be (ds.take k) (ds.drop k); rw [List.take_append_drop,List.length_take,Nat.min_eq_left (by omega)] at this; exact this
   have h3:=dval_pos (ds:=ds.drop k) (by intro e; have:=congrArg List.length e; rw [List.length_drop] at this; simp at this; omega) (by
     rw [List.getLast?_drop,if_neg (by omega)]; rcases h.2 with h | h
     · exact absurd h hne
     · exact h)
   have h4 : 10 ^ k * 1 ≤ 10 ^ k * dval (ds.drop k):=Nat.mul_le_mul_left _ h3; omega
 · exact h1
theorem zeros9 : dval (List.replicate 9 0) = 0:=by simp [List.replicate,dval]
theorem u8s_one (ds : List Nat) : ∀ u ∈ u8s ds,u.oneCell' = true:=by
 intro u hu
 obtain ⟨d,_,rfl⟩:=List.mem_map.1 hu
 rfl
theorem refRead {w : World} {A : Option Addr} {c : Nat} {ds : List Nat} (hr : Row w A (u32s ds)) (hd : small 4294967296 ds) (hlen : ds.length ≤ 1100) :
   Calls Tryz.prog 136 #[.slice A ds.length c] w (RetDec w (val ds)):=by
 obtain ⟨i0,hi,hz0,hz1,hz2⟩:=info_parts gh
 obtain ⟨n,hn⟩ : ∃ n : Nat,n = ds.length:=⟨_,rfl⟩
 have hn1 : n ≤ 1100:=by omega
 rw [← hn]
 have HN:=Lib.hid hn
 clear hn
 obtain ⟨E,hE1,hE2⟩ : ∃ E : Nat,E ≤ 9909 ∧ 9909 ≤ E:=⟨9909,Nat.le_refl _,Nat.le_refl _⟩
 have hbd : ∀ k,val (ds.drop k) < 10 ^ E:=fun k=>by
   refine Nat.lt_of_lt_of_le (val_lt32 (small_drop hd k)) ?_; rw [show (1000000000 : Nat) = 10 ^ 9 from by decide,← Nat.pow_mul]; exact Nat.pow_le_pow_right (by decide) (by rw [List.length_drop,← HN.out]; omega)
 have HBD:=Lib.hid hbd
 clear hbd
 go_enter Tryz.func136,Tryz.ntmps136
 go_wp2
 go_loopw [3, 4] (fun v iv wr => ∃ (k : Nat) (A' : Option Addr) (c' : Nat) (os : List Nat), k ≤ n ∧ iv = .int .i64 ((k : Int) - 1) ∧ v = .slice A' os.length c' ∧ Row wr A' (u8s os) ∧ os.length ≤ c' ∧ dright os ∧ Hid (val (ds.drop k) = dval os) ∧ Below w.heap.size w wr)
   (fun _ iv _=>(intOf iv + 1).toNat)
 case atStart=>exact ⟨n,none,0,[],Nat.le_refl _,rfl,rfl,Row.nil _ _,Nat.le_refl _,⟨ak _,.inl rfl⟩,by
   show _ = _
   rw [List.drop_of_length_le (by rw [HN.out]; exact Nat.le_refl _)]; rfl,Below.refl _ _⟩
 case round =>
   obtain ⟨k,A',c',os,hk,rfl,rfl,hro,hoc,hos,HO,hb⟩:=hrel; have hsz:=hb.size; have hol : os.length ≤ E:=dright_length hos (by rw [← HO.out]; exact HBD.out k); rcases Nat.eq_zero_or_pos k with rfl | hkp
   · go_wp2
     go_ret
     exact ⟨_,_,_,rfl,hro,hoc,hos,by rw [← HO.out]; rfl,hb⟩
   · obtain ⟨p,rfl⟩ : ∃ p,k = p + 1:=⟨k - 1,by omega⟩
     rw [show ((p + 1 : Nat) : Int) - 1 = (p : Int) from by omega]; rcases Nat.eq_zero_or_pos os.length with ho0 | hop
     · obtain rfl : os = []:=List.eq_nil_of_length_eq_zero ho0; obtain ⟨ad,x,rfl,hcx,hx,hxm⟩:=(hr.below hb).dig (k:=p) (by rw [← HN.out]; omega); have hxb:=hd x hxm; clear hxm ho0; have hpn : (p : Int) < n:=by omega
       obtain ⟨W2,hW2⟩ : ∃ W2,W2 = wr:=⟨_,rfl⟩
       have hes : small 10 ([] : List Nat):=ak _; have hre : Row W2 A' (u8s []):=Row.nil _ _; have HE : Hid (dval ([] : List Nat) = 1000000000 * dval ([] : List Nat)):=rfl; have hbW : Below w.heap.size w W2:=hW2 ▸ hb; have hsW : w.heap.size ≤ W2.heap.size:=hbW.size; rw [← hW2] at hcx ⊢; clear hW2 hb hsz hro; rw [show ([] : List Nat).length = 0 from rfl] at hol hoc ⊢
       go_wp2_with fail
       obtain ⟨B2,hB2⟩ : ∃ B2,B2 = W2.heap.size:=⟨_,rfl⟩
       have HB2:=Lib.hid hB2; clear hB2
       go_loopw [5, 6] (fun dv nv wr => ∃ (dd : List Nat) (nn : Nat), nv = .int .u32 (nn : Int) ∧ nn < 4294967296 ∧ Own wr B2 5 dv (u8s dd) ∧ dd.length ≤ 10 ∧ (0 < nn → dd.length ≤ 9) ∧ Hid (small 10 dd ∧ dval dd + 10 ^ dd.length * nn = x) ∧ Below W2.heap.size W2 wr)
         (fun _ nv _=>(intOf nv).toNat)
       case atStart=>exact ⟨[],x,rfl,hxb,Own.nil _ _ _,by simp,fun _=>by simp,⟨ak _,by simp [dval]⟩,Below.refl _ _⟩
       case round =>
         obtain ⟨dd,nn,rfl,hnn,hdd,hl10,hl9,HD,hbr⟩:=hrel; have hsr:=hbr.size; rcases Nat.eq_zero_or_pos nn with rfl | hnp
         · obtain ⟨A4,c4,rfl,hr4,hlc4,_⟩:=hdd.slice8; have hpl:=refPlus (c1:=c') (c2:=c4) (hre.below hbr) hr4 hes HD.out.1 (by simp) (by omega); rw [show ([] : List Nat).length = 0 from rfl] at hpl; have HP:=Lib.hid hpl
           have HV : Hid (dval ([] : List Nat) + dval dd = val (ds.drop p)):=by
             show _ = _
             have h2:=HD.out.2; rw [Nat.mul_zero,Nat.add_zero] at h2; rw [HE.out,h2,bp ds p (by rw [← HN.out]; omega),hx.out,← HO.out]; omega
           clear hpl hl10 hl9
           go_wp2_with fail
           refine HP.out.mono ?_; rintro e w5 ⟨A5,c5,fs,rfl,hr5,hlc5,hf5,hv5,hb5⟩; have hb6 : Below w.heap.size w w5:=(hbW.trans (hbr.mono hsW)).trans (hb5.mono (by omega)); clear hb5 hbr
           go_wp2
           go_roundw
           case rel=>exact ⟨p,A5,c5,fs,by omega,by go_num,rfl,hr5,hlc5,hf5,by rw [HV.out] at hv5; exact hv5.symm,hb6⟩
           case measure=>first | (simp [intOf]; done) | (simp [intOf]; omega)
         · have hl9':=hl9 hnp
           have hstep : dval (dd ++ [nn % 10]) + 10 ^ (dd ++ [nn % 10]).length * (nn / 10) = x:=by
             have h2:=Nat.mod_add_div nn 10; rw [be,List.length_append,← HD.out.2]; simp only [dval,List.length_singleton,Nat.mul_zero,Nat.add_zero,Nat.pow_succ]; have h3 : 10 ^ dd.length * nn = 10 ^ dd.length * (nn % 10) + 10 ^ dd.length * (10 * (nn / 10)):=by rw [← Nat.mul_add,h2]
             rw [h3,Nat.mul_assoc]; omega
           have hlen2 : 0 < nn / 10 → (dd ++ [nn % 10]).length ≤ 9:=fun h=>by
             have h4 : 10 ^ (dd ++ [nn % 10]).length * 1 ≤ 10 ^ (dd ++ [nn % 10]).length * (nn / 10):=Nat.mul_le_mul_left _ h; rcases Nat.lt_or_ge 9 (dd ++ [nn % 10]).length with h5 | h5
             · have h6 : 10 ^ 10 ≤ 10 ^ (dd ++ [nn % 10]).length:=Nat.pow_le_pow_right (by decide) h5; have h7 : (10 : Nat) ^ 10 = 10000000000:=by decide
               omega
             · exact h5
           have hlen3 : (dd ++ [nn % 10]).length ≤ 10:=by rw [List.length_append]; simp; omega
           have HS:=Lib.hid hstep; have HL2:=Lib.hid hlen2; clear hstep hlen2 hl9 hl10
           go_wp2_with (at_builtin; refine wpList_append_own _ rfl _ _ 124 rfl B2 5 i0 (.int .u8 0) 1 1 Tryz.underlying124 hi hz0 hz1 hz2 rfl (by decide) _ _ _ rfl (hdd.alloc _) ⟨wr.heap.size,0,none⟩ 1 1 [.int .u8 ((nn % 10 : Nat) : Int)] rfl rfl (one_news (int_eq (by omega))) ay (by rw [ae]; unfold maxLen; omega) (by rw [ae]; omega) (by rw [HB2.out]; simp; omega) ?_)
           intro v' w2 hown' hgrow' _; have ho2:=ec hown'; have hb3:=bk hbr hdd HB2 hgrow'; clear hown' hgrow' hdd hbr
           go_wp2
           go_roundw
           case rel=>exact ⟨dd ++ [nn % 10],nn / 10,by go_num,by omega,ho2,hlen3,HL2.out,⟨small_snoc HD.out.1 (Nat.mod_lt _ (by decide)),HS.out⟩,hb3⟩
           case measure=>first | (simp [intOf]; done) | (simp [intOf]; omega)
     · obtain ⟨ad,x,rfl,hcx,hx,hxm⟩:=(hr.below hb).dig (k:=p) (by rw [← HN.out]; omega); have hxb:=hd x hxm; clear hxm; have hpn : (p : Int) < n:=by omega
       obtain ⟨ao,_,rfl,_⟩:=hro.byte (k:=0) hop
       go_wp2_with (at_make; refine wpList_make_full _ rfl _ _ 124 rfl wr.heap.size 5 i0 (.int .u8 0) 1 Tryz.underlying124 hi hz0 hz1 .i64 .i64 9 9 9 rfl rfl rfl rfl (by rw [hz2]; omega) (by unfold maxLen; omega) (Nat.le_refl _) ?_)
       intro w4 hown4 hgrow4; have ho4:=fl hown4; have hb4 : Below wr.heap.size wr w4:=(Below.refl _ _).grown hgrow4 (Nat.le_refl _) (fun k h=>by cases h); have hro4:=hro.below hb4; clear hown4 hgrow4
       go_wp2_with (at_builtin; refine wpList_append_own _ rfl _ _ 124 rfl wr.heap.size 5 i0 (.int .u8 0) 1 1 Tryz.underlying124 hi hz0 hz1 hz2 rfl (by decide) _ _ _ rfl ho4 ao os.length c' (u8s os) rfl (by rw [ae]; omega) (fun j u hj=>by obtain ⟨ad',e',hc'⟩:=hro4 j u hj; injection e' with e'; subst e'; exact hc') (u8s_one os) (by rw [ae]; unfold maxLen; simp; omega) (by rw [ae]; simp; omega) (by have:=hb4.size; omega) ?_)
       intro v' W2 hown5 hgrow5 _
       have ho5 : Own W2 wr.heap.size 5 v' (u8s (List.replicate 9 0 ++ os)):=by
         have:=Own.mk_ hown5; have e : u8s [0,0,0,0,0,0,0,0,0] ++ u8s os = u8s (List.replicate 9 0 ++ os):=rfl; exact e ▸ this
       have hbW : Below w.heap.size w W2:=hb.trans ((hb4.grown hgrow5 (by have:=hb4.size; omega) (fun k hk=>((show w4.ownsRow wr.heap.size 5 1 _ _ _ from ho4).lt k hk).1)).mono hsz); have hsW : w.heap.size ≤ W2.heap.size:=hbW.size; obtain ⟨A7,c7,rfl,hre,hc7,_⟩:=ho5.slice8
       obtain ⟨es,hes0⟩ : ∃ es,es = List.replicate 9 0 ++ os:=⟨_,rfl⟩
       rw [← hes0] at hre hc7 ⊢
       have hes : small 10 es:=by
         rw [hes0]; intro d hd; rcases List.mem_append.1 hd with h | h
         · rw [(List.mem_replicate.1 h).2]; decide
         · exact hos.1 d h
       have hesl : es.length ≤ 20000:=by rw [hes0,List.length_append,List.length_replicate]; omega
       have HE : Hid (dval es = 1000000000 * dval os):=by show _ = _; rw [hes0,be,List.length_replicate,zeros9]; simp
       have hcx2 : W2.cell? (ad.add p) = some (.int .u32 (x : Int)):=(((hb4.grown hgrow5 (by have:=hb4.size; omega) (fun k hk=>((show w4.ownsRow wr.heap.size 5 1 _ _ _ from ho4).lt k hk).1)).cell (cell_lt hcx))).trans hcx; clear hown5 hgrow5 ho5 hes0 ho4 hb4 hro4 hb hsz hro hcx
       go_wp2_with fail
       obtain ⟨B2,hB2⟩ : ∃ B2,B2 = W2.heap.size:=⟨_,rfl⟩
       have HB2:=Lib.hid hB2; clear hB2
       go_loopw [5, 6] (fun dv nv wr => ∃ (dd : List Nat) (nn : Nat), nv = .int .u32 (nn : Int) ∧ nn < 4294967296 ∧ Own wr B2 5 dv (u8s dd) ∧ dd.length ≤ 10 ∧ (0 < nn → dd.length ≤ 9) ∧ Hid (small 10 dd ∧ dval dd + 10 ^ dd.length * nn = x) ∧ Below W2.heap.size W2 wr)
         (fun _ nv _=>(intOf nv).toNat)
       case atStart=>exact ⟨[],x,rfl,hxb,Own.nil _ _ _,by simp,fun _=>by simp,⟨ak _,by simp [dval]⟩,Below.refl _ _⟩
       case round =>
         obtain ⟨dd,nn,rfl,hnn,hdd,hl10,hl9,HD,hbr⟩:=hrel; have hsr:=hbr.size; rcases Nat.eq_zero_or_pos nn with rfl | hnp
         · obtain ⟨A4,c4,rfl,hr4,hlc4,_⟩:=hdd.slice8; have hpl:=refPlus (c1:=c7) (c2:=c4) (hre.below hbr) hr4 hes HD.out.1 (by omega) (by omega); have HP:=Lib.hid hpl
           have HV : Hid (dval es + dval dd = val (ds.drop p)):=by
             show _ = _
             have h2:=HD.out.2; rw [Nat.mul_zero,Nat.add_zero] at h2; rw [HE.out,h2,bp ds p (by rw [← HN.out]; omega),hx.out,← HO.out]; omega
           clear hpl hl10 hl9
           go_wp2_with fail
           refine HP.out.mono ?_; rintro e w5 ⟨A5,c5,fs,rfl,hr5,hlc5,hf5,hv5,hb5⟩; have hb6 : Below w.heap.size w w5:=(hbW.trans (hbr.mono hsW)).trans (hb5.mono (by omega)); clear hb5 hbr
           go_wp2
           go_roundw
           case rel=>exact ⟨p,A5,c5,fs,by omega,by go_num,rfl,hr5,hlc5,hf5,by rw [HV.out] at hv5; exact hv5.symm,hb6⟩
           case measure=>first | (simp [intOf]; done) | (simp [intOf]; omega)
         · have hl9':=hl9 hnp
           have hstep : dval (dd ++ [nn % 10]) + 10 ^ (dd ++ [nn % 10]).length * (nn / 10) = x:=by
             have h2:=Nat.mod_add_div nn 10; rw [be,List.length_append,← HD.out.2]; simp only [dval,List.length_singleton,Nat.mul_zero,Nat.add_zero,Nat.pow_succ]; have h3 : 10 ^ dd.length * nn = 10 ^ dd.length * (nn % 10) + 10 ^ dd.length * (10 * (nn / 10)):=by rw [← Nat.mul_add,h2]
             rw [h3,Nat.mul_assoc]; omega
           have hlen2 : 0 < nn / 10 → (dd ++ [nn % 10]).length ≤ 9:=fun h=>by
             have h4 : 10 ^ (dd ++ [nn % 10]).length * 1 ≤ 10 ^ (dd ++ [nn % 10]).length * (nn / 10):=Nat.mul_le_mul_left _ h; rcases Nat.lt_or_ge 9 (dd ++ [nn % 10]).length with h5 | h5
             · have h6 : 10 ^ 10 ≤ 10 ^ (dd ++ [nn % 10]).length:=Nat.pow_le_pow_right (by decide) h5; have h7 : (10 : Nat) ^ 10 = 10000000000:=by decide
               omega
             · exact h5
           have hlen3 : (dd ++ [nn % 10]).length ≤ 10:=by rw [List.length_append]; simp; omega
           have HS:=Lib.hid hstep; have HL2:=Lib.hid hlen2; clear hstep hlen2 hl9 hl10
           go_wp2_with (at_builtin; refine wpList_append_own _ rfl _ _ 124 rfl B2 5 i0 (.int .u8 0) 1 1 Tryz.underlying124 hi hz0 hz1 hz2 rfl (by decide) _ _ _ rfl (hdd.alloc _) ⟨wr.heap.size,0,none⟩ 1 1 [.int .u8 ((nn % 10 : Nat) : Int)] rfl rfl (one_news (int_eq (by omega))) ay (by rw [ae]; unfold maxLen; omega) (by rw [ae]; omega) (by rw [HB2.out]; simp; omega) ?_)
           intro v' w2 hown' hgrow' _; have ho2:=ec hown'; have hb3:=bk hbr hdd HB2 hgrow'; clear hown' hgrow' hdd hbr
           go_wp2
           go_roundw
           case rel=>exact ⟨dd ++ [nn % 10],nn / 10,by go_num,by omega,ho2,hlen3,HL2.out,⟨small_snoc HD.out.1 (Nat.mod_lt _ (by decide)),HS.out⟩,hb3⟩
           case measure=>first | (simp [intOf]; done) | (simp [intOf]; omega)
theorem run_from_none {P : Program} {w : World} {base : Nat} {t ty e : TypeId} {i : TypeInfo} (ht : P.underlying t = some (.slice e)) (hi : P.info? e = some i) {v : Value} {n : Nat} {xs : List Value} (hown : w.ownsRow base e 1 v n xs) (c : Nat) :
   (Builtin.append_ #[t,t] ty #[v,.slice none 0 c]).run P w = .ok v w:=by
 rcases hown.2 with ⟨rfl,rfl⟩ | ⟨g,cap,cur,rfl,_,_,hle,_⟩
 all_goals simp [Builtin.append_,run_underlying ht,sizeOf,typeInfo,Builtin.lenOf,Builtin.firstCells,storeCells, *]
theorem ck {P : Program} {w : World} {ops : Array Oper} {rest : List Oper} {o : Oper} {a : Act} {Q : Exit → Act → World → Prop} (hgd : o.guard = none) (s x : Operand) (t : TypeId)
   (ho : o.op = .call { callee:=.builtin .append,args:=#[s,x],argTypes:=#[t,t] })
   (base : Nat) (e : TypeId) (i : TypeInfo) (z : Value) (bytes : Nat) (ht : P.underlying t = some (.slice e)) (hi : P.info? e = some i) (hz : i.zero = some z) (hsize : i.size = 1) (hby : i.bytes = bytes) (hzs : z.cells.size = 1)
   (v : Value) (n : Nat) (xs : List Value) (hs : a.eval s = v) (hown : w.ownsRow base e 1 v n xs)
   (A : Option Addr) (m c : Nat) (news : List Value) (hx : a.eval x = .slice A m c) (hl : news.length = m) (hr : Row w A news) (h1 : ∀ u ∈ news,u.oneCell' = true)
   (h63 : n + m ≤ maxLen) (hbytes : (n + m) * bytes ≤ 140737488355328) (hbase : base ≤ w.heap.size)
   (h : ∀ v' w',w'.ownsRow base e 1 v' (n + m) (xs ++ news) → w.grownBy w' v.ownBlock → wpList P ops Q rest (a.put o.dst v') w') : wpList P ops Q (o :: rest) a w:=by
 rcases A with _ | ad
 · have hn : news = []:=by
     cases news with
     | nil=>rfl
     | cons u us =>
       obtain ⟨ad,h,_⟩:=hr 0 u rfl
       cases h
   subst hn; obtain rfl : m = 0:=by simpa using hl.symm
   refine wpList_plain hgd fun K hK=>?_; have hrun:=run_from_none (P:=P) (w:=w) (base:=base) (t:=t) (ty:=o.type) ht hi hown c; unfold Oper.wp; simp [execOp,ho,resolve,invoke,builtin,hs,hx,hrun,Result.andThen]; exact hK _ _ (h v w (by simpa using hown) (World.grownBy.refl w _))
 · exact wpList_append_own w hgd s x t ho base e i z 1 bytes ht hi hz hsize hby hzs (by decide) v n xs hs hown ad m c news hx (by simpa using hl) (fun j u hj=>by
     obtain ⟨ad',e',hc⟩:=hr j u hj; injection e' with e'
     subst e'; exact hc) h1 h63 hbytes hbase (fun v' w' a b _=>h v' w' a b)
theorem fm (ds : List Nat) (k : Nat) (hk : k ≤ ds.length) : dval ds = dval (ds.take k) + 10 ^ k * dval (ds.drop k):=by
 have:=be (ds.take k) (ds.drop k)
 rw [List.take_append_drop,List.length_take,Nat.min_eq_left hk] at this
 exact this
theorem dval_lt_of {xs ys : List Nat} (hx : small 10 xs) (hl : xs.length = ys.length) {k : Nat} (hk : k < xs.length) (h : ∀ j,k + 1 ≤ j → xs.getD j 0 = ys.getD j 0) (hlt : xs.getD k 0 < ys.getD k 0) : dval xs < dval ys:=by
 rw [fm xs k (by omega),fm ys k (by omega),gf xs k hk,gf ys k (by omega),dz hl h]
 have h1:=dval_lt (small_take hx k)
 rw [List.length_take,Nat.min_eq_left (by omega)] at h1
 have h2 : 10 ^ k * (xs.getD k 0 + 1 + 10 * dval (ys.drop (k + 1))) ≤ 10 ^ k * (ys.getD k 0 + 10 * dval (ys.drop (k + 1))):=Nat.mul_le_mul_left _ (by omega)
 have h3 : 10 ^ k * (xs.getD k 0 + 1 + 10 * dval (ys.drop (k + 1))) = 10 ^ k * (xs.getD k 0 + 10 * dval (ys.drop (k + 1))) + 10 ^ k:=by
   rw [← Nat.mul_succ]; congr 1; omega
 omega
theorem ed {xs : List Nat} (hx : dright xs) {k : Nat} (h : dval xs < 10 ^ k) : xs.length ≤ k:=by
 rcases Nat.lt_or_ge k xs.length with h1 | h1
 · exfalso
   have hne : xs ≠ []:=fun e=>by rw [e] at h1; simp at h1
   have h2:=fm xs k (by omega)
   have h3:=dval_pos (ds:=xs.drop k) (by intro e; have:=congrArg List.length e; rw [List.length_drop] at this; simp at this; omega) (by
     rw [List.getLast?_drop,if_neg (by omega)]; rcases hx.2 with h | h
     · exact absurd h hne
     · exact h)
   have h4 : 10 ^ k * 1 ≤ 10 ^ k * dval (xs.drop k):=Nat.mul_le_mul_left _ h3; omega
 · exact h1
theorem co {xs ys : List Nat} (hx : dright xs) (hy : dright ys) (h : xs.length < ys.length) : dval xs < dval ys:=by
 rcases Nat.lt_or_ge (dval xs) (dval ys) with h1 | h1
 · exact h1
 · have h2:=dval_lt hx.1; have h3:=ed hy (k:=xs.length) (by omega); omega
theorem refOrder {w : World} {A1 A2 : Option Addr} {c1 c2 : Nat} {xs ys : List Nat} (hr1 : Row w A1 (u8s xs)) (hr2 : Row w A2 (u8s ys)) (hx : dright xs) (hy : dright ys) (hlen : xs.length ≤ 1000000) :
   Calls Tryz.prog 145 #[.slice A1 xs.length c1,.slice A2 ys.length c2] w fun e w'=>e = .returned (.int .i64 (ordI (dval xs : Int) (dval ys : Int))) ∧ Drawn w w':=by
 by_cases hl : xs.length = ys.length
 · have hne : ((xs.length : Int) != (ys.length : Int)) = false:=by rw [bne_eq_false_iff_eq]; omega
   have HL:=Lib.hid hl; clear hl
   go_enter Tryz.func145,Tryz.ntmps145
   go_wp2
   go_loopw [5] (fun i wr=>∃ k : Nat,k ≤ xs.length ∧ i = .int .i64 ((k : Int) - 1) ∧ Hid (∀ j,k ≤ j → xs.getD j 0 = ys.getD j 0) ∧ Hid (Drawn w wr)) (fun i _=>(intOf i + 1).toNat)
   case atStart=>exact ⟨xs.length,Nat.le_refl _,rfl,fun j hj=>by
     rw [List.getD_eq_getElem?_getD,List.getD_eq_getElem?_getD,List.getElem?_eq_none hj,List.getElem?_eq_none (by rw [← HL.out]; exact hj)],Drawn.refl _⟩
   case round =>
     obtain ⟨k,hk,rfl,HE,HW⟩:=hrel; rcases Nat.eq_zero_or_pos k with rfl | hpos
     · go_wp2
       go_ret
       refine ⟨cz ?_,HW.out⟩; have : xs = ys:=by simpa using dz HL.out HE.out
       rw [this]; unfold ordI; rw [if_neg (by omega),if_neg (by omega)]
     · obtain ⟨p,rfl⟩ : ∃ p,k = p + 1:=⟨k - 1,by omega⟩
       rw [show ((p + 1 : Nat) : Int) - 1 = (p : Int) from by omega]; have hlt2 : p < ys.length:=by rw [← HL.out]; omega
       obtain ⟨ad1,x,rfl,hc1,hx1,_⟩:=(hr1.drawn HW.out).byte (k:=p) (by omega); obtain ⟨ad2,y,rfl,hc2,hy1,_⟩:=(hr2.drawn HW.out).byte (k:=p) hlt2; have hi1 : (p : Int) < xs.length:=by omega
       have hi2 : (p : Int) < ys.length:=by omega
       have hi0 : 0 ≤ (p : Int):=by omega
       rcases Nat.lt_trichotomy x y with h | h | h
       · have ht : (x : Int) < (y : Int):=by omega
         go_wp2
         go_region
         all_goals
           go_wp2
           go_ret
           refine ⟨cz ?_,HW.out.more 1⟩; have e2:=dval_lt_of hx.1 HL.out (k:=p) (by omega) (fun j hj=>HE.out j hj) (by rw [hx1.out,hy1.out]; exact h); unfold ordI; rw [if_pos (by omega)]
       · subst h
         go_wp2
         go_region
         all_goals
           go_wp2
           go_region
           all_goals
             go_wp2
             go_roundw
             case rel=>exact ⟨p,by omega,by go_num,fun j hj=>by
               rcases Nat.lt_or_ge j (p + 1) with h | h
               · have : j = p:=by omega
                 rw [this,hx1.out,hy1.out]
               · exact HE.out j h,(HW.out.more 1).more 1⟩
             case measure=>first | (simp [intOf]; done) | (simp [intOf]; omega)
       · have ht : ¬ (x : Int) < (y : Int):=by omega
         have ht2 : (y : Int) < (x : Int):=by omega
         go_wp2
         go_region
         all_goals
           go_wp2
           go_region
           all_goals
             go_wp2
             go_ret
             refine ⟨cz ?_,(HW.out.more 1).more 1⟩; have e2:=dval_lt_of hy.1 HL.out.symm (k:=p) hlt2 (fun j hj=>(HE.out j hj).symm) (by rw [hx1.out,hy1.out]; exact h); unfold ordI; rw [if_neg (by omega),if_pos (by omega)]
 · have hne : ((xs.length : Int) != (ys.length : Int)) = true:=by rw [bne_iff_ne]; omega
   rcases Nat.lt_or_ge xs.length ys.length with h | h
   · have h2:=co hx hy h; have h3 : (xs.length : Int) < (ys.length : Int):=by omega
     have h4 : (-1 : Int) = ordI (dval xs : Int) (dval ys : Int):=by unfold ordI; rw [if_pos (by omega)]
     have H4:=Lib.hid h4; clear h4 h2
     go_enter Tryz.func145,Tryz.ntmps145
     go_wp2
     go_ret
     exact ⟨cz H4.out,Drawn.refl _⟩
   · have h2:=co hy hx (by omega); have h3 : ¬ (xs.length : Int) < (ys.length : Int):=by omega
     have h4 : (1 : Int) = ordI (dval xs : Int) (dval ys : Int):=by unfold ordI; rw [if_neg (by omega),if_pos (by omega)]
     have H4:=Lib.hid h4; clear h4 h2
     go_enter Tryz.func145,Tryz.ntmps145
     go_wp2
     go_ret
     exact ⟨cz H4.out,Drawn.refl _⟩
theorem refWrite {w : World} {A : Option Addr} {c : Nat} {ds : List Nat} (hr : Row w A (u8s ds)) (hd : dright ds) (hlen : ds.length ≤ 1000000) :
   Calls Tryz.prog 137 #[.slice A ds.length c] w (RetNat w (dval ds)) :=
 (write_any (c:=c) hr hd.1 hlen).mono fun _ _ ⟨v,n,he,ho,hb,h1,h2⟩=>⟨v,he,⟨chunks ds n,chunks_right hd h1 h2,chunks_all h1,ho⟩,hb⟩
theorem own_empty8 (w : World) : Own (w.alloc (.cells #[] 5)) w.heap.size 5 (.slice (some ⟨w.heap.size,0,none⟩) 0 0) (u8s []) :=
 Own.mk_ (World.ownsRow_lit w #[] 0 (Nat.le_refl _) (by decide) rfl)
theorem strip_take (ds : List Nat) : strip ds = ds.take (strip ds).length:=by
 induction ds with
 | nil=>rfl
 | cons d ds ih =>
   rw [strip]; split
   · split
     · rfl
     · rfl
   · rename_i r hr
     rw [List.length_cons,List.take_succ_cons,← ih]
theorem take_set8 {os : List Nat} {k d : Nat} (h : k < os.length) : (os.set k d).take (k + 1) = os.take k ++ [d]:=by
 rw [List.take_add_one,List.take_set_of_le (Nat.le_refl _)]; simp [h]
theorem drop_set8 {os ps : List Nat} {k d : Nat} (h : os.drop k = ps.drop k) : (os.set k d).drop (k + 1) = ps.drop (k + 1):=by
 rw [List.drop_set_of_lt (by omega),← List.drop_drop,← List.drop_drop,h]
theorem getD_of_drop {os ps : List Nat} {k : Nat} (h : os.drop k = ps.drop k) : os.getD k 0 = ps.getD k 0:=by
 have h1 : (os.drop k)[0]? = (ps.drop k)[0]?:=by rw [h]
 rw [List.getElem?_drop,List.getElem?_drop,Nat.add_zero] at h1
 rw [List.getD_eq_getElem?_getD,List.getD_eq_getElem?_getD,h1]
theorem fh {os xs ys : List Nat} {k bo bo' s x y : Nat} (hk : k < os.length) (hx : xs.getD k 0 = x) (hy : ys.getD k 0 = y) (hs : s + y + bo = x + 10 * bo') (h : dval (os.take k) + dval (ys.take k) = dval (xs.take k) + 10 ^ k * bo) :
   dval ((os.set k s).take (k + 1)) + dval (ys.take (k + 1)) = dval (xs.take (k + 1)) + 10 ^ (k + 1) * bo':=by
 rw [take_set8 hk,be,List.length_take,Nat.min_eq_left (by omega),bf ys,bf xs,hx,hy,Nat.pow_succ,Nat.mul_assoc]
 have h2 : 10 ^ k * (s + y + bo) = 10 ^ k * (x + 10 * bo'):=by rw [hs]
 rw [Nat.mul_add,Nat.mul_add,Nat.mul_add] at h2
 simp only [dval,Nat.mul_zero,Nat.add_zero]
 omega
def RetDecO (w : World) (n : Nat) (e : Ending) (w' : World) : Prop:=∃ A c ds,e = .returned (.slice A ds.length c) ∧ Own w' w.heap.size 5 (.slice A ds.length c) (u8s ds) ∧ dright ds ∧ dval ds = n ∧ Below w.heap.size w w'
theorem refLess {w : World} {A1 A2 : Option Addr} {c1 c2 : Nat} {xs ys : List Nat} (hr1 : Row w A1 (u8s xs)) (hr2 : Row w A2 (u8s ys)) (hx : small 10 xs) (hy : small 10 ys) (hl1 : xs.length ≤ 100000) (hl2 : ys.length ≤ xs.length) (hle : dval ys ≤ dval xs) :
   Calls Tryz.prog 152 #[.slice A1 xs.length c1,.slice A2 ys.length c2] w (RetDecO w (dval xs - dval ys)):=by
 obtain ⟨i0,hi,hz0,hz1,hz2⟩:=info_parts gh
 obtain ⟨n,hn⟩ : ∃ n : Nat,n = xs.length:=⟨_,rfl⟩
 obtain ⟨m,hm⟩ : ∃ m : Nat,m = ys.length:=⟨_,rfl⟩
 have hn1 : n ≤ 100000:=by omega
 have hmn : m ≤ n:=by omega
 rw [← hn,← hm]
 have HN:=Lib.hid hn
 have HM:=Lib.hid hm
 have HLE:=Lib.hid hle
 have hoe:=own_empty8 w
 have hra:=hr1.alloc (.cells #[] 5)
 clear hn hm hl1 hl2 hle
 go_enter Tryz.func152,Tryz.ntmps152
 go_wp2_with (at_builtin; refine ck rfl _ _ 124 rfl w.heap.size 5 i0 (.int .u8 0) 1 Tryz.underlying124 hi hz0 hz1 hz2 rfl _ _ _ rfl hoe A1 n c1 (u8s xs) rfl (by rw [ae,← HN.out]) hra (u8s_one xs) (by rw [ae]; unfold maxLen; simp; omega) (by rw [ae]; simp; omega) (by simp) ?_)
 intro v2 w2 hown2 hgrow2
 have ho2 : Own w2 w.heap.size 5 v2 (u8s xs):=by
   have:=Own.mk_ hown2
   simpa [u8s] using this
 have hb2 : Below w.heap.size w w2:=((Below.refl _ _).alloc (Nat.le_refl _) _).grown hgrow2 (by simp) (fun k hk=>((show (w.alloc (.cells #[] 5)).ownsRow w.heap.size 5 1 _ _ _ from hoe).lt k hk).1)
 obtain ⟨A3,c3,rfl,hr3,hc3,_⟩:=ho2.slice8
 rw [← HN.out] at ho2 hc3 ⊢
 clear hown2 hgrow2 hoe hra hr3
 go_wp2_with fail
 go_loopw [6, 7] (fun cv iv wr => ∃ (k bo : Nat) (ds : List Nat), k ≤ n ∧ iv = .int .i64 (k : Int) ∧ cv = .int .i64 (bo : Int) ∧ bo ≤ 1 ∧ Own wr w.heap.size 5 (.slice A3 n c3) (u8s ds) ∧
     Hid (ds.length = n ∧ ds.drop k = xs.drop k ∧ small 10 ds ∧ dval (ds.take k) + dval (ys.take k) = dval (xs.take k) + 10 ^ k * bo) ∧ Below w.heap.size w wr)
   (fun _ iv _=>n - (intOf iv).toNat)
 case atStart=>exact ⟨0,0,xs,Nat.zero_le _,rfl,rfl,by omega,ho2,⟨HN.out.symm,rfl,hx,by simp [dval]⟩,hb2⟩
 case round =>
   obtain ⟨k,bo,ds,hk,rfl,rfl,hbo,hown,HO,hb⟩:=hrel
   by_cases hlt : k < n
   · obtain ⟨ad,e3,_⟩:=hown.row8.at_ (k:=k) (by rw [ae,HO.out.1]; exact hlt); obtain ⟨g,rfl,hg,_⟩:=hown.lt.2 ad e3; subst e3; have hcx:=own_cell hown (k:=k) (by rw [ae,HO.out.1]; exact hlt)
     obtain ⟨x,hxe⟩ : ∃ x,x = xs.getD k 0:=⟨_,rfl⟩
     have hx10 : x < 10:=by rw [hxe]; exact ag hx (by decide) k
     have hcx1 : wr.cell? ⟨g,k,none⟩ = some (.int .u8 (x : Int)):=by
       rw [hcx.1]; have h1:=getD_of_drop HO.out.2.1; rw [List.getD_eq_getElem?_getD,List.getElem?_eq_getElem (by rw [HO.out.1]; exact hlt)] at h1; simp only [u8s,List.getElem_map]; rw [hxe,← h1]; rfl
     have hcx2:=hcx.2; have hkc : k < c3:=by omega
     have hd1 : ∀ s,(ds.set k s).length = n:=fun s=>by rw [List.length_set]; exact HO.out.1
     have hd2 : ∀ s,(ds.set k s).drop (k + 1) = xs.drop (k + 1):=fun s=>drop_set8 HO.out.2.1
     have hd3 : ∀ s,s < 10 → small 10 (ds.set k s):=fun s hs=>by
       intro d hd; rcases List.mem_or_eq_of_mem_set hd with h | h
       · exact HO.out.2.2.1 d h
       · rw [h]; exact hs
     have hset:=fun s=>own_set8 hown k s; have HSET:=Lib.hid hset; have HD1:=Lib.hid hd1; have HD2:=Lib.hid hd2; have HD3:=Lib.hid hd3; have HXE:=Lib.hid hxe; clear hcx hd1 hd2 hd3 hset hxe hown
     by_cases hkm : k < m
     · obtain ⟨ad2,y,rfl,hcy,hye,hym⟩:=(hr2.below hb).byte (k:=k) (by rw [← HM.out]; exact hkm); have hy10:=hy y hym; clear hym
       by_cases hneg : x < bo + y
       · obtain ⟨s,hs⟩ : ∃ s : Nat,s = x + 10 - bo - y:=⟨_,rfl⟩
         have hsi : (x : Int) - (bo : Int) - (y : Int) + 10 = (s : Int):=by omega
         have hst:=fh (os:=ds) (xs:=xs) (ys:=ys) (bo':=1) (by rw [HO.out.1]; exact hlt) HXE.out.symm hye.out (show s + y + bo = x + 10 * 1 by omega) HO.out.2.2.2; have HST:=Lib.hid hst; have hs10 : s < 10:=by omega
         have hn1' : decide ((x : Int) - (bo : Int) - (y : Int) < 0) = true:=by rw [decide_eq_true_eq]; omega
         clear hs hst hneg
         go_wp2
         go_roundw
         case rel=>exact ⟨k + 1,1,ds.set k s,by omega,by go_num,rfl,by omega,HSET.out s,⟨HD1.out s,HD2.out s,HD3.out s hs10,HST.out⟩,hb.setCell hg _⟩
         case measure=>simp [intOf]; omega
       · obtain ⟨s,hs⟩ : ∃ s : Nat,s = x - bo - y:=⟨_,rfl⟩
         have hsi : (x : Int) - (bo : Int) - (y : Int) = (s : Int):=by omega
         have hst:=fh (os:=ds) (xs:=xs) (ys:=ys) (bo':=0) (by rw [HO.out.1]; exact hlt) HXE.out.symm hye.out (show s + y + bo = x + 10 * 0 by omega) HO.out.2.2.2; have HST:=Lib.hid hst; have hs10 : s < 10:=by omega
         have hn1' : decide ((s : Int) < 0) = false:=by rw [decide_eq_false_iff_not]; omega
         clear hs hst hneg
         go_wp2
         go_roundw
         case rel=>exact ⟨k + 1,0,ds.set k s,by omega,by go_num,rfl,by omega,HSET.out s,⟨HD1.out s,HD2.out s,HD3.out s hs10,HST.out⟩,hb.setCell hg _⟩
         case measure=>simp [intOf]; omega
     · have hye : ys.getD k 0 = 0:=getD_out (by rw [← HM.out]; exact hkm); have HYE:=Lib.hid hye; clear hye
       by_cases hneg : x < bo
       · obtain ⟨s,hs⟩ : ∃ s : Nat,s = x + 10 - bo:=⟨_,rfl⟩
         have hsi : (x : Int) - (bo : Int) + 10 = (s : Int):=by omega
         have hst:=fh (os:=ds) (xs:=xs) (ys:=ys) (bo':=1) (by rw [HO.out.1]; exact hlt) HXE.out.symm HYE.out (show s + 0 + bo = x + 10 * 1 by omega) HO.out.2.2.2; have HST:=Lib.hid hst; have hs10 : s < 10:=by omega
         have hn1' : decide ((x : Int) - (bo : Int) < 0) = true:=by rw [decide_eq_true_eq]; omega
         clear hs hst hneg
         go_wp2
         go_roundw
         case rel=>exact ⟨k + 1,1,ds.set k s,by omega,by go_num,rfl,by omega,HSET.out s,⟨HD1.out s,HD2.out s,HD3.out s hs10,HST.out⟩,hb.setCell hg _⟩
         case measure=>simp [intOf]; omega
       · obtain ⟨s,hs⟩ : ∃ s : Nat,s = x - bo:=⟨_,rfl⟩
         have hsi : (x : Int) - (bo : Int) = (s : Int):=by omega
         have hst:=fh (os:=ds) (xs:=xs) (ys:=ys) (bo':=0) (by rw [HO.out.1]; exact hlt) HXE.out.symm HYE.out (show s + 0 + bo = x + 10 * 0 by omega) HO.out.2.2.2; have HST:=Lib.hid hst; have hs10 : s < 10:=by omega
         have hn1' : decide ((s : Int) < 0) = false:=by rw [decide_eq_false_iff_not]; omega
         clear hs hst hneg
         go_wp2
         go_roundw
         case rel=>exact ⟨k + 1,0,ds.set k s,by omega,by go_num,rfl,by omega,HSET.out s,⟨HD1.out s,HD2.out s,HD3.out s hs10,HST.out⟩,hb.setCell hg _⟩
         case measure=>simp [intOf]; omega
   · obtain rfl : k = n:=by omega
     have hv:=HO.out.2.2.2; rw [List.take_of_length_le (by rw [HO.out.1]; exact Nat.le_refl _),List.take_of_length_le (by rw [← HM.out]; exact hmn),List.take_of_length_le (by rw [← HN.out]; exact Nat.le_refl _)] at hv; have hdl:=dval_lt HO.out.2.2.1; rw [HO.out.1] at hdl
     have hbo0 : dval ds = dval xs - dval ys:=by
       have:=HLE.out; rcases (show bo = 0 ∨ bo = 1 by omega) with h | h
       · rw [h,Nat.mul_zero,Nat.add_zero] at hv; omega
       · rw [h,Nat.mul_one] at hv; omega
     have HV:=Lib.hid hbo0; have htr:=ff (w:=wr) (A:=A3) (c:=c3) (ds:=ds) hown.row8 (by rw [HO.out.1]; omega) (by rw [HO.out.1]; exact hc3); rw [HO.out.1] at htr; have HTR:=Lib.hid htr; clear hv hdl hbo0 htr
     go_wp2_with fail
     refine HTR.out.mono ?_; rintro e w3 ⟨⟨rfl,_⟩,hw3⟩; subst hw3
     go_wp2
     go_ret
     have hcut:=hown.cut (strip ds).length (by rw [ae]; exact strip_length ds); rw [u8s_take,← strip_take] at hcut; exact ⟨A3,c3,strip ds,rfl,hcut,ct HO.out.2.2.1,by rw [dp]; exact HV.out,hb⟩
theorem own_lit8 (w : World) {B : Nat} (d : Nat) (hB : B ≤ w.heap.size) : Own (w.alloc (.cells #[Value.int .u8 (d : Int)] 5)) B 5 (.slice (some ⟨w.heap.size,0,none⟩) 1 1) (u8s [d]) :=
 Own.mk_ (World.ownsRow_lit w #[Value.int .u8 (d : Int)] 1 hB (by decide) rfl)
def Apart (A : Option Addr) (g : Nat) : Prop:=∀ g',A = some ⟨g',0,none⟩ → g' ≠ g
theorem Own.set_apart {w : World} {B T n c g k : Nat} {A : Option Addr} {xs : List Value} (h : Own w B T (.slice A n c) xs) (ha : Apart A g) (u : Value) : Own (w.setCell ⟨g,k,none⟩ u) B T (.slice A n c) xs:=by
 have hh : w.ownsRow B T 1 (.slice A n c) xs.length xs:=h
 refine ⟨hh.1,?_⟩
 rcases hh.2 with h0 | ⟨g',cap,cur,e,hB,hg,r⟩
 · exact .inl h0
 · refine .inr ⟨g',cap,cur,e,hB,?_,r⟩; have e1 : A = some ⟨g',0,none⟩:=by injection e
   exact (Below.heap_setCell _ _ _ _ (ha g' e1)).trans hg
theorem apart_new {w : World} {B T n c g : Nat} {A : Option Addr} {xs : List Value} (h : Own w B T (.slice A n c) xs) (hg : g < B) : Apart A g:=by
 intro g' e
 obtain ⟨g2,e2,h2,_⟩:=h.lt.2 _ e
 injection e2 with e2
 omega
theorem part_bound {x r Y : Nat} (hx : x < 10) (hr : r < Y) : x + 10 * r < 10 * Y:=by omega
theorem part_step {xs qs : List Nat} {p x r r' t Y : Nat} (hp : p < xs.length) (hq : qs.length = xs.length) (hx : xs.getD p 0 = x) (ht : r' + t * Y = x + 10 * r) (h : dval (qs.drop (p + 1)) * Y + r = dval (xs.drop (p + 1))) :
   dval ((qs.set p t).drop p) * Y + r' = dval (xs.drop p):=by
 have e1 : (qs.set p t).drop p = t :: qs.drop (p + 1):=by
   have hl : p < (qs.set p t).length:=by rw [List.length_set]; omega
   rw [List.drop_eq_getElem_cons hl]; congr 1
   · simp
   · rw [List.drop_set_of_lt (by omega)]
 rw [e1,gf xs p hp,hx,← h,dval,Nat.add_mul,Nat.mul_add,Nat.mul_assoc]
 omega
def RetPart (w : World) (q r : Nat) (e : Ending) (w' : World) : Prop:=∃ A c ds B d es,e = .returned (.tuple #[.slice A ds.length c,.slice B es.length d]) ∧ Row w' A (u8s ds) ∧ dright ds ∧ dval ds = q ∧ Row w' B (u8s es) ∧ dright es ∧ dval es = r ∧ Below w.heap.size w w'
theorem refParted {w : World} {A1 A2 : Option Addr} {c1 c2 : Nat} {xs ys : List Nat} (hr1 : Row w A1 (u8s xs)) (hr2 : Row w A2 (u8s ys)) (hx : small 10 xs) (hy : dright ys) (hl1 : xs.length ≤ 50000) (hl2 : ys.length ≤ 50000) (h0 : 0 < dval ys) :
   Calls Tryz.prog 139 #[.slice A1 xs.length c1,.slice A2 ys.length c2] w (RetPart w (dval xs / dval ys) (dval xs % dval ys)):=by
 obtain ⟨i0,hi,hz0,hz1,hz2⟩:=info_parts gh
 obtain ⟨n,hn⟩ : ∃ n : Nat,n = xs.length:=⟨_,rfl⟩
 obtain ⟨m,hm⟩ : ∃ m : Nat,m = ys.length:=⟨_,rfl⟩
 obtain ⟨Y,hY⟩ : ∃ Y,Y = dval ys:=⟨_,rfl⟩
 have hn1 : n ≤ 50000:=by omega
 have hm1 : m ≤ 50000:=by omega
 have hYm:=dval_lt hy.1
 rw [← hY,← hm] at hYm
 rw [← hn,← hm,← hY]
 have hY0 : 0 < Y:=by omega
 have HN:=Lib.hid hn
 have HM:=Lib.hid hm
 have HY:=Lib.hid hY
 have HYM:=Lib.hid hYm
 clear hn hm hY hYm hl1 hl2 h0
 go_enter Tryz.func139,Tryz.ntmps139
 go_wp2_with (at_make; refine wpList_make_full _ rfl _ _ 124 rfl w.heap.size 5 i0 (.int .u8 0) 1 Tryz.underlying124 hi hz0 hz1 .i64 .i64 (n : Int) (n : Int) n rfl rfl rfl rfl ?b2 ?b3 ?b4 ?_)
 case b2=>first | omega | (rw [hz2]; omega)
 case b3=>unfold maxLen; omega
 case b4=>exact Nat.le_refl _
 intro w1 hown hgrow
 have ho1:=fl hown
 have hb1 : Below w.heap.size w w1:=(Below.refl _ _).grown hgrow (Nat.le_refl _) (fun k h=>by cases h)
 obtain ⟨gq,hgq⟩ : ∃ g,g = w.heap.size:=⟨_,rfl⟩
 rw [← hgq] at ho1 ⊢
 have hgw : gq < w1.heap.size:=by
   have:=ho1.lt.2 _ rfl; obtain ⟨g,e,_,h⟩:=this; injection e with e; omega
 have hgq' : gq ≤ gq:=Nat.le_refl _
 have HGQ:=Lib.hid hgq
 clear hown hgrow hgq hgq'
 go_wp2_with fail
 go_loopw [7, 8] (fun rv iv wr => ∃ (k : Nat) (Ar : Option Addr) (cr : Nat) (rs qs : List Nat), k ≤ n ∧ iv = .int .i64 ((k : Int) - 1) ∧ rv = .slice Ar rs.length cr ∧ Own wr gq 5 (.slice Ar rs.length cr) (u8s rs) ∧ Hid (Apart Ar gq) ∧ Own wr gq 5 (.slice (some ⟨gq, 0, none⟩) n n) (u8s qs) ∧
     Hid (qs.length = n ∧ small 10 qs ∧ dright rs ∧ dval rs < Y ∧ dval (qs.drop k) * Y + dval rs = dval (xs.drop k) ∧ ∀ j,j < k → qs.getD j 0 = 0) ∧ Below gq w wr ∧ gq < wr.heap.size)
   (fun _ iv _=>(intOf iv + 1).toNat)
 case atStart =>
   refine ⟨n,none,0,[],List.replicate n 0,Nat.le_refl _,rfl,rfl,Own.nil _ _ _,(fun g' e=>by cases e),ho1,⟨by simp,bm _ _ (by decide),⟨ak _,.inl rfl⟩,by simpa [dval] using hY0,?_,fun j hj=>by simp [List.getD,hj]⟩,HGQ.out ▸ hb1,hgw⟩; rw [List.drop_of_length_le (by simp),List.drop_of_length_le (by rw [HN.out]; exact Nat.le_refl _)]; simp [dval]
 case round =>
   obtain ⟨k,Ar,cr,rs,qs,hk,rfl,rfl,hor,HA,hoq,HO,hb,hsz⟩:=hrel; rcases Nat.eq_zero_or_pos k with rfl | hpos
   · have h:=HO.out.2.2.2.2.1; rw [List.drop_zero,List.drop_zero] at h; have hrl:=HO.out.2.2.2.1; have e1 : dval qs = dval xs / Y:=by rw [← h,Nat.mul_comm,Nat.mul_add_div hY0,Nat.div_eq_of_lt hrl,Nat.add_zero]
     have e2 : dval rs = dval xs % Y:=by rw [← h,Nat.mul_comm,Nat.mul_add_mod,Nat.mod_eq_of_lt hrl]
     have htr:=ff (w:=wr) (A:=some ⟨gq,0,none⟩) (c:=n) (ds:=qs) hoq.row8 (by rw [HO.out.1]; omega) (by rw [HO.out.1]; exact Nat.le_refl _); rw [HO.out.1] at htr; have HTR:=Lib.hid htr; have E1:=Lib.hid e1; have E2:=Lib.hid e2; clear h hrl e1 e2 htr
     go_wp2_with fail
     refine HTR.out.mono ?_; rintro e w3 ⟨⟨rfl,hrq⟩,hw3⟩; subst hw3
     go_wp2
     go_ret2
     exact ⟨_,_,strip qs,_,_,rs,rfl,hrq,ct HO.out.2.1,by rw [dp]; exact E1.out,hor.row8,HO.out.2.2.1,E2.out,HGQ.out ▸ hb⟩
   · obtain ⟨p,rfl⟩ : ∃ p,k = p + 1:=⟨k - 1,by omega⟩
     rw [show ((p + 1 : Nat) : Int) - 1 = (p : Int) from by omega]; have hbW : Below w.heap.size w wr:=HGQ.out ▸ hb; obtain ⟨ad,x,rfl,hcx,hxe,hxm⟩:=(hr1.below hbW).byte (k:=p) (by rw [← HN.out]; omega); have hx10:=hx x hxm; have hpn : p < n:=by omega
     clear hxm hpos; have hrl : rs.length ≤ m:=ed HO.out.2.2.1 (Nat.lt_trans HO.out.2.2.2.1 HYM.out)
     go_wp2_with (at_builtin; refine ck rfl _ _ 124 rfl wr.heap.size 5 i0 (.int .u8 0) 1 Tryz.underlying124 hi hz0 hz1 hz2 rfl _ _ _ rfl (own_lit8 wr x (Nat.le_refl _)) Ar rs.length cr (u8s rs) rfl (by rw [ae]) (hor.row8.alloc _) (u8s_one rs) (by rw [ae]; unfold maxLen; simp; omega) (by rw [ae]; simp; omega) (by simp) ?_)
     intro v2 w2 hown2 hgrow2
     have ho2 : Own w2 wr.heap.size 5 v2 (u8s (x :: rs)):=by
       have:=Own.mk_ hown2
       simpa [u8s] using this
     have hb2 : Below wr.heap.size wr w2:=((Below.refl _ _).alloc (Nat.le_refl _) _).grown hgrow2 (by simp) (fun k hk=>((show (wr.alloc (.cells #[Value.int .u8 (x : Int)] 5)).ownsRow wr.heap.size 5 1 _ _ _ from own_lit8 wr x (Nat.le_refl _)).lt k hk).1); obtain ⟨A4,c4,rfl,hr4,hc4,_⟩:=ho2.slice8; have hxl : (x :: rs).length ≤ 100000:=by rw [List.length_cons]; omega
     have htr:=ff (w:=w2) (A:=A4) (c:=c4) (ds:=x :: rs) hr4 (by omega) hc4; have HTR:=Lib.hid htr; have hoq2:=hoq.below hb2; have hb3 : Below gq w w2:=hb.trans (hb2.mono (by omega)); have hs2 : gq < w2.heap.size:=Nat.lt_of_lt_of_le hsz hb2.size
     have hsm : small 10 (x :: rs):=fun d hd=>by
       rcases List.mem_cons.1 hd with h | h
       · rw [h]; exact hx10
       · exact HO.out.2.2.1.1 d h
     have hcut:=ho2.cut (strip (x :: rs)).length (by rw [ae]; exact strip_length _); rw [u8s_take,← strip_take] at hcut; have hap : Apart A4 gq:=apart_new hcut hsz; have hcut':=hcut.mono (Nat.le_of_lt hsz)
     obtain ⟨rs1,hrs1⟩ : ∃ rs1,rs1 = strip (x :: rs):=⟨_,rfl⟩
     have hd1 : dright rs1:=by rw [hrs1]; exact ct hsm
     have hv1 : dval rs1 = x + 10 * dval rs:=by rw [hrs1,dp]; rfl
     rw [← hrs1] at hcut' HTR
     obtain ⟨V,hV⟩ : ∃ V,V = x + 10 * dval rs:=⟨_,rfl⟩
     rw [← hV] at hv1; have hV10 : V < 10 * Y:=by rw [hV]; exact part_bound hx10 HO.out.2.2.2.1
     have hqp : qs.getD p 0 = 0:=HO.out.2.2.2.2.2 p (Nat.lt_succ_self p)
     have hset0 : qs.set p 0 = qs:=by
       have hl : p < qs.length:=by rw [HO.out.1]; exact hpn
       rw [List.getD_eq_getElem?_getD,List.getElem?_eq_getElem hl] at hqp; apply List.ext_getElem (by simp); intro i h1 h2; rw [List.getElem_set]; split
       · rename_i h; subst h; exact hqp.symm
       · rfl
     have hoq3 : Own w2 gq 5 (.slice (some ⟨gq,0,none⟩) n n) (u8s (qs.set p 0)):=by rw [hset0]; exact hoq2
     have HAP:=Lib.hid hap; have HV:=Lib.hid hV; have HV1:=Lib.hid hv1; have HXE:=Lib.hid hxe.out; clear hown2 hgrow2 ho2 hb2 hr4 hc4 htr hoq hoq2 hb hsz hsm hcut hap hrs1 hV hv1 hqp hset0 hor hbW
     go_wp2_with fail
     refine HTR.out.mono ?_; rintro e w3 ⟨⟨rfl,_⟩,hw3⟩; subst hw3
     go_wp2_with fail
     go_loopw [7] (fun rv wr => ∃ (t : Nat) (Ar : Option Addr) (cr : Nat) (rt : List Nat), t ≤ 9 ∧ rv = .slice Ar rt.length cr ∧ Own wr gq 5 (.slice Ar rt.length cr) (u8s rt) ∧ Hid (Apart Ar gq) ∧ Hid (dright rt ∧ dval rt + t * Y = V) ∧ Own wr gq 5 (.slice (some ⟨gq, 0, none⟩) n n) (u8s (qs.set p t)) ∧ Below gq w wr ∧ gq < wr.heap.size)
       (fun _ wr=>10 - (intOf ((wr.cell? ⟨gq,p,none⟩).getD (.int .u8 0))).toNat)
     case atStart=>exact ⟨0,A4,c4,rs1,by omega,rfl,hcut',HAP.out,⟨hd1,by rw [HV1.out]; omega⟩,hoq3,hb3,hs2⟩
     case round =>
       obtain ⟨t,Ar,cr,rt,ht9,rfl,hort,HA2,HT,hoqt,hbt,hst⟩:=hrel; have hbW2 : Below w.heap.size w wr:=HGQ.out ▸ hbt
       have hrl2 : rt.length ≤ m + 1:=ed HT.out.1 (by
         have h1:=HT.out.2; have h2:=HYM.out
         rw [Nat.pow_succ]; omega)
       obtain ⟨o,ho⟩ : ∃ o,o = ordI (dval rt : Int) (Y : Int):=⟨_,rfl⟩
       have hord:=refOrder (w:=wr) (c1:=cr) (c2:=c2) hort.row8 (hr2.below hbW2) HT.out.1 hy (by omega); rw [← HY.out,← HM.out,← ho] at hord; have HORD:=Lib.hid hord; have hqp:=own_cell hoqt (k:=p) (by rw [ae,List.length_set,HO.out.1]; exact hpn)
       have hqpv : (u8s (qs.set p t))[p]'(by rw [ae,List.length_set,HO.out.1]; exact hpn) = .int .u8 (t : Int):=by
         simp only [u8s,List.getElem_map,List.getElem_set_self]
       rw [hqpv] at hqp; have hcell1:=hqp.1; have HC1:=Lib.hid hcell1; clear hord hqpv hqp hcell1 hbW2
       by_cases hge : Y ≤ dval rt
       · have hon : decide (0 ≤ o) = true:=by
           rw [decide_eq_true_eq,ho]; unfold ordI; rw [if_neg (by omega)]; split <;> omega
         have ht8 : t ≤ 8:=by
           have h1:=HT.out.2; rcases Nat.lt_or_ge t 9 with h | h
           · omega
           · exfalso
             have : 9 * Y ≤ t * Y:=Nat.mul_le_mul_right _ h; omega
         have hyl : ys.length ≤ rt.length:=by
           rcases Nat.lt_or_ge rt.length ys.length with h | h
           · have h1:=co HT.out.1 hy h; rw [← HY.out] at h1; omega
           · exact h
         have HGE:=Lib.hid hge; have HYL:=Lib.hid hyl; clear ho hge hyl
         go_wp2_with fail
         refine HORD.out.mono ?_; rintro e w4 ⟨rfl,hd4⟩; have hb4 : Below wr.heap.size wr w4:=hd4.below; have hort4:=hort.below hb4; have hoqt4:=hoqt.below hb4; have hbt4 : Below gq w w4:=hbt.trans (hb4.mono (by omega)); have hst4 : gq < w4.heap.size:=Nat.lt_of_lt_of_le hst hb4.size; have hls:=refLess (w:=w4) (c1:=cr) (c2:=c2) hort4.row8 (hr2.below (HGQ.out ▸ hbt4)) HT.out.1.1 hy.1 (by omega) HYL.out (by rw [← HY.out]; exact HGE.out); rw [← HM.out,← HY.out] at hls; have HLS:=Lib.hid hls; clear hls hd4 hb4 hort hoqt hbt hst hort4
         go_wp2_with fail
         refine HLS.out.mono ?_; rintro e w5 ⟨A5,c5,ds5,rfl,ho5,hd5,hv5,hb5⟩; have hap5 : Apart A5 gq:=apart_new ho5 hst4; have ho5':=ho5.mono (Nat.le_of_lt hst4); have hoqt5:=hoqt4.below hb5; have hbt5 : Below gq w w5:=hbt4.trans (hb5.mono (by omega)); have hst5 : gq < w5.heap.size:=Nat.lt_of_lt_of_le hst4 hb5.size; have hq5:=own_cell hoqt5 (k:=p) (by rw [ae,List.length_set,HO.out.1]; exact hpn)
         have hq5v : (u8s (qs.set p t))[p]'(by rw [ae,List.length_set,HO.out.1]; exact hpn) = .int .u8 (t : Int):=by
           simp only [u8s,List.getElem_map,List.getElem_set_self]
         rw [hq5v] at hq5; obtain ⟨hq5a,hq5b⟩:=hq5; have hset5:=own_set8 hoqt5 p (t + 1); rw [List.set_set] at hset5; have HSET:=Lib.hid hset5; have hr5:=fun u=>ho5'.set_apart (k:=p) hap5 u; have HR5:=Lib.hid hr5; have HAP5:=Lib.hid hap5; have HV5:=Lib.hid hv5; clear hq5v hset5 hr5 hap5 hv5 ho5 ho5' hoqt4 hoqt5 hb5 HLS
         go_wp2
         go_roundw
         case rel=>exact ⟨t + 1,A5,c5,ds5,by omega,rfl,HR5.out _,HAP5.out,⟨hd5,by
           have h1:=HT.out.2; have h2:=HGE.out
           rw [HV5.out,Nat.add_mul,Nat.one_mul]; omega⟩,HSET.out,hbt5.setCell (Nat.le_refl _) _,by rw [World.size_setCell]; exact hst5⟩
         case measure =>
           have h1:=(own_cell HSET.out (k:=p) (by rw [ae,List.length_set,HO.out.1]; exact hpn)).1
           have h2 : (u8s (qs.set p (t + 1)))[p]'(by rw [ae,List.length_set,HO.out.1]; exact hpn) = .int .u8 ((t + 1 : Nat) : Int):=by
             simp only [u8s,List.getElem_map,List.getElem_set_self]
           rw [h2] at h1; have h3:=HC1.out; have h4 : ((t + 1 : Nat) : Int) = (t : Int) + 1:=by omega
           rw [h4] at h1; rw [h3,h1]; simp [intOf]; omega
       · have hon : decide (0 ≤ o) = false:=by
           rw [decide_eq_false_iff_not,ho]; unfold ordI; rw [if_pos (by omega)]; omega
         have hps:=part_step (xs:=xs) (qs:=qs) (p:=p) (r:=dval rs) (r':=dval rt) (t:=t) (Y:=Y) (by rw [← HN.out]; exact hpn) (by rw [HO.out.1,HN.out]) HXE.out (by rw [HT.out.2,HV.out]) HO.out.2.2.2.2.1; have HPS:=Lib.hid hps; have HGE:=Lib.hid (Nat.lt_of_not_le hge); clear ho hge hps
         go_wp2_with fail
         refine HORD.out.mono ?_; rintro e w4 ⟨rfl,hd4⟩; have hb4 : Below wr.heap.size wr w4:=hd4.below; have hort4:=hort.below hb4; have hoqt4:=hoqt.below hb4; have hbt4 : Below gq w w4:=hbt.trans (hb4.mono (by omega)); have hst4 : gq < w4.heap.size:=Nat.lt_of_lt_of_le hst hb4.size; clear hd4 hb4 hort hoqt hbt hst
         go_wp2
         go_roundw
         case rel=>exact ⟨p,Ar,cr,rt,qs.set p t,by omega,by go_num,rfl,hort4,HA2.out,hoqt4,⟨by rw [List.length_set]; exact HO.out.1,df HO.out.2.1 p (by omega),HT.out.1,HGE.out,HPS.out,fun j hj=>by
           rw [cp t (by omega)]; exact HO.out.2.2.2.2.2 j (by omega)⟩,hbt4,hst4⟩
         case measure=>first | (simp [intOf]; done) | (simp [intOf]; omega)
theorem dy {ds : List Nat} {n k : Nat} (h : dright ds) (hv : dval ds = n) (hn : n < 1000000000 ^ k) : ds.length ≤ 9 * k :=
 ed h (by rw [hv,Nat.pow_mul]; exact hn)
theorem refTrim {w : World} {A : Option Addr} {c k : Nat} {xs : List Nat} (hr : Row w A (u32s xs)) (hd : small 4294967296 xs) (hlen : xs.length ≤ 1100) (hk : val xs < 1000000000 ^ k) (hk2 : k ≤ 2000) :
   Calls Tryz.prog 109 #[.slice A xs.length c] w (RetR w (val xs)):=by
 have hrd:=refRead (c:=c) hr hd hlen
 have HRD:=Lib.hid hrd
 have HK:=Lib.hid hk
 clear hrd hk
 go_enter Tryz.func109,Tryz.ntmps109
 go_wp2_with fail
 refine HRD.out.mono ?_
 rintro e w1 ⟨A1,c1,ds,rfl,h1,_,h3,h4,h5⟩
 have hl:=dy h3 h4 HK.out
 have hwr:=refWrite (c:=c1) h1 h3 (by omega)
 rw [h4] at hwr
 have HWR:=Lib.hid hwr
 clear hwr h1 h3 h4
 go_wp2_with fail
 refine HWR.out.mono ?_
 rintro e w2 h
 obtain ⟨A2,j2,c2,rfl,hr2,hb2⟩:=ev h HK.out (by omega)
 have hb:=bstep h5 hb2
 clear h hb2
 go_wp2
 go_ret
 exact ⟨A2,j2,c2,rfl,hr2,hb⟩
theorem refSub_yes {w : World} {A1 A2 : Option Addr} {c1 c2 k : Nat} {xs ys : List Nat} (hr1 : Row w A1 (u32s xs)) (hr2 : Row w A2 (u32s ys)) (hx : small 4294967296 xs) (hy : small 4294967296 ys) (hl1 : xs.length ≤ 1100) (hl2 : ys.length ≤ 1100) (hk : val xs < 1000000000 ^ k) (hk2 : k ≤ 2000) (hle : val ys ≤ val xs) :
   Calls Tryz.prog 133 #[.slice A1 xs.length c1,.slice A2 ys.length c2] w (RetS w (val xs - val ys)):=by
 have hrd:=refRead (c:=c1) hr1 hx hl1
 have hrd2:=fun (W : World) (hW : Below w.heap.size w W)=>refRead (c:=c2) (hr2.below hW) hy hl2
 have HRD:=Lib.hid hrd
 have HRD2:=Lib.hid hrd2
 have HK:=Lib.hid hk
 have HLE:=Lib.hid hle
 obtain ⟨o,ho⟩ : ∃ o,o = ordI (val xs : Int) (val ys : Int):=⟨_,rfl⟩
 have hon : decide (o < 0) = false:=by
   rw [decide_eq_false_iff_not,ho]; unfold ordI; rw [if_neg (by omega)]; split <;> omega
 have HO:=Lib.hid ho
 clear hrd hrd2 hk hle ho
 go_enter Tryz.func133,Tryz.ntmps133
 go_wp2_with fail
 refine HRD.out.mono ?_
 rintro e w1 ⟨A3,c3,ds,rfl,h1,_,h3,h4,h5⟩
 go_wp2_with fail
 refine (HRD2.out _ h5).mono ?_
 rintro e w2 ⟨A4,c4,es,rfl,g1,_,g3,g4,g5⟩
 have hl:=dy h3 h4 HK.out
 have h1':=h1.below g5
 have hor:=refOrder (c1:=c3) (c2:=c4) h1' g1 h3 g3 (by omega)
 rw [h4,g4,← HO.out] at hor
 have HOR:=Lib.hid hor
 have hb:=bstep h5 g5
 have hll : es.length ≤ ds.length:=by
   rcases Nat.lt_or_ge ds.length es.length with h | h
   · have h2:=co h3 g3 h; have:=HLE.out; rw [h4,g4] at h2; omega
   · exact h
 clear hor h1 h5 g5
 go_wp2_with fail
 refine HOR.out.mono ?_
 rintro e w3 ⟨rfl,hd⟩
 have hb3:=bstep hb hd.below
 have hls:=refLess (c1:=c3) (c2:=c4) (h1'.drawn hd) (g1.drawn hd) h3.1 g3.1 (by omega) hll (by rw [h4,g4]; exact HLE.out)
 rw [h4,g4] at hls
 have HLS:=Lib.hid hls
 clear hb hd h1' g1 h3 g3 h4 g4 hls
 go_wp2_with fail
 refine HLS.out.mono ?_
 rintro e w4 ⟨A5,c5,fs,rfl,f1,f2,f3,f4⟩
 have hb4:=bstep hb3 f4
 have hfl:=dy f2 f3 (Nat.lt_of_le_of_lt (Nat.sub_le _ _) HK.out)
 have hwr:=refWrite (c:=c5) f1.row8 f2 (by omega)
 rw [f3] at hwr
 have HWR:=Lib.hid hwr
 clear hwr f1 f2 f3 f4 hb3
 go_wp2_with fail
 refine HWR.out.mono ?_
 rintro e w5 h
 obtain ⟨A6,j6,c6,rfl,hr6,hb6⟩:=ev h (Nat.lt_of_le_of_lt (Nat.sub_le _ _) HK.out) (by omega)
 have hb5:=bstep hb4 hb6
 clear h hb6
 go_wp2
 go_ret2
 exact ⟨A6,j6,c6,rfl,hr6,hb5⟩
theorem refSub_no {w : World} {A1 A2 : Option Addr} {c1 c2 k : Nat} {xs ys : List Nat} (hr1 : Row w A1 (u32s xs)) (hr2 : Row w A2 (u32s ys)) (hx : small 4294967296 xs) (hy : small 4294967296 ys) (hl1 : xs.length ≤ 1100) (hl2 : ys.length ≤ 1100) (hk : val xs < 1000000000 ^ k) (hk2 : k ≤ 2000) (hle : val xs < val ys) :
   Calls Tryz.prog 133 #[.slice A1 xs.length c1,.slice A2 ys.length c2] w fun e w'=>e = .returned (.tuple #[.slice none 0 0,.bool false]) ∧ Below w.heap.size w w':=by
 have hrd:=refRead (c:=c1) hr1 hx hl1
 have hrd2:=fun (W : World) (hW : Below w.heap.size w W)=>refRead (c:=c2) (hr2.below hW) hy hl2
 have HRD:=Lib.hid hrd
 have HRD2:=Lib.hid hrd2
 have HK:=Lib.hid hk
 obtain ⟨o,ho⟩ : ∃ o,o = ordI (val xs : Int) (val ys : Int):=⟨_,rfl⟩
 have hon : decide (o < 0) = true:=by
   rw [decide_eq_true_eq,ho]; unfold ordI; rw [if_pos (by omega)]; omega
 have HO:=Lib.hid ho
 clear hrd hrd2 hk hle ho
 go_enter Tryz.func133,Tryz.ntmps133
 go_wp2_with fail
 refine HRD.out.mono ?_
 rintro e w1 ⟨A3,c3,ds,rfl,h1,_,h3,h4,h5⟩
 go_wp2_with fail
 refine (HRD2.out _ h5).mono ?_
 rintro e w2 ⟨A4,c4,es,rfl,g1,_,g3,g4,g5⟩
 have hl:=dy h3 h4 HK.out
 have hor:=refOrder (c1:=c3) (c2:=c4) (h1.below g5) g1 h3 g3 (by omega)
 rw [h4,g4,← HO.out] at hor
 have HOR:=Lib.hid hor
 have hb:=bstep h5 g5
 clear hor h1 h3 h4 h5 g1 g3 g4 g5
 go_wp2_with fail
 refine HOR.out.mono ?_
 rintro e w3 ⟨rfl,hd⟩
 have hb3:=bstep hb hd.below
 clear hb hd
 go_wp2
 go_ret2
 exact ⟨rfl,hb3⟩
theorem refDiv_yes {w : World} {A1 A2 : Option Addr} {c1 c2 k : Nat} {xs ys : List Nat} (hr1 : Row w A1 (u32s xs)) (hr2 : Row w A2 (u32s ys)) (hx : small 4294967296 xs) (hy : small 4294967296 ys) (hl1 : xs.length ≤ 1100) (hl2 : ys.length ≤ 1100) (hk : val xs < 1000000000 ^ k) (hky : val ys < 1000000000 ^ k) (hk2 : k ≤ 2000) (h0 : 0 < val ys) :
   Calls Tryz.prog 110 #[.slice A1 xs.length c1,.slice A2 ys.length c2] w (RetD w (val xs / val ys) (val xs % val ys)):=by
 have hrd:=refRead (c:=c2) hr2 hy hl2
 have hrd2:=fun (W : World) (hW : Below w.heap.size w W)=>refRead (c:=c1) (hr1.below hW) hx hl1
 have HRD:=Lib.hid hrd
 have HRD2:=Lib.hid hrd2
 have HK:=Lib.hid hk
 have HKY:=Lib.hid hky
 have H0:=Lib.hid h0
 clear hrd hrd2 hk hky h0
 go_enter Tryz.func110,Tryz.ntmps110
 go_wp2_with fail
 refine HRD.out.mono ?_
 rintro e w1 ⟨A3,c3,ds,rfl,h1,_,h3,h4,h5⟩
 have hne : ((ds.length : Int) == 0) = false:=by
   rw [beq_eq_false_iff_ne]; intro h; have h6 : ds = []:=List.eq_nil_of_length_eq_zero (by omega); have h7:=H0.out; rw [← h4,h6] at h7; simp [dval] at h7
 go_wp2_with fail
 refine (HRD2.out _ h5).mono ?_
 rintro e w2 ⟨A4,c4,es,rfl,g1,_,g3,g4,g5⟩
 have hl:=dy h3 h4 HKY.out
 have hle:=dy g3 g4 HK.out
 have hpa:=refParted (c1:=c4) (c2:=c3) g1 (h1.below g5) g3.1 h3 (by omega) (by omega) (by rw [h4]; exact H0.out)
 rw [h4,g4] at hpa
 have HPA:=Lib.hid hpa
 have hb:=bstep h5 g5
 clear hpa h1 h3 h4 h5 g1 g3 g4 g5 hne
 go_wp2_with fail
 refine HPA.out.mono ?_
 rintro e w3 ⟨A5,c5,qs,A6,c6,rs,rfl,q1,q2,q3,r1,r2,r3,hb3⟩
 have hb4:=bstep hb hb3
 have hql:=dy q2 q3 (Nat.lt_of_le_of_lt (Nat.div_le_self _ _) HK.out)
 have hrl:=dy r2 r3 (Nat.lt_of_le_of_lt (Nat.mod_le _ _) HK.out)
 have hw1:=refWrite (c:=c5) q1 q2 (by omega)
 have hw2:=fun (W : World) (hW : Below w3.heap.size w3 W)=>refWrite (c:=c6) (r1.below hW) r2 (by omega)
 rw [q3] at hw1
 rw [r3] at hw2
 have HW1:=Lib.hid hw1
 have HW2:=Lib.hid hw2
 clear hw1 hw2 q1 q2 q3 r1 r2 r3 hb hb3
 go_wp2_with fail
 refine HW1.out.mono ?_
 rintro e w4 h
 obtain ⟨A7,j7,c7,rfl,hr7,hb7⟩:=ev h (Nat.lt_of_le_of_lt (Nat.div_le_self _ _) HK.out) (by omega)
 have hb5:=bstep hb4 hb7
 clear h
 go_wp2_with fail
 refine (HW2.out _ hb7).mono ?_
 rintro e w5 h
 obtain ⟨A8,j8,c8,rfl,hr8,hb8⟩:=ev h (Nat.lt_of_le_of_lt (Nat.mod_le _ _) HK.out) (by omega)
 have hb6:=bstep hb5 hb8
 have hr7':=hr7.below hb8
 clear h hb8 hb7 hr7 hb5 hb4
 go_wp2
 go_returns
 exact ⟨A7,j7,c7,A8,j8,c8,rfl,hr7',hr8,hb6⟩
theorem all_refSub {w : World} {A1 A2 : Option Addr} {c1 c2 k : Nat} {xs ys : List Nat} (hr1 : Row w A1 (u32s xs)) (hr2 : Row w A2 (u32s ys)) (hx : small 4294967296 xs) (hy : small 4294967296 ys) (hl1 : xs.length ≤ 1100) (hl2 : ys.length ≤ 1100) (hk : val xs < 1000000000 ^ k) (hk2 : k ≤ 2000) :
   Calls Tryz.prog 133 #[.slice A1 xs.length c1,.slice A2 ys.length c2] w (RetSB w (val xs - val ys) (decide (val ys ≤ val xs))):=by
 by_cases h : val ys ≤ val xs
 · rw [decide_eq_true h]; exact refSub_yes hr1 hr2 hx hy hl1 hl2 hk hk2 h
 · rw [decide_eq_false h,Nat.sub_eq_zero_of_le (by omega)]
   exact (refSub_no hr1 hr2 hx hy hl1 hl2 hk hk2 (by omega)).mono fun _ _ ⟨a,b⟩=>⟨none,0,0,a,rr_nil _,b⟩
theorem fi {W : World} {A : Option Addr} {k c n N : Nat} (h : Rr W (.slice A k c) n) (hn : n < 1000000000 ^ N) : ∃ xs,k = xs.length ∧ Row W A (u32s xs) ∧ right xs ∧ val xs = n ∧ xs.length ≤ N:=by
 obtain ⟨A',c',xs,e,hr,hx,_,hv⟩:=h
 injection e with e1 e2 e3
 subst e1; subst e2
 exact ⟨xs,rfl,hr,hx,hv,right_length_le hx (by rw [hv]; exact hn)⟩
theorem sameInt_yes {w : World} {A1 A2 : Option Addr} {k1 c1 k2 c2 n : Nat} {b : Bool} (h1 : Rr w (.slice A1 k1 c1) n) (h2 : Rr w (.slice A2 k2 c2) n) :
   Calls Tryz.prog 29 #[.agg #[.bool b,.slice A1 k1 c1],.agg #[.bool b,.slice A2 k2 c2]] w fun e w'=>e = .returned (.bool true) ∧ Below w.heap.size w w':=by
 obtain ⟨A1',c1',xs,e1,r1,x1,l1,v1⟩:=h1
 obtain ⟨A2',c2',ys,e2,r2,x2,l2,v2⟩:=h2
 injection e1 with e1 e1' e1''
 injection e2 with e2 e2' e2''
 subst e1; subst e1'; subst e2; subst e2'
 obtain rfl : xs = ys:=right_unique x1 x2 (by rw [v1,v2])
 have hsm:=fun (W : World) (hW : Below w.heap.size w W)=>same_yes0 (w:=W) (c1:=c1) (c2:=c2) (r1.below hW) (r2.below hW) (by omega)
 have HSM:=Lib.hid hsm
 clear hsm r1 r2 x1 x2 v1 v2 e1'' e2''
 go_enter Tryz.func29,Tryz.ntmps29
 go_wp2_with fail
 refine (HSM.out _ (bal (bal (Below.refl _ _) _) _)).mono ?_
 rintro e w1 ⟨rfl,hd⟩
 have hb:=bstep (bal (bal (Below.refl w.heap.size w) _) _) hd.below
 clear hd
 go_wp2
 go_ret
 exact ⟨rfl,hb⟩
theorem same2_yes {w : World} {A1 A2 : Option Addr} {k1 c1 k2 c2 n : Nat} {b : Bool} (h1 : Rr w (.slice A1 k1 c1) n) (h2 : Rr w (.slice A2 k2 c2) n) :
   Calls Tryz.prog 46 #[.agg #[.bool b,.slice A1 k1 c1],.agg #[.bool b,.slice A2 k2 c2]] w fun e w'=>e = .returned (.bool true) ∧ Below w.heap.size w w':=by
 have hsm:=fun (W : World) (hW : Below w.heap.size w W)=>sameInt_yes (b:=b) (h1.below hW) (h2.below hW)
 have HSM:=Lib.hid hsm
 clear hsm h1 h2
 go_enter Tryz.func46,Tryz.ntmps46
 go_wp2_with fail
 refine (HSM.out _ (bal (bal (Below.refl _ _) _) _)).mono ?_
 rintro e w1 ⟨rfl,hd⟩
 have hb:=bstep (bal (bal (Below.refl w.heap.size w) _) _) hd
 clear hd
 go_wp2
 go_ret
 exact ⟨rfl,hb⟩
theorem ref2of_any {w : World} {A : Option Addr} {c N : Nat} {xs : List Nat} (b : Bool) (hr : Row w A (u32s xs)) (hd : small 4294967296 xs) (hl : xs.length ≤ 1100) (hn : val xs < 1000000000 ^ N) (hN : N ≤ 2000) :
   Calls Tryz.prog 105 #[.bool b,.slice A xs.length c] w (RetInt w (val xs) (sgn (val xs) b)):=by
 have htr:=fun (W : World) (hW : Below w.heap.size w W)=>refTrim (c:=c) (hr.below hW) hd hl hn hN
 have HTR:=Lib.hid htr
 clear htr hr hd hn
 go_enter Tryz.func105,Tryz.ntmps105
 go_wp2_with fail
 refine (HTR.out _ (bal (Below.refl _ _) _)).mono ?_
 rintro e w1 ⟨A1,k1,c1,rfl,h1,hb⟩
 obtain ⟨hk,_⟩:=rr_len h1
 have K1:=Lib.hid ((hb.block w.heap.size (by simp)).trans (heap_alloc_new w _))
 obtain ⟨m1,m2,m3,m4⟩:=cell_of_two K1.out
 have hb1:=bstep (bal (Below.refl w.heap.size w) _) hb
 clear hb
 have hts:=fun (b' : Bool)=>ar (a':=.bool b') (b':=.slice A1 k1 c1) K1.out (fun d h=>by cases h) (fun d h=>by cases h) h1
 have HTS:=Lib.hid hts
 clear hts
 cases b
 · go_wp2
   obtain ⟨n1,n2,n3⟩:=HTS.out false; refine bodyPost_ret (v:=.agg #[.bool false,.slice A1 k1 c1]) (by simp [results,Tryz.results105,go_sem,n1,n2]) rfl ?_; exact ⟨A1,k1,c1,by simp [sgn],n3,fun _=>by simp [sgn],(hb1.setCell (Nat.le_refl _) _).setCell (Nat.le_refl _) _⟩
 · by_cases h0 : val xs = 0
   · have hk0 : decide (0 < k1) = false:=decide_eq_false (by have:=hk.2 h0; omega); have hk0' : decide ((0 : Int) < (k1 : Int)) = false:=decide_eq_false (by have:=hk.2 h0; omega); have H0:=Lib.hid h0; clear h0 hk
     go_wp2
     obtain ⟨n1,n2,n3⟩:=HTS.out false; refine bodyPost_ret (v:=.agg #[.bool false,.slice A1 k1 c1]) (by simp [results,Tryz.results105,go_sem,n1,n2]) rfl ?_; exact ⟨A1,k1,c1,by simp [sgn,H0.out],n3,fun _=>by simp [sgn,H0.out],(hb1.setCell (Nat.le_refl _) _).setCell (Nat.le_refl _) _⟩
   · have hkp : 0 < k1:=by
       rcases Nat.eq_zero_or_pos k1 with h | h
       · exact absurd (hk.1 h) h0
       · exact h
     have H0:=Lib.hid h0; clear h0 hk
     go_wp2
     obtain ⟨n1,n2,n3⟩:=HTS.out true; refine bodyPost_ret (v:=.agg #[.bool true,.slice A1 k1 c1]) (by simp [results,Tryz.results105,go_sem,n1,n2]) rfl ?_; exact ⟨A1,k1,c1,by simp [sgn,H0.out],n3,fun h=>absurd h H0.out,(hb1.setCell (Nat.le_refl _) _).setCell (Nat.le_refl _) _⟩
theorem split3 (a : Nat) : val [a % 1000000000,a / 1000000000 % 1000000000,a / 1000000000 / 1000000000] = a:=by
 simp only [val,Nat.mul_zero,Nat.add_zero]
 have h1:=Nat.div_add_mod a 1000000000
 have h2:=Nat.div_add_mod (a / 1000000000) 1000000000
 omega
theorem numOfInt_any {w : World} (n : Int) (a : Nat) (h1 : -9223372036854775808 ≤ n) (h2 : n ≤ 9223372036854775807) (ha : a = n.natAbs) :
   Calls Tryz.prog 40 #[.int .i64 n] w (RetInt w a (decide (n < 0))):=by
 obtain ⟨d0,hd0⟩ : ∃ d,d = a % 1000000000:=⟨_,rfl⟩
 obtain ⟨d1,hd1⟩ : ∃ d,d = a / 1000000000 % 1000000000:=⟨_,rfl⟩
 obtain ⟨d2,hd2⟩ : ∃ d,d = a / 1000000000 / 1000000000:=⟨_,rfl⟩
 have hv:=split3 a
 rw [← hd0,← hd1,← hd2] at hv
 have b0 : d0 < 1000000000:=by omega
 have b1 : d1 < 1000000000:=by omega
 have b2 : d2 < 1000000000:=by omega
 have e0 : (a : Int) % 1000000000 = (d0 : Int):=by omega
 have e1 : (a : Int) / 1000000000 % 1000000000 = (d1 : Int):=by omega
 have e2 : (a : Int) / 1000000000 / 1000000000 = (d2 : Int):=by omega
 have ba : a < 18446744073709551616:=by omega
 have hsg : sgn a (decide (n < 0)) = decide (n < 0):=by
   unfold sgn
   by_cases h : n < 0
   · rw [decide_eq_true h,decide_eq_true (show a ≠ 0 by omega)]; rfl
   · rw [decide_eq_false h]; rfl
 have hsm : small 4294967296 [d0,d1,d2]:=by
   intro d hd; rcases List.mem_cons.1 hd with rfl | hd
   · omega
   rcases List.mem_cons.1 hd with rfl | hd
   · omega
   · rw [List.mem_singleton.1 hd]; omega
 have hof:=fun (W : World) (b : Bool)=>numOf_any (w:=W.alloc (.cells #[.int .u32 (d0 : Int),.int .u32 (d1 : Int),.int .u32 (d2 : Int)] 88)) (k:=3) (c:=3) (n:=a) (N:=3) (A:=some ⟨W.heap.size,0,none⟩) b ⟨_,3,[d0,d1,d2],rfl,row_lit W 88 #[.int .u32 (d0 : Int),.int .u32 (d1 : Int),.int .u32 (d2 : Int)] [d0,d1,d2] rfl,hsm,by simp,hv⟩ (by
   have : (1000000000 : Nat) ^ 3 = 1000000000000000000000000000:=by decide
   omega) (by omega)
 have HOF:=Lib.hid hof
 have HSG:=Lib.hid hsg
 obtain ⟨W0,hW0⟩ : ∃ W0,W0 = w.alloc (Obj.cells #[Value.bool false,Value.slice none 0 0] 24):=⟨_,rfl⟩
 have bW0 : Below w.heap.size w W0:=by rw [hW0]; exact bal (Below.refl _ _) _
 have K0 : Hid (W0.heap[w.heap.size]? = some (Obj.cells #[Value.bool false,Value.slice none 0 0] 24)):=by show _ = _; rw [hW0]; exact heap_alloc_new _ _
 have hs0 : w.heap.size < W0.heap.size:=lt_block K0.out
 have HW0:=Lib.hid hW0
 have HZ0 : Hid (W0.heap.size = w.heap.size + 1):=by show _ = _; rw [hW0,World.size_alloc]
 have hfin : ∀ (w3 : World) (A3 : Option Addr) (k3 c3 : Nat),Below W0.heap.size W0 w3 → Rr w3 (.slice A3 k3 c3) a → (∀ b' : Bool,((w3.setCell ⟨w.heap.size,0,none⟩ (.bool b')).setCell ⟨w.heap.size,1,none⟩ (.slice A3 k3 c3)).cell? ⟨w.heap.size,0,none⟩ = some (.bool b') ∧ ((w3.setCell ⟨w.heap.size,0,none⟩ (.bool b')).setCell ⟨w.heap.size,1,none⟩ (.slice A3 k3 c3)).cell? ⟨w.heap.size,1,none⟩ = some (.slice A3 k3 c3) ∧ Rr ((w3.setCell ⟨w.heap.size,0,none⟩ (.bool b')).setCell ⟨w.heap.size,1,none⟩ (.slice A3 k3 c3)) (.slice A3 k3 c3) a) ∧ (w3.cell? ⟨w.heap.size,0,none⟩ = some (.bool false) ∧ w3.cell? ⟨w.heap.size,1,none⟩ = some (.slice none 0 0) ∧ w3.frozen? ⟨w.heap.size,0,none⟩ = false ∧ w3.frozen? ⟨w.heap.size,1,none⟩ = false):=fun w3 A3 k3 c3 hb hr=>by
   have k3':=(hb.block w.heap.size hs0).trans K0.out; exact ⟨fun b'=>ar k3' (fun d h=>by cases h) (fun d h=>by cases h) hr,cell_of_two k3'⟩
 have HFIN:=Lib.hid hfin
 clear hof hsg hv hd0 hd1 hd2 hsm hW0 hfin
 by_cases hn : n < 0
 · obtain ⟨m,hm⟩ : ∃ m : Nat,m = 18446744073709551616 - a:=⟨_,rfl⟩
   have g1 : IntKind.u64.wrap n = (m : Int):=by rw [IntKind.wrap_u64]; omega
   have g2 : IntKind.u64.wrap (-(m : Int)) = (a : Int):=by rw [IntKind.wrap_u64]; omega
   have hnd : decide (n < 0) = true:=decide_eq_true hn; rw [hnd] at HSG ⊢; have HZ:=Lib.hid (show a ≠ 0 by omega); clear hm ha hn h1 h2
   go_enter Tryz.func40,Tryz.ntmps40
   go_wp2_with fail
   rw [← HW0.out]
   go_wp2_with fail
   have hof1:=HOF.out W0 true; rw [HZ0.out,HSG.out] at hof1; refine hof1.mono ?_; rintro e w3 ⟨A3,k3,c3,rfl,hr3,hz3,hb3⟩; have hb30 : Below W0.heap.size W0 w3:=below_first hb3; have htd:=told_any (w:=w3) hr3 hz3; have HTD:=Lib.hid htd; clear hof1 htd hb3 hr3
   go_wp2_with fail
   refine HTD.out.mono ?_; rintro e w4 ⟨A4,k4,c4,rfl,hr4,hz4,hb4⟩; have hb40:=bstep hb30 hb4; obtain ⟨hst,m1,m2,m3,m4⟩:=HFIN.out w4 A4 k4 c4 hb40 hr4; obtain ⟨n1,n2,n3⟩:=hst true; have hbw:=bstep bW0 hb40; clear hb30 hb4 hb40 hst HTD
   go_wp2
   refine bodyPost_ret (v:=.agg #[.bool true,.slice A4 k4 c4]) (by simp [results,Tryz.results40,go_sem,n1,n2]) rfl ?_; exact ⟨A4,k4,c4,rfl,n3,hz4,(hbw.setCell (Nat.le_refl _) _).setCell (Nat.le_refl _) _⟩
 · have g1 : IntKind.u64.wrap n = (a : Int):=by rw [IntKind.wrap_u64]; omega
   have hnd : decide (n < 0) = false:=decide_eq_false hn; rw [hnd] at HSG ⊢; clear ha hn h1 h2
   go_enter Tryz.func40,Tryz.ntmps40
   go_wp2_with fail
   rw [← HW0.out]
   go_wp2_with fail
   have hof1:=HOF.out W0 false; rw [HZ0.out,HSG.out] at hof1; refine hof1.mono ?_; rintro e w3 ⟨A3,k3,c3,rfl,hr3,hz3,hb3⟩; have hb30 : Below W0.heap.size W0 w3:=below_first hb3; have htd:=told_any (w:=w3) hr3 hz3; have HTD:=Lib.hid htd; clear hof1 htd hb3 hr3
   go_wp2_with fail
   refine HTD.out.mono ?_; rintro e w4 ⟨A4,k4,c4,rfl,hr4,hz4,hb4⟩; have hb40:=bstep hb30 hb4; obtain ⟨hst,m1,m2,m3,m4⟩:=HFIN.out w4 A4 k4 c4 hb40 hr4; obtain ⟨n1,n2,n3⟩:=hst false; have hbw:=bstep bW0 hb40; clear hb30 hb4 hb40 hst HTD
   go_wp2
   refine bodyPost_ret (v:=.agg #[.bool false,.slice A4 k4 c4]) (by simp [results,Tryz.results40,go_sem,n1,n2]) rfl ?_; exact ⟨A4,k4,c4,rfl,n3,fun _=>rfl,(hbw.setCell (Nat.le_refl _) _).setCell (Nat.le_refl _) _⟩
theorem ofInt_step {out : List Nat} {m a : Nat} (hlen : val out + 1000000000 ^ out.length * m = a) : val (out ++ [m % 1000000000]) + 1000000000 ^ (out ++ [m % 1000000000]).length * (m / 1000000000) = a:=by
 rw [bu,List.length_append,List.length_singleton,Nat.pow_succ,Nat.mul_assoc,Nat.add_assoc,← Nat.mul_add,Nat.mod_add_div]; exact hlen
theorem ref2Of_any {w : World} (n : Int) (a : Nat) (h1 : -9223372036854775808 ≤ n) (h2 : n ≤ 9223372036854775807) (ha : a = n.natAbs) :
   Calls Tryz.prog 99 #[.int .i64 n] w (RetInt w a (decide (n < 0))):=by
 obtain ⟨i0,hi,hz0,hz1,hz2⟩:=info_parts ce
 have ba : a < 18446744073709551616:=by omega
 have hp3 : (1000000000 : Nat) ^ 3 = 1000000000000000000000000000:=by decide
 have hsg : sgn a (decide (n < 0)) = decide (n < 0):=by
   unfold sgn
   by_cases h : n < 0
   · rw [decide_eq_true h,decide_eq_true (show a ≠ 0 by omega)]; rfl
   · rw [decide_eq_false h]; rfl
 have ba3 : a < 1000000000 ^ 3:=by omega
 have BA3:=Lib.hid ba3
 have HSG:=Lib.hid hsg
 obtain ⟨W0,hW0⟩ : ∃ W0,W0 = w.alloc (Obj.cells #[Value.bool false,Value.slice none 0 0] 24):=⟨_,rfl⟩
 have bW0 : Below w.heap.size w W0:=by rw [hW0]; exact bal (Below.refl _ _) _
 have K0 : Hid (W0.heap[w.heap.size]? = some (Obj.cells #[Value.bool false,Value.slice none 0 0] 24)):=by show _ = _; rw [hW0]; exact heap_alloc_new _ _
 have hs0 : w.heap.size < W0.heap.size:=lt_block K0.out
 have HW0:=Lib.hid hW0
 have hfin : ∀ (w3 : World) (A3 : Option Addr) (k3 c3 : Nat),Below W0.heap.size W0 w3 → Rr w3 (.slice A3 k3 c3) a → (∀ b' : Bool,((w3.setCell ⟨w.heap.size,0,none⟩ (.bool b')).setCell ⟨w.heap.size,1,none⟩ (.slice A3 k3 c3)).cell? ⟨w.heap.size,0,none⟩ = some (.bool b') ∧ ((w3.setCell ⟨w.heap.size,0,none⟩ (.bool b')).setCell ⟨w.heap.size,1,none⟩ (.slice A3 k3 c3)).cell? ⟨w.heap.size,1,none⟩ = some (.slice A3 k3 c3) ∧ Rr ((w3.setCell ⟨w.heap.size,0,none⟩ (.bool b')).setCell ⟨w.heap.size,1,none⟩ (.slice A3 k3 c3)) (.slice A3 k3 c3) a) ∧ (w3.cell? ⟨w.heap.size,0,none⟩ = some (.bool false) ∧ w3.cell? ⟨w.heap.size,1,none⟩ = some (.slice none 0 0) ∧ w3.frozen? ⟨w.heap.size,0,none⟩ = false ∧ w3.frozen? ⟨w.heap.size,1,none⟩ = false):=fun w3 A3 k3 c3 hb hr=>by
   have k3':=(hb.block w.heap.size hs0).trans K0.out; exact ⟨fun b'=>ar k3' (fun d h=>by cases h) (fun d h=>by cases h) hr,cell_of_two k3'⟩
 have HFIN:=Lib.hid hfin
 clear hsg hW0 hfin ba3 hp3
 by_cases hn : n < 0
 · obtain ⟨m,hm⟩ : ∃ m : Nat,m = 18446744073709551616 - a:=⟨_,rfl⟩
   have g1 : IntKind.u64.wrap n = (m : Int):=by rw [IntKind.wrap_u64]; omega
   have g2 : IntKind.u64.wrap (-(m : Int)) = (a : Int):=by rw [IntKind.wrap_u64]; omega
   have hnd : decide (n < 0) = true:=decide_eq_true hn; rw [hnd] at HSG ⊢; clear hm ha hn h1 h2
   go_enter Tryz.func99,Tryz.ntmps99
   go_wp2_with fail
   rw [← HW0.out]
   go_loopw [3, 4] (fun mv dv wr => ∃ (m : Nat) (out : List Nat), mv = .int .u64 (m : Int) ∧ m < 18446744073709551616 ∧ Own wr W0.heap.size 88 dv (u32s out) ∧ Hid (val out + 1000000000 ^ out.length * m = a ∧ small 1000000000 out ∧ out.length ≤ 3) ∧ Below W0.heap.size W0 wr)
     (fun mv _ _=>(intOf mv).toNat)
   case atStart=>exact ⟨a,[],rfl,ba,Own.nil _ _ _,⟨by simp [val],ak _,by simp⟩,Below.refl _ _⟩
   case round =>
     obtain ⟨m,out,rfl,hm,hown,HO,hb⟩:=hrel; rcases Nat.eq_zero_or_pos m with rfl | hpos
     · obtain ⟨A1,c1,rfl,hr1,_⟩:=hown.slice32; have hv : val out = a:=by have:=HO.out.1; rw [Nat.mul_zero,Nat.add_zero] at this; exact this
       have hof:=ref2of_any (w:=wr) (c:=c1) (N:=3) true hr1 (small_mono HO.out.2.1 (by decide)) (by have:=HO.out.2.2; omega) (by rw [hv]; exact BA3.out) (by omega); rw [hv,HSG.out] at hof; have HOF:=Lib.hid hof; clear hof hv hr1
       go_wp2_with fail
       refine HOF.out.mono ?_; rintro e w3 ⟨A3,k3,c3,rfl,hr3,hz3,hb3⟩; have hb30:=bstep hb hb3; obtain ⟨hst,m1,m2,m3,m4⟩:=HFIN.out w3 A3 k3 c3 hb30 hr3; obtain ⟨n1,n2,n3⟩:=hst true; have hbw:=bstep bW0 hb30; clear hb30 hb3 hst HOF hb
       go_wp2
       refine bodyPost_ret (v:=.agg #[.bool true,.slice A3 k3 c3]) (by simp [results,Tryz.results99,go_sem,n1,n2]) rfl ?_; exact ⟨A3,k3,c3,rfl,n3,hz3,(hbw.setCell (Nat.le_refl _) _).setCell (Nat.le_refl _) _⟩
     · have hlen2 : out.length ≤ 2:=by
         rcases Nat.lt_or_ge 2 out.length with h | h
         · exfalso
           have q1 : 1000000000 ^ 3 ≤ 1000000000 ^ out.length:=Nat.pow_le_pow_right (by decide) h; have q2 : 1000000000 ^ out.length * 1 ≤ 1000000000 ^ out.length * m:=Nat.mul_le_mul_left _ hpos; have q3:=HO.out.1; have q4:=BA3.out; omega
         · exact h
       have hstep:=ofInt_step HO.out.1; have HSTEP:=Lib.hid hstep; have hsz:=hb.size; have hmp : decide ((0 : Int) < (m : Int)) = true:=by rw [decide_eq_true_eq]; omega
       clear hstep
       go_wp2_with (at_builtin; refine wpList_append_own _ rfl _ _ 22 rfl W0.heap.size 88 i0 (.int .u32 0) 1 4 Tryz.underlying22 hi hz0 hz1 hz2 rfl (by decide) _ _ _ rfl (hown.alloc _) ⟨wr.heap.size,0,none⟩ 1 1 [.int .u32 ((m % 1000000000 : Nat) : Int)] rfl rfl ?c1 ?c2 ?c3 ?c4 ?c5 ?_)
       case c1=>exact one_news (int_eq (by omega))
       case c2=>exact ay
       case c3=>rw [ac]; unfold maxLen; omega
       case c4=>rw [ac]; omega
       case c5=>simp; omega
       intro v' w2 hown' hgrow' _; have ho2:=bl hown'; have hb2:=ch hb hown (Nat.le_refl _) hgrow'; clear hown' hgrow' hown hb
       go_wp2
       go_roundw
       case rel=>exact ⟨m / 1000000000,out ++ [m % 1000000000],by first | rfl | (congr 1; omega),by omega,ho2,⟨HSTEP.out,small_snoc HO.out.2.1 (Nat.mod_lt _ (by decide)),by rw [List.length_append]; simp; omega⟩,hb2⟩
       case measure=>simp [intOf]; omega
 · have g1 : IntKind.u64.wrap n = (a : Int):=by rw [IntKind.wrap_u64]; omega
   have hnd : decide (n < 0) = false:=decide_eq_false hn; rw [hnd] at HSG ⊢; clear ha hn h1 h2
   go_enter Tryz.func99,Tryz.ntmps99
   go_wp2_with fail
   rw [← HW0.out]
   go_loopw [3, 4] (fun mv dv wr => ∃ (m : Nat) (out : List Nat), mv = .int .u64 (m : Int) ∧ m < 18446744073709551616 ∧ Own wr W0.heap.size 88 dv (u32s out) ∧ Hid (val out + 1000000000 ^ out.length * m = a ∧ small 1000000000 out ∧ out.length ≤ 3) ∧ Below W0.heap.size W0 wr)
     (fun mv _ _=>(intOf mv).toNat)
   case atStart=>exact ⟨a,[],rfl,ba,Own.nil _ _ _,⟨by simp [val],ak _,by simp⟩,Below.refl _ _⟩
   case round =>
     obtain ⟨m,out,rfl,hm,hown,HO,hb⟩:=hrel; rcases Nat.eq_zero_or_pos m with rfl | hpos
     · obtain ⟨A1,c1,rfl,hr1,_⟩:=hown.slice32; have hv : val out = a:=by have:=HO.out.1; rw [Nat.mul_zero,Nat.add_zero] at this; exact this
       have hof:=ref2of_any (w:=wr) (c:=c1) (N:=3) false hr1 (small_mono HO.out.2.1 (by decide)) (by have:=HO.out.2.2; omega) (by rw [hv]; exact BA3.out) (by omega); rw [hv,HSG.out] at hof; have HOF:=Lib.hid hof; clear hof hv hr1
       go_wp2_with fail
       refine HOF.out.mono ?_; rintro e w3 ⟨A3,k3,c3,rfl,hr3,hz3,hb3⟩; have hb30:=bstep hb hb3; obtain ⟨hst,m1,m2,m3,m4⟩:=HFIN.out w3 A3 k3 c3 hb30 hr3; obtain ⟨n1,n2,n3⟩:=hst false; have hbw:=bstep bW0 hb30; clear hb30 hb3 hst HOF hb
       go_wp2
       refine bodyPost_ret (v:=.agg #[.bool false,.slice A3 k3 c3]) (by simp [results,Tryz.results99,go_sem,n1,n2]) rfl ?_; exact ⟨A3,k3,c3,rfl,n3,fun _=>rfl,(hbw.setCell (Nat.le_refl _) _).setCell (Nat.le_refl _) _⟩
     · have hlen2 : out.length ≤ 2:=by
         rcases Nat.lt_or_ge 2 out.length with h | h
         · exfalso
           have q1 : 1000000000 ^ 3 ≤ 1000000000 ^ out.length:=Nat.pow_le_pow_right (by decide) h; have q2 : 1000000000 ^ out.length * 1 ≤ 1000000000 ^ out.length * m:=Nat.mul_le_mul_left _ hpos; have q3:=HO.out.1; have q4:=BA3.out; omega
         · exact h
       have hstep:=ofInt_step HO.out.1; have HSTEP:=Lib.hid hstep; have hsz:=hb.size; have hmp : decide ((0 : Int) < (m : Int)) = true:=by rw [decide_eq_true_eq]; omega
       clear hstep
       go_wp2_with (at_builtin; refine wpList_append_own _ rfl _ _ 22 rfl W0.heap.size 88 i0 (.int .u32 0) 1 4 Tryz.underlying22 hi hz0 hz1 hz2 rfl (by decide) _ _ _ rfl (hown.alloc _) ⟨wr.heap.size,0,none⟩ 1 1 [.int .u32 ((m % 1000000000 : Nat) : Int)] rfl rfl ?c1 ?c2 ?c3 ?c4 ?c5 ?_)
       case c1=>exact one_news (int_eq (by omega))
       case c2=>exact ay
       case c3=>rw [ac]; unfold maxLen; omega
       case c4=>rw [ac]; omega
       case c5=>simp; omega
       intro v' w2 hown' hgrow' _; have ho2:=bl hown'; have hb2:=ch hb hown (Nat.le_refl _) hgrow'; clear hown' hgrow' hown hb
       go_wp2
       go_roundw
       case rel=>exact ⟨m / 1000000000,out ++ [m % 1000000000],by first | rfl | (congr 1; omega),by omega,ho2,⟨HSTEP.out,small_snoc HO.out.2.1 (Nat.mod_lt _ (by decide)),by rw [List.length_append]; simp; omega⟩,hb2⟩
       case measure=>simp [intOf]; omega
def RetIntB (w : World) (n : Nat) (b ok : Bool) (e : Ending) (w' : World) : Prop:=∃ A k c,e = .returned (.tuple #[.agg #[.bool b,.slice A k c],.bool ok]) ∧ Rr w' (.slice A k c) n ∧ (n = 0 → b = false) ∧ Below w.heap.size w w'
theorem numParse_core {s t : ByteArray} {neg ok sb : Bool} {v : Nat}
   (hc : ∀ W,Calls Tryz.prog 112 #[.string s,.string ⟨#[45]⟩] W fun e w'=>e = .returned (.tuple #[.string t,.bool neg]) ∧ w' = W)
   (hof : ∀ W,Calls Tryz.prog 113 #[.string t] W (RetSB W v ok))
   (hsg : ∀ W A k c,Rr W (.slice A k c) v → Calls Tryz.prog 102 #[.slice A k c,.bool neg] W (RetNumB2 W v sb)) (w : World) :
   Calls Tryz.prog 56 #[.string s] w (RetIntB w (if ok && (sb == neg) then v else 0) (ok && (sb == neg) && neg) (ok && (sb == neg))):=by
 have HC:=Lib.hid hc
 have HO:=Lib.hid hof
 have HS:=Lib.hid hsg
 clear hc hof hsg
 obtain ⟨W0,hW0⟩ : ∃ W0,W0 = w.alloc (Obj.cells #[Value.bool false,Value.slice none 0 0] 24):=⟨_,rfl⟩
 have bW0 : Below w.heap.size w W0:=by rw [hW0]; exact bal (Below.refl _ _) _
 have K0 : Hid (W0.heap[w.heap.size]? = some (Obj.cells #[Value.bool false,Value.slice none 0 0] 24)):=by show _ = _; rw [hW0]; exact heap_alloc_new _ _
 have hs0 : w.heap.size < W0.heap.size:=lt_block K0.out
 have HW0:=Lib.hid hW0
 have hfin : ∀ (w3 : World) (A3 : Option Addr) (k3 c3 n : Nat),Below W0.heap.size W0 w3 → Rr w3 (.slice A3 k3 c3) n → (∀ b' : Bool,((w3.setCell ⟨w.heap.size,0,none⟩ (.bool b')).setCell ⟨w.heap.size,1,none⟩ (.slice A3 k3 c3)).cell? ⟨w.heap.size,0,none⟩ = some (.bool b') ∧ ((w3.setCell ⟨w.heap.size,0,none⟩ (.bool b')).setCell ⟨w.heap.size,1,none⟩ (.slice A3 k3 c3)).cell? ⟨w.heap.size,1,none⟩ = some (.slice A3 k3 c3) ∧ Rr ((w3.setCell ⟨w.heap.size,0,none⟩ (.bool b')).setCell ⟨w.heap.size,1,none⟩ (.slice A3 k3 c3)) (.slice A3 k3 c3) n) ∧ (w3.cell? ⟨w.heap.size,0,none⟩ = some (.bool false) ∧ w3.cell? ⟨w.heap.size,1,none⟩ = some (.slice none 0 0) ∧ w3.frozen? ⟨w.heap.size,0,none⟩ = false ∧ w3.frozen? ⟨w.heap.size,1,none⟩ = false):=fun w3 A3 k3 c3 n hb hr=>by
   have k3':=(hb.block w.heap.size hs0).trans K0.out; exact ⟨fun b'=>ar k3' (fun d h=>by cases h) (fun d h=>by cases h) hr,cell_of_two k3'⟩
 have HFIN:=Lib.hid hfin
 clear hW0 hfin
 cases ok <;> cases sb <;> cases neg
 all_goals
   go_enter Tryz.func56,Tryz.ntmps56
   go_wp2_with fail
   rw [← HW0.out]; refine (HC.out _).mono ?_; rintro e w1 ⟨rfl,rfl⟩
   go_wp2_with fail
   refine (HO.out _).mono ?_; rintro e w2 ⟨A1,k1,c1,rfl,h1,hb⟩
   go_wp2_with fail
   refine (HS.out _ _ _ _ h1).mono ?_; rintro e w3 ⟨A2,k2,c2,rfl,h2,h3,hb2⟩; have hb30:=bstep hb hb2; have hA:=fun (b' : Bool)=>HFIN.out (w3.alloc (Obj.cells #[Value.slice A2 k2 c2,Value.bool b'] 91)) none 0 0 0 (bal hb30 _) (rr_nil _); have hB:=fun (b' : Bool) (w5 : World) (A5 : Option Addr) (k5 c5 : Nat) (hq : Below (w3.alloc (Obj.cells #[Value.slice A2 k2 c2,Value.bool b'] 91)).heap.size (w3.alloc (Obj.cells #[Value.slice A2 k2 c2,Value.bool b'] 91)) w5)=>HFIN.out w5 A5 k5 c5 v (bstep (bal hb30 _) hq); have hT:=fun (b' : Bool)=>told_any (b:=b') (h2.alloc (Obj.cells #[Value.slice A2 k2 c2,Value.bool b'] 91)); have HT:=Lib.hid hT; have HB:=Lib.hid hB; have hbw:=fun (o : Obj) (p : Value) (q : Value)=>((bstep bW0 (bal hb30 o)).setCell (p:=⟨w.heap.size,0,none⟩) (Nat.le_refl _) p).setCell (p:=⟨w.heap.size,1,none⟩) (Nat.le_refl _) q; have HBW:=Lib.hid hbw; clear hbw hb hb2 hT hB h2; obtain ⟨hy,m1,m2,m3,m4⟩:=hA true; obtain ⟨hn,n1,n2,n3,n4⟩:=hA false; have HY:=Lib.hid hy; have HN:=Lib.hid hn; clear hy hn hA
   go_wp2_with fail
   first
     | (first
          | refine (HT.out false (fun _=>rfl)).mono ?_
          | refine (HT.out true h3).mono ?_
        rintro e w5 ⟨A5,k5,c5,rfl,h5,h6,hb5⟩; obtain ⟨hst,j1,j2,j3,j4⟩:=HB.out _ w5 A5 k5 c5 hb5 h5; have hbx:=bstep bW0 (bstep (bal hb30 _) hb5); have HST:=Lib.hid hst; clear hst hb5 h5 hb30
        go_wp2)
     | (obtain ⟨i1, i2, _⟩ := HN.out false
        obtain ⟨j1,j2,_⟩:=HY.out false; refine bodyPost_ret (v:=.tuple #[.agg #[.bool false,.slice none 0 0],.bool false]) (by simp [results,Tryz.results56,go_sem,i1,i2,j1,j2]) rfl ?_
        exact ⟨none,0,0,rfl,rr_nil _,fun _=>rfl,HBW.out _ _ _⟩)
 · obtain ⟨i1,i2,i3⟩:=HST.out false; refine bodyPost_ret (v:=.tuple #[.agg #[.bool false,.slice A5 k5 c5],.bool true]) (by simp [results,Tryz.results56,go_sem,i1,i2]) rfl ?_; exact ⟨A5,k5,c5,rfl,i3,fun _=>rfl,(hbx.setCell (Nat.le_refl _) _).setCell (Nat.le_refl _) _⟩
 · obtain ⟨i1,i2,i3⟩:=HST.out true; refine bodyPost_ret (v:=.tuple #[.agg #[.bool true,.slice A5 k5 c5],.bool true]) (by simp [results,Tryz.results56,go_sem,i1,i2]) rfl ?_; exact ⟨A5,k5,c5,rfl,i3,h6,(hbx.setCell (Nat.le_refl _) _).setCell (Nat.le_refl _) _⟩
def Loc (W : World) (g n : Nat) (b : Bool) : Prop:=∃ A k c,Holds_ W g #[.bool b,.slice A k c] ∧ Rr W (.slice A k c) n ∧ (n = 0 → b = false)
theorem Loc.below {W w' : World} {g n : Nat} {b : Bool} (h : Loc W g n b) (hb : Below W.heap.size W w') : Loc w' g n b:=by
 obtain ⟨A,k,c,h1,h2,h3⟩:=h
 exact ⟨A,k,c,h1.step hb,h2.below hb,h3⟩
theorem Loc.lt {W : World} {g n : Nat} {b : Bool} (h : Loc W g n b) : g < W.heap.size:=by
 obtain ⟨A,k,c,h1,_⟩:=h
 exact h1.lt
theorem Reg.loc {B : Nat} {W0 w : World} {G : List Nat} (h : Reg B W0 G w) {g n : Nat} {b : Bool} (hG : g ∉ G) (hl : Loc W0 g n b) : Loc w g n b:=by
 obtain ⟨A,k,c,h1,h2,h3⟩:=hl
 have hlt:=h1.lt
 obtain ⟨⟨T,h4⟩,h5⟩:=h1
 exact ⟨A,k,c,⟨⟨T,(h.old g hlt hG).trans h4⟩,h5⟩,h.rr h2,h3⟩
theorem loc_new {W : World} {A : Option Addr} {k c n : Nat} {b : Bool} (h : Rr W (.slice A k c) n) (hb : n = 0 → b = false) (T : TypeId) : Loc (W.alloc (.cells #[.bool b,.slice A k c] T)) W.heap.size n b :=
 ⟨A,k,c,eb W (noDig_bool _) (noDig_slice _ _ _) T,h.alloc _,hb⟩
theorem litI (n : Int) (a : Nat) (b : Bool) (h1 : -9223372036854775808 ≤ n) (h2 : n ≤ 9223372036854775807) (ha : a = n.natAbs) (hb : decide (n < 0) = b) (W : World) : Calls Tryz.prog 40 #[.int .i64 n] W (RetInt W a b):=hb ▸ numOfInt_any n a h1 h2 ha
theorem isDec48 : isDec (bt ⟨#[48]⟩):=by
 have e : bt ⟨#[48]⟩ = [48]:=rfl
 rw [e]
 refine ⟨fun k hk=>?_,.inl rfl⟩
 have : k = 0:=by simpa using hk
 subst this
 exact ⟨by decide,by decide⟩
theorem notDec43 : ¬ isDec (bt ⟨#[43,49]⟩):=fun h=>by
 have h1:=(h.1 0 (by decide)).1
 have e : (bt ⟨#[43,49]⟩).getD 0 0 = 43:=rfl
 rw [e] at h1
 omega
theorem parse_minus0 (W : World) : Calls Tryz.prog 56 #[.string ⟨#[45,48]⟩] W (RetIntB W 0 false false) :=
 numParse_core (s:=⟨#[45,48]⟩) (t:=⟨#[48]⟩) (neg:=true) (ok:=true) (sb:=false) (v:=0) (fun W'=>Tryz.strings_CutPrefix ⟨#[45,48]⟩ ⟨#[45]⟩ W') (fun W'=>(of_yes (s:=⟨#[48]⟩) W' (by decide) isDec48).mono fun e w' h=>by
   obtain ⟨v,rfl,hv,hb⟩:=h; have hr:=dt (N:=1) hv (by have e : dval (dg ⟨#[48]⟩) = 0:=rfl; rw [e]; decide) (by decide); have e0 : dval (dg ⟨#[48]⟩) = 0:=rfl; rw [e0] at hr; obtain ⟨A,k,c,rfl⟩:=hr.shape
   exact ⟨A,k,c,rfl,hr,hb⟩) (fun W' A k c h=>signed_any true h) W
theorem parse_plus1 (W : World) : Calls Tryz.prog 56 #[.string ⟨#[43,49]⟩] W (RetIntB W 0 false false) :=
 numParse_core (s:=⟨#[43,49]⟩) (t:=⟨#[43,49]⟩) (neg:=false) (ok:=false) (sb:=false) (v:=0) (fun W'=>Tryz.strings_CutPrefix ⟨#[43,49]⟩ ⟨#[45]⟩ W') (fun W'=>(of_no (s:=⟨#[43,49]⟩) W' (by decide) notDec43).mono fun e w' ⟨a,b⟩=>⟨none,0,0,a,rr_nil _,b ▸ Below.refl _ _⟩) (fun W' A k c h=>signed_any false h) W
theorem ints_lit3 {W : World} {A1 A2 A3 : Option Addr} {k1 c1 k2 c2 k3 c3 n1 n2 n3 : Nat} {b1 b2 b3 : Bool} (h1 : Rd W (.slice A1 k1 c1) n1) (h2 : Rd W (.slice A2 k2 c2) n2) (h3 : Rd W (.slice A3 k3 c3) n3) (T : TypeId) :
   Ints (W.alloc (.cells #[.bool b1,.slice A1 k1 c1,.bool b2,.slice A2 k2 c2,.bool b3,.slice A3 k3 c3] T)) W.heap.size [(n1,b1),(n2,b2),(n3,b3)]:=by
 intro j p hp
 match j,hp with
 | 0,hp=>simp at hp; subst hp; exact ⟨A1,k1,c1,by simp,by simp,h1.alloc _⟩
 | 1,hp=>simp at hp; subst hp; exact ⟨A2,k2,c2,by simp,by simp,h2.alloc _⟩
 | 2,hp=>simp at hp; subst hp; exact ⟨A3,k3,c3,by simp,by simp,h3.alloc _⟩
theorem Stored.row {w w' : World} {g : Nat} {A : Option Addr} {xs : List Nat} (h : Row w A (u32s xs)) (hs : Stored g w w') : Row w' A (u32s xs):=by
 intro j v hv
 obtain ⟨ad,e,hc⟩:=h j v hv
 refine ⟨ad,e,?_⟩
 have hne : (ad.add j).block ≠ g:=fun hg=>by
   obtain ⟨cs,_,⟨⟨T,h4⟩,h5⟩,_⟩:=hs.same; obtain ⟨d,_,hd⟩:=List.mem_map.1 (List.mem_of_getElem? hv); simp only [World.cell?,hg,h4] at hc; split at hc
   · cases hc
   · exact h5 v (Array.mem_of_getElem? hc) d hd.symm
 rw [World.cell?_of_block (hs.other _ hne)]
 exact hc
theorem Stored.ints {w w' : World} {g g' : Nat} {L : List (Nat × Bool)} (h : Ints w g L) (hs : Stored g' w w') (hne : g ≠ g') : Ints w' g L:=fun j p hp=>by
 obtain ⟨A,k,c,h1,h2,A',c',xs,e,r1,r2⟩:=h j p hp
 exact ⟨A,k,c,(World.cell?_of_block (hs.other g hne)).trans h1,(World.cell?_of_block (hs.other g hne)).trans h2,A',c',xs,e,hs.row r1,r2⟩
def kInts (L : List (Nat × Bool)) : PK:=.list L.length (fun g w=>Ints w g L) (fun _ _ _ h hb=>h.below hb) (fun _ _ _ _ h hs hne=>hs.ints h hne)
theorem dm_ex2 (b1 b2 : Bool) (q r : Nat) (sq sr : Bool) (h : divQ 7 (sgn 7 b1) 2 b2 = q ∧ sgn (divQ 7 (sgn 7 b1) 2 b2) ((sgn 7 b1) != b2) = sq ∧ divR 7 (sgn 7 b1) 2 b2 = r ∧ sgn (divR 7 (sgn 7 b1) 2 b2) b2 = sr) (W : World) {A1 : Option Addr} {k1 c1 : Nat} {A2 : Option Addr} {k2 c2 : Nat} (h1 : Rr W (.slice A1 k1 c1) 7) (h2 : Rr W (.slice A2 k2 c2) 2) :
   Calls Tryz.prog 59 #[.agg #[.bool b1,.slice A1 k1 c1],.agg #[.bool b2,.slice A2 k2 c2]] W (RetInt2 W q sq r sr):=by
 obtain ⟨e1,e2,e3,e4⟩:=h
 have:=divMod_int (N:=1) b1 b2 h1.rd h2.rd (by decide) (by decide) (by decide) (by decide)
 rw [e2,e4,e1,e3] at this
 exact this
theorem gcd_ex (W : World) (g : Nat) (h : Ints W g [(4,true),(6,false),(0,false)]) : Calls Tryz.prog 51 #[.slice (some ⟨g,0,none⟩) 3 3] W (RetInt W 2 false) :=
 gcd_any (c0:=3) (N:=1) h (fun p hp=>by
   rcases List.mem_cons.1 hp with rfl | hp
   · decide
   rcases List.mem_cons.1 hp with rfl | hp
   · decide
   · rw [List.mem_singleton.1 hp]; decide) (by decide) (by decide)
theorem text_ex (W : World) (htab : Tab W) (hw : 2 ≤ W.heap.size) : Calls Tryz.prog 42 #[.agg #[.bool true,.slice none 0 0]] W fun e w'=>e = .returned (.string ⟨#[48]⟩) ∧ Below W.heap.size W w':=by
 have h:=numText_any (N:=1) true (rr_nil W).rd (by decide) (by decide) htab hw
 have e : ntext 0 (sgn 0 true) = ⟨#[48]⟩:=by
   show dtext 0 = _
   unfold dtext; rw [cf (by decide)]; rfl
 rw [e] at h
 exact h
theorem awake2_lit {x : Nat → Value} {v0 v1 v2 v3 v4 v5 v6 v7 v8 v9 v10 v11 v12 v13 v14 v15 v16 v17 v18 v19 v20 v21 v22 v23 v24 v25 v26 v27 v28 v29 v30 v31 v32 v33 v34 v35 v36 v37 v38 v39 v40 v41 v42 v43 v44 v45 v46 v47 v48 v49 v50 v51 v52 v53 v54 v55 v56 v57 v58 v59 v60 v61 v62 v63 v64 v65 v66 v67 v68 v69 v70 v71 v72 v73 v74 v75 v76 v77 v78 v79 v80 v81 v82 v83 v84 v85 v86 v87 v88 v89 v90 v91 v92 v93 v94 v95 v96 v97 v98 v99 v100 v101 v102 v103 v104 : Value} {ds : List Deferred} {Q : Exit → Act → World → Prop} {w : World} (h : Q .normal { tmps:=#[x 62,v1,v2,v3,v4,v5,v6,v7,v8,v9,v10,v11,v12,v13,v14,v15,v16,v17,v18,v19,v20,v21,v22,v23,v24,v25,v26,v27,v28,v29,v30,v31,v32,v33,v34,v35,v36,v37,v38,v39,v40,v41,v42,x 0,x 1,x 2,x 3,x 4,x 5,x 6,x 7,x 8,x 9,x 10,x 11,x 12,x 13,x 14,x 15,x 16,x 17,x 18,x 19,x 20,x 21,x 22,x 23,x 24,x 25,x 26,x 27,x 28,x 29,x 30,x 31,x 32,x 33,x 34,x 35,x 36,x 37,x 38,x 39,x 40,x 41,x 42,x 43,x 44,x 45,x 46,x 47,x 48,x 49,x 50,x 51,x 52,x 53,x 54,x 55,x 56,x 57,x 58,x 59,x 60,x 61],defers:=ds } w) : Q .normal (putE x { tmps:=#[v0,v1,v2,v3,v4,v5,v6,v7,v8,v9,v10,v11,v12,v13,v14,v15,v16,v17,v18,v19,v20,v21,v22,v23,v24,v25,v26,v27,v28,v29,v30,v31,v32,v33,v34,v35,v36,v37,v38,v39,v40,v41,v42,v43,v44,v45,v46,v47,v48,v49,v50,v51,v52,v53,v54,v55,v56,v57,v58,v59,v60,v61,v62,v63,v64,v65,v66,v67,v68,v69,v70,v71,v72,v73,v74,v75,v76,v77,v78,v79,v80,v81,v82,v83,v84,v85,v86,v87,v88,v89,v90,v91,v92,v93,v94,v95,v96,v97,v98,v99,v100,v101,v102,v103,v104],defers:=ds } [(0,some 43),(1,some 44),(2,some 45),(3,some 46),(4,some 47),(5,some 48),(6,some 49),(7,some 50),(8,some 51),(9,some 52),(10,some 53),(11,some 54),(12,some 55),(13,some 56),(14,some 57),(15,some 58),(16,some 59),(17,some 60),(18,some 61),(19,some 62),(20,some 63),(21,some 64),(22,some 65),(23,some 66),(24,some 67),(25,some 68),(26,some 69),(27,some 70),(28,some 71),(29,some 72),(30,some 73),(31,some 74),(32,some 75),(33,some 76),(34,some 77),(35,some 78),(36,some 79),(37,some 80),(38,some 81),(39,some 82),(40,some 83),(41,some 84),(42,some 85),(43,some 86),(44,some 87),(45,some 88),(46,some 89),(47,some 90),(48,some 91),(49,some 92),(50,some 93),(51,some 94),(52,some 95),(53,some 96),(54,some 97),(55,some 98),(56,some 99),(57,some 100),(58,some 101),(59,some 102),(60,some 103),(61,some 104),(62,some 0)]) w:=by
 have e : putE x { tmps:=#[v0,v1,v2,v3,v4,v5,v6,v7,v8,v9,v10,v11,v12,v13,v14,v15,v16,v17,v18,v19,v20,v21,v22,v23,v24,v25,v26,v27,v28,v29,v30,v31,v32,v33,v34,v35,v36,v37,v38,v39,v40,v41,v42,v43,v44,v45,v46,v47,v48,v49,v50,v51,v52,v53,v54,v55,v56,v57,v58,v59,v60,v61,v62,v63,v64,v65,v66,v67,v68,v69,v70,v71,v72,v73,v74,v75,v76,v77,v78,v79,v80,v81,v82,v83,v84,v85,v86,v87,v88,v89,v90,v91,v92,v93,v94,v95,v96,v97,v98,v99,v100,v101,v102,v103,v104],defers:=ds } [(0,some 43),(1,some 44),(2,some 45),(3,some 46),(4,some 47),(5,some 48),(6,some 49),(7,some 50),(8,some 51),(9,some 52),(10,some 53),(11,some 54),(12,some 55),(13,some 56),(14,some 57),(15,some 58),(16,some 59),(17,some 60),(18,some 61),(19,some 62),(20,some 63),(21,some 64),(22,some 65),(23,some 66),(24,some 67),(25,some 68),(26,some 69),(27,some 70),(28,some 71),(29,some 72),(30,some 73),(31,some 74),(32,some 75),(33,some 76),(34,some 77),(35,some 78),(36,some 79),(37,some 80),(38,some 81),(39,some 82),(40,some 83),(41,some 84),(42,some 85),(43,some 86),(44,some 87),(45,some 88),(46,some 89),(47,some 90),(48,some 91),(49,some 92),(50,some 93),(51,some 94),(52,some 95),(53,some 96),(54,some 97),(55,some 98),(56,some 99),(57,some 100),(58,some 101),(59,some 102),(60,some 103),(61,some 104),(62,some 0)] = { tmps:=#[x 62,v1,v2,v3,v4,v5,v6,v7,v8,v9,v10,v11,v12,v13,v14,v15,v16,v17,v18,v19,v20,v21,v22,v23,v24,v25,v26,v27,v28,v29,v30,v31,v32,v33,v34,v35,v36,v37,v38,v39,v40,v41,v42,x 0,x 1,x 2,x 3,x 4,x 5,x 6,x 7,x 8,x 9,x 10,x 11,x 12,x 13,x 14,x 15,x 16,x 17,x 18,x 19,x 20,x 21,x 22,x 23,x 24,x 25,x 26,x 27,x 28,x 29,x 30,x 31,x 32,x 33,x 34,x 35,x 36,x 37,x 38,x 39,x 40,x 41,x 42,x 43,x 44,x 45,x 46,x 47,x 48,x 49,x 50,x 51,x 52,x 53,x 54,x 55,x 56,x 57,x 58,x 59,x 60,x 61],defers:=ds }:=by kernel_rfl
 rw [e]; exact h
theorem awake2_any (w : World) (htab : Tab w) (hw : 2 ≤ w.heap.size) :
   Calls Tryz.prog 44 #[] w fun e w'=>e = .returned (.bool true) ∧ Below w.heap.size w w':=by
 have HT:=Lib.hid htab
 have HM1:=Lib.hid (dm_ex2 true false 4 1 true false (by decide))
 have HM2:=Lib.hid (dm_ex2 false true 4 1 true true (by decide))
 have HM3:=Lib.hid (dm_ex2 true true 3 1 false true (by decide))
 clear htab
 go_enter Tryz.func44,Tryz.ntmps44
 have bb:=Below.refl w.heap.size w
 go_wp2_with fail
 refine (litI (-7) 7 true (by decide) (by decide) rfl rfl _).mono ?_
 rintro e w1 ⟨A1,k1,c1,rfl,h1,_,d1⟩
 go_wp2_with fail
 refine (litI (2) 2 false (by decide) (by decide) rfl rfl _).mono ?_
 rintro e w2 ⟨A2,k2,c2,rfl,h2,_,d2⟩
 go_wp2_with fail
 refine (HM1.out _ (h1.below d2) h2).mono ?_
 rintro e w3 ⟨_,_,rfl,⟨Aq,kq,cq,rfl,q,zq⟩,⟨Ar,kr,cr,rfl,r,zr⟩,d3⟩
 have bb:=(bstep (bstep (bstep bb d1) d2) d3)
 clear h1 h2 d1 d2 d3
 go_wp2_with fail
 obtain ⟨W1,hW⟩ : ∃ W,W = (w3.alloc (Obj.cells #[Value.bool true,Value.slice Aq kq cq] 24)).alloc (Obj.cells #[Value.bool false,Value.slice Ar kr cr] 24):=⟨_,rfl⟩
 have bw : Below w3.heap.size w3 W1:=by rw [hW]; exact bal (bal (Below.refl _ _) _) _
 have lq1 : Loc W1 w3.heap.size 4 true:=by rw [hW]; exact (loc_new q (by decide) _).below (bal (Below.refl _ _) _)
 have lr1 : Loc W1 (w3.heap.size + 1) 1 false:=by rw [hW]; have:=loc_new (r.alloc (Obj.cells #[Value.bool true,Value.slice Aq kq cq] 24)) (b:=false) (by decide) 24; rw [World.size_alloc] at this; exact this
 rw [← hW]
 have bb:=bstep bb bw
 clear hW bw q r zq zr
 refine (litI (7) 7 false (by decide) (by decide) rfl rfl _).mono ?_
 rintro e w4 ⟨A4,k4,c4,rfl,h4,_,d4⟩
 go_wp2_with fail
 refine (litI (-2) 2 true (by decide) (by decide) rfl rfl _).mono ?_
 rintro e w5 ⟨A5,k5,c5,rfl,h5,_,d5⟩
 go_wp2_with fail
 refine (HM2.out _ (h4.below d5) h5).mono ?_
 rintro e w6 ⟨_,_,rfl,⟨Aq,kq,cq,rfl,q,zq⟩,⟨Ar,kr,cr,rfl,r,zr⟩,d6⟩
 have lq1:=(((lq1.below d4).below d5).below d6)
 have lr1:=(((lr1.below d4).below d5).below d6)
 have bb:=(bstep (bstep (bstep bb d4) d5) d6)
 clear h4 h5 d4 d5 d6
 go_wp2_with fail
 obtain ⟨W2,hW⟩ : ∃ W,W = (w6.alloc (Obj.cells #[Value.bool true,Value.slice Aq kq cq] 24)).alloc (Obj.cells #[Value.bool true,Value.slice Ar kr cr] 24):=⟨_,rfl⟩
 have bw : Below w6.heap.size w6 W2:=by rw [hW]; exact bal (bal (Below.refl _ _) _) _
 have lq2 : Loc W2 w6.heap.size 4 true:=by rw [hW]; exact (loc_new q (by decide) _).below (bal (Below.refl _ _) _)
 have lr2 : Loc W2 (w6.heap.size + 1) 1 true:=by rw [hW]; have:=loc_new (r.alloc (Obj.cells #[Value.bool true,Value.slice Aq kq cq] 24)) (b:=true) (by decide) 24; rw [World.size_alloc] at this; exact this
 rw [← hW]
 have lq1:=lq1.below bw
 have lr1:=lr1.below bw
 have bb:=bstep bb bw
 clear hW bw q r zq zr
 refine (litI (-7) 7 true (by decide) (by decide) rfl rfl _).mono ?_
 rintro e w7 ⟨A7,k7,c7,rfl,h7,_,d7⟩
 go_wp2_with fail
 refine (litI (-2) 2 true (by decide) (by decide) rfl rfl _).mono ?_
 rintro e w8 ⟨A8,k8,c8,rfl,h8,_,d8⟩
 go_wp2_with fail
 refine (HM3.out _ (h7.below d8) h8).mono ?_
 rintro e w9 ⟨_,_,rfl,⟨Aq,kq,cq,rfl,q,zq⟩,⟨Ar,kr,cr,rfl,r,zr⟩,d9⟩
 have lq1:=(((lq1.below d7).below d8).below d9)
 have lr1:=(((lr1.below d7).below d8).below d9)
 have lq2:=(((lq2.below d7).below d8).below d9)
 have lr2:=(((lr2.below d7).below d8).below d9)
 have bb:=(bstep (bstep (bstep bb d7) d8) d9)
 clear h7 h8 d7 d8 d9
 go_wp2_with fail
 obtain ⟨W3,hW⟩ : ∃ W,W = (w9.alloc (Obj.cells #[Value.bool false,Value.slice Aq kq cq] 24)).alloc (Obj.cells #[Value.bool true,Value.slice Ar kr cr] 24):=⟨_,rfl⟩
 have bw : Below w9.heap.size w9 W3:=by rw [hW]; exact bal (bal (Below.refl _ _) _) _
 have lq3 : Loc W3 w9.heap.size 3 false:=by rw [hW]; exact (loc_new q (by decide) _).below (bal (Below.refl _ _) _)
 have lr3 : Loc W3 (w9.heap.size + 1) 1 true:=by rw [hW]; have:=loc_new (r.alloc (Obj.cells #[Value.bool false,Value.slice Aq kq cq] 24)) (b:=true) (by decide) 24; rw [World.size_alloc] at this; exact this
 rw [← hW]
 have lq1:=lq1.below bw
 have lr1:=lr1.below bw
 have lq2:=lq2.below bw
 have lr2:=lr2.below bw
 have bb:=bstep bb bw
 clear hW bw q r zq zr
 refine (parse_minus0 _).mono ?_
 rintro e w10 ⟨A,k,c,rfl,h,_,d10⟩
 have lq1:=(lq1.below d10)
 have lr1:=(lr1.below d10)
 have lq2:=(lq2.below d10)
 have lr2:=(lr2.below d10)
 have lq3:=(lq3.below d10)
 have lr3:=(lr3.below d10)
 have bb:=(bstep bb d10)
 clear h d10
 go_wp2_with fail
 obtain ⟨W4,hW⟩ : ∃ W,W = w10.alloc (Obj.cells #[Value.bool false,Value.slice A k c] 24):=⟨_,rfl⟩
 have bw : Below w10.heap.size w10 W4:=by rw [hW]; exact bal (Below.refl _ _) _
 rw [← hW]
 have lq1:=lq1.below bw
 have lr1:=lr1.below bw
 have lq2:=lq2.below bw
 have lr2:=lr2.below bw
 have lq3:=lq3.below bw
 have lr3:=lr3.below bw
 have bb:=bstep bb bw
 clear hW bw
 refine (parse_plus1 _).mono ?_
 rintro e w11 ⟨A,k,c,rfl,h,_,d11⟩
 have lq1:=(lq1.below d11)
 have lr1:=(lr1.below d11)
 have lq2:=(lq2.below d11)
 have lr2:=(lr2.below d11)
 have lq3:=(lq3.below d11)
 have lr3:=(lr3.below d11)
 have bb:=(bstep bb d11)
 clear h d11
 go_wp2_with fail
 obtain ⟨W5,hW⟩ : ∃ W,W = w11.alloc (Obj.cells #[Value.bool false,Value.slice A k c] 24):=⟨_,rfl⟩
 have bw : Below w11.heap.size w11 W5:=by rw [hW]; exact bal (Below.refl _ _) _
 rw [← hW]
 have lq1:=lq1.below bw
 have lr1:=lr1.below bw
 have lq2:=lq2.below bw
 have lr2:=lr2.below bw
 have lq3:=lq3.below bw
 have lr3:=lr3.below bw
 have bb:=bstep bb bw
 clear hW bw
 have hws:=bb.size
 go_simp
 refine am (w.heap.size) [kInt 4 true,kInt 4 true,kIs (.bool true),kIs (.bool true),kInt 1 false,kInt 1 false,kIs (.bool true),kIs (.bool true),kIs (.bool true),kIs (.int .i64 0),kIs (.bool true),kIs (.bool true),kIs (.bool true),kInt 4 true,kInt 4 true,kIs (.bool true),kIs (.bool true),kIs (.bool true),kInt 1 true,kInt 1 true,kIs (.bool true),kIs (.bool true),kIs (.bool true),kIs (.int .i64 0),kIs (.bool true),kIs (.bool true),kIs (.bool true),kInt 3 false,kInt 3 false,kIs (.bool true),kIs (.bool true),kIs (.bool true),kInt 1 true,kInt 1 true,kIs (.bool true),kIs (.bool true),kIs (.bool true),kIs (.int .i64 0),kIs (.bool true),kIs (.bool true),kIs (.bool true),kInt 4 true,kInt 6 false,kInt 0 false,kInts [(4,true),(6,false),(0,false)],kInt 2 false,kInt 2 false,kIs (.bool true),kIs (.bool true),kIs (.bool true),kIs (.agg #[.bool true,.slice none 0 0]),kIs (.string ⟨#[48]⟩),kIs (.bool true),kIs (.bool true),kIs (.bool true),kIs (.bool false),kIs (.bool true),kIs (.bool true),kIs (.bool true),kIs (.bool false),kIs (.bool true),kIs (.bool true),kIs (.bool true)] [ [],[],[(0,some 43),(1,some 44)],[(2,some 45)],[],[],[(4,some 47),(5,some 48)],[(3,some 46),(6,some 49)],[(7,some 50)],[],[(9,some 52)],[(8,some 51),(10,some 53)],[(11,some 54)],[],[],[(13,some 56),(14,some 57)],[(12,some 55),(15,some 58)],[(16,some 59)],[],[],[(18,some 61),(19,some 62)],[(17,some 60),(20,some 63)],[(21,some 64)],[],[(23,some 66)],[(22,some 65),(24,some 67)],[(25,some 68)],[],[],[(27,some 70),(28,some 71)],[(26,some 69),(29,some 72)],[(30,some 73)],[],[],[(32,some 75),(33,some 76)],[(31,some 74),(34,some 77)],[(35,some 78)],[],[(37,some 80)],[(36,some 79),(38,some 81)],[(39,some 82)],[],[],[],[(41,some 84),(42,some 85),(43,some 86)],[(44,some 87)],[],[(45,some 88),(46,some 89)],[(40,some 83),(47,some 90)],[(48,some 91)],[],[(50,some 93)],[(51,some 94)],[(49,some 92),(52,some 95)],[(53,some 96)],[],[(55,some 98)],[(54,some 97),(56,some 99)],[(57,some 100)],[],[(59,some 102)],[(58,some 101),(60,some 103)],[(61,some 104)] ] [(0,some 43),(1,some 44),(2,some 45),(3,some 46),(4,some 47),(5,some 48),(6,some 49),(7,some 50),(8,some 51),(9,some 52),(10,some 53),(11,some 54),(12,some 55),(13,some 56),(14,some 57),(15,some 58),(16,some 59),(17,some 60),(18,some 61),(19,some 62),(20,some 63),(21,some 64),(22,some 65),(23,some 66),(24,some 67),(25,some 68),(26,some 69),(27,some 70),(28,some 71),(29,some 72),(30,some 73),(31,some 74),(32,some 75),(33,some 76),(34,some 77),(35,some 78),(36,some 79),(37,some 80),(38,some 81),(39,some 82),(40,some 83),(41,some 84),(42,some 85),(43,some 86),(44,some 87),(45,some 88),(46,some 89),(47,some 90),(48,some 91),(49,some 92),(50,some 93),(51,some 94),(52,some 95),(53,some 96),(54,some 97),(55,some 98),(56,some 99),(57,some 100),(58,some 101),(59,some 102),(60,some 103),(61,some 104),(62,some 0)] [(3,true),(8,true),(12,true),(17,true),(22,true),(26,true),(31,true),(36,true),(40,true),(49,true),(54,true),(58,true)] [] ?n1 ?n2 ?n3 ?n4 ?st ?en
 case n1=>show List.Nodup ([] : List Nat); simp
 case n2=>show ∀ g ∈ ([] : List Nat),_; intro g hg; cases hg
 case n3=>omega
 case n4 =>
   show ∀ g ∈ ([] : List Nat),∃ cs,Holds_ _ g cs
   intro g hg
   cases hg
 case st =>
   refine aa rfl rfl ?_ ?_
   · intro wr x hC; simp only [deps,at_,List.getD_cons_zero,PK.sem,PK.move,kInt]; intro K hK; obtain ⟨A,k,c,hh,hr1,hr2⟩:=hC.loc (show _ ∉ ([] : List Nat) by simp <;> omega) lq1; obtain ⟨m1,m2,m3,m4⟩:=hh.two; simp only [putE,retOf]
     go_simp
     exact hK _ _ (Below.refl _ _) ⟨A,k,c,rfl,hr1,hr2⟩
   refine aa rfl rfl ?_ ?_
   · intro wr x hC; simp only [deps,at_,List.getD_cons_zero,List.getD_cons_succ,PK.sem,PK.move,kInt]; intro K hK; simp only [putE,retOf]
     go_simp
     refine (litI (-4) 4 true (by decide) (by decide) rfl rfl _).mono ?_; rintro e w2 ⟨A2,k2,c2,rfl,h1,h2,h3⟩
     go_simp
     exact hK _ _ h3 ⟨A2,k2,c2,rfl,h1,h2⟩
   refine aa rfl rfl ?_ ?_
   · intro wr x hC; simp only [deps,at_,List.getD_cons_zero,List.getD_cons_succ,PK.sem,PK.move,kInt,kIs]; intro hA hB; intro K hK; obtain ⟨A1,k1,c1,hx,hr1,_⟩:=hA; obtain ⟨A2,k2,c2,hy,hr2,_⟩:=hB; simp only [putE,retOf,hx,hy]
     go_simp
     refine (same2_yes hr1 hr2).mono ?_; rintro e w2 ⟨rfl,h3⟩
     go_simp
     exact hK _ _ h3 rfl
   refine aa rfl rfl ?_ ?_
   · intro wr x hC; simp only [deps,at_,List.getD_cons_zero,List.getD_cons_succ,PK.sem,PK.move,kIs]; intro h0; intro K hK; simp only [putE,retOf,h0]
     go_simp
     exact hK _ _ (Below.refl _ _) rfl
   refine aa rfl rfl ?_ ?_
   · intro wr x hC; simp only [deps,at_,List.getD_cons_zero,List.getD_cons_succ,PK.sem,PK.move,kInt]; intro K hK; obtain ⟨A,k,c,hh,hr1,hr2⟩:=hC.loc (show _ ∉ ([] : List Nat) by simp <;> omega) lr1; obtain ⟨m1,m2,m3,m4⟩:=hh.two; simp only [putE,retOf]
     go_simp
     exact hK _ _ (Below.refl _ _) ⟨A,k,c,rfl,hr1,hr2⟩
   refine aa rfl rfl ?_ ?_
   · intro wr x hC; simp only [deps,at_,List.getD_cons_zero,List.getD_cons_succ,PK.sem,PK.move,kInt]; intro K hK; simp only [putE,retOf]
     go_simp
     refine (litI (1) 1 false (by decide) (by decide) rfl rfl _).mono ?_; rintro e w2 ⟨A2,k2,c2,rfl,h1,h2,h3⟩
     go_simp
     exact hK _ _ h3 ⟨A2,k2,c2,rfl,h1,h2⟩
   refine aa rfl rfl ?_ ?_
   · intro wr x hC; simp only [deps,at_,List.getD_cons_zero,List.getD_cons_succ,PK.sem,PK.move,kInt,kIs]; intro hA hB; intro K hK; obtain ⟨A1,k1,c1,hx,hr1,_⟩:=hA; obtain ⟨A2,k2,c2,hy,hr2,_⟩:=hB; simp only [putE,retOf,hx,hy]
     go_simp
     refine (same2_yes hr1 hr2).mono ?_; rintro e w2 ⟨rfl,h3⟩
     go_simp
     exact hK _ _ h3 rfl
   refine aa rfl rfl ?_ ?_
   · intro wr x hC; simp only [deps,at_,List.getD_cons_zero,List.getD_cons_succ,PK.sem,PK.move,kIs]; intro h0 h1; intro K hK; simp only [putE,retOf,h0,h1]
     go_simp
     exact hK _ _ (Below.refl _ _) rfl
   refine aa rfl rfl ?_ ?_
   · intro wr x hC; simp only [deps,at_,List.getD_cons_zero,List.getD_cons_succ,PK.sem,PK.move,kIs]; intro h0; intro K hK; simp only [putE,retOf,h0]
     go_simp
     exact hK _ _ (Below.refl _ _) rfl
   refine aa rfl rfl ?_ ?_
   · intro wr x hC; simp only [deps,at_,List.getD_cons_zero,List.getD_cons_succ,PK.sem,PK.move,kIs]; intro K hK; simp only [putE,retOf]
     go_simp
     exact hK _ _ (Below.refl _ _) rfl
   refine aa rfl rfl ?_ ?_
   · intro wr x hC; simp only [deps,at_,List.getD_cons_zero,List.getD_cons_succ,PK.sem,PK.move,kIs]; intro h0; intro K hK; simp only [putE,retOf,h0]
     go_simp
     exact hK _ _ (Below.refl _ _) rfl
   refine aa rfl rfl ?_ ?_
   · intro wr x hC; simp only [deps,at_,List.getD_cons_zero,List.getD_cons_succ,PK.sem,PK.move,kIs]; intro h0 h1; intro K hK; simp only [putE,retOf,h0,h1]
     go_simp
     exact hK _ _ (Below.refl _ _) rfl
   refine aa rfl rfl ?_ ?_
   · intro wr x hC; simp only [deps,at_,List.getD_cons_zero,List.getD_cons_succ,PK.sem,PK.move,kIs]; intro h0; intro K hK; simp only [putE,retOf,h0]
     go_simp
     exact hK _ _ (Below.refl _ _) rfl
   refine aa rfl rfl ?_ ?_
   · intro wr x hC; simp only [deps,at_,List.getD_cons_zero,List.getD_cons_succ,PK.sem,PK.move,kInt]; intro K hK; obtain ⟨A,k,c,hh,hr1,hr2⟩:=hC.loc (show _ ∉ ([] : List Nat) by simp <;> omega) lq2; obtain ⟨m1,m2,m3,m4⟩:=hh.two; simp only [putE,retOf]
     go_simp
     exact hK _ _ (Below.refl _ _) ⟨A,k,c,rfl,hr1,hr2⟩
   refine aa rfl rfl ?_ ?_
   · intro wr x hC; simp only [deps,at_,List.getD_cons_zero,List.getD_cons_succ,PK.sem,PK.move,kInt]; intro K hK; simp only [putE,retOf]
     go_simp
     refine (litI (-4) 4 true (by decide) (by decide) rfl rfl _).mono ?_; rintro e w2 ⟨A2,k2,c2,rfl,h1,h2,h3⟩
     go_simp
     exact hK _ _ h3 ⟨A2,k2,c2,rfl,h1,h2⟩
   refine aa rfl rfl ?_ ?_
   · intro wr x hC; simp only [deps,at_,List.getD_cons_zero,List.getD_cons_succ,PK.sem,PK.move,kInt,kIs]; intro hA hB; intro K hK; obtain ⟨A1,k1,c1,hx,hr1,_⟩:=hA; obtain ⟨A2,k2,c2,hy,hr2,_⟩:=hB; simp only [putE,retOf,hx,hy]
     go_simp
     refine (same2_yes hr1 hr2).mono ?_; rintro e w2 ⟨rfl,h3⟩
     go_simp
     exact hK _ _ h3 rfl
   refine aa rfl rfl ?_ ?_
   · intro wr x hC; simp only [deps,at_,List.getD_cons_zero,List.getD_cons_succ,PK.sem,PK.move,kIs]; intro h0 h1; intro K hK; simp only [putE,retOf,h0,h1]
     go_simp
     exact hK _ _ (Below.refl _ _) rfl
   refine aa rfl rfl ?_ ?_
   · intro wr x hC; simp only [deps,at_,List.getD_cons_zero,List.getD_cons_succ,PK.sem,PK.move,kIs]; intro h0; intro K hK; simp only [putE,retOf,h0]
     go_simp
     exact hK _ _ (Below.refl _ _) rfl
   refine aa rfl rfl ?_ ?_
   · intro wr x hC; simp only [deps,at_,List.getD_cons_zero,List.getD_cons_succ,PK.sem,PK.move,kInt]; intro K hK; obtain ⟨A,k,c,hh,hr1,hr2⟩:=hC.loc (show _ ∉ ([] : List Nat) by simp <;> omega) lr2; obtain ⟨m1,m2,m3,m4⟩:=hh.two; simp only [putE,retOf]
     go_simp
     exact hK _ _ (Below.refl _ _) ⟨A,k,c,rfl,hr1,hr2⟩
   refine aa rfl rfl ?_ ?_
   · intro wr x hC; simp only [deps,at_,List.getD_cons_zero,List.getD_cons_succ,PK.sem,PK.move,kInt]; intro K hK; simp only [putE,retOf]
     go_simp
     refine (litI (-1) 1 true (by decide) (by decide) rfl rfl _).mono ?_; rintro e w2 ⟨A2,k2,c2,rfl,h1,h2,h3⟩
     go_simp
     exact hK _ _ h3 ⟨A2,k2,c2,rfl,h1,h2⟩
   refine aa rfl rfl ?_ ?_
   · intro wr x hC; simp only [deps,at_,List.getD_cons_zero,List.getD_cons_succ,PK.sem,PK.move,kInt,kIs]; intro hA hB; intro K hK; obtain ⟨A1,k1,c1,hx,hr1,_⟩:=hA; obtain ⟨A2,k2,c2,hy,hr2,_⟩:=hB; simp only [putE,retOf,hx,hy]
     go_simp
     refine (same2_yes hr1 hr2).mono ?_; rintro e w2 ⟨rfl,h3⟩
     go_simp
     exact hK _ _ h3 rfl
   refine aa rfl rfl ?_ ?_
   · intro wr x hC; simp only [deps,at_,List.getD_cons_zero,List.getD_cons_succ,PK.sem,PK.move,kIs]; intro h0 h1; intro K hK; simp only [putE,retOf,h0,h1]
     go_simp
     exact hK _ _ (Below.refl _ _) rfl
   refine aa rfl rfl ?_ ?_
   · intro wr x hC; simp only [deps,at_,List.getD_cons_zero,List.getD_cons_succ,PK.sem,PK.move,kIs]; intro h0; intro K hK; simp only [putE,retOf,h0]
     go_simp
     exact hK _ _ (Below.refl _ _) rfl
   refine aa rfl rfl ?_ ?_
   · intro wr x hC; simp only [deps,at_,List.getD_cons_zero,List.getD_cons_succ,PK.sem,PK.move,kIs]; intro K hK; simp only [putE,retOf]
     go_simp
     exact hK _ _ (Below.refl _ _) rfl
   refine aa rfl rfl ?_ ?_
   · intro wr x hC; simp only [deps,at_,List.getD_cons_zero,List.getD_cons_succ,PK.sem,PK.move,kIs]; intro h0; intro K hK; simp only [putE,retOf,h0]
     go_simp
     exact hK _ _ (Below.refl _ _) rfl
   refine aa rfl rfl ?_ ?_
   · intro wr x hC; simp only [deps,at_,List.getD_cons_zero,List.getD_cons_succ,PK.sem,PK.move,kIs]; intro h0 h1; intro K hK; simp only [putE,retOf,h0,h1]
     go_simp
     exact hK _ _ (Below.refl _ _) rfl
   refine aa rfl rfl ?_ ?_
   · intro wr x hC; simp only [deps,at_,List.getD_cons_zero,List.getD_cons_succ,PK.sem,PK.move,kIs]; intro h0; intro K hK; simp only [putE,retOf,h0]
     go_simp
     exact hK _ _ (Below.refl _ _) rfl
   refine aa rfl rfl ?_ ?_
   · intro wr x hC; simp only [deps,at_,List.getD_cons_zero,List.getD_cons_succ,PK.sem,PK.move,kInt]; intro K hK; obtain ⟨A,k,c,hh,hr1,hr2⟩:=hC.loc (show _ ∉ ([] : List Nat) by simp <;> omega) lq3; obtain ⟨m1,m2,m3,m4⟩:=hh.two; simp only [putE,retOf]
     go_simp
     exact hK _ _ (Below.refl _ _) ⟨A,k,c,rfl,hr1,hr2⟩
   refine aa rfl rfl ?_ ?_
   · intro wr x hC; simp only [deps,at_,List.getD_cons_zero,List.getD_cons_succ,PK.sem,PK.move,kInt]; intro K hK; simp only [putE,retOf]
     go_simp
     refine (litI (3) 3 false (by decide) (by decide) rfl rfl _).mono ?_; rintro e w2 ⟨A2,k2,c2,rfl,h1,h2,h3⟩
     go_simp
     exact hK _ _ h3 ⟨A2,k2,c2,rfl,h1,h2⟩
   refine aa rfl rfl ?_ ?_
   · intro wr x hC; simp only [deps,at_,List.getD_cons_zero,List.getD_cons_succ,PK.sem,PK.move,kInt,kIs]; intro hA hB; intro K hK; obtain ⟨A1,k1,c1,hx,hr1,_⟩:=hA; obtain ⟨A2,k2,c2,hy,hr2,_⟩:=hB; simp only [putE,retOf,hx,hy]
     go_simp
     refine (same2_yes hr1 hr2).mono ?_; rintro e w2 ⟨rfl,h3⟩
     go_simp
     exact hK _ _ h3 rfl
   refine aa rfl rfl ?_ ?_
   · intro wr x hC; simp only [deps,at_,List.getD_cons_zero,List.getD_cons_succ,PK.sem,PK.move,kIs]; intro h0 h1; intro K hK; simp only [putE,retOf,h0,h1]
     go_simp
     exact hK _ _ (Below.refl _ _) rfl
   refine aa rfl rfl ?_ ?_
   · intro wr x hC; simp only [deps,at_,List.getD_cons_zero,List.getD_cons_succ,PK.sem,PK.move,kIs]; intro h0; intro K hK; simp only [putE,retOf,h0]
     go_simp
     exact hK _ _ (Below.refl _ _) rfl
   refine aa rfl rfl ?_ ?_
   · intro wr x hC; simp only [deps,at_,List.getD_cons_zero,List.getD_cons_succ,PK.sem,PK.move,kInt]; intro K hK; obtain ⟨A,k,c,hh,hr1,hr2⟩:=hC.loc (show _ ∉ ([] : List Nat) by simp <;> omega) lr3; obtain ⟨m1,m2,m3,m4⟩:=hh.two; simp only [putE,retOf]
     go_simp
     exact hK _ _ (Below.refl _ _) ⟨A,k,c,rfl,hr1,hr2⟩
   refine aa rfl rfl ?_ ?_
   · intro wr x hC; simp only [deps,at_,List.getD_cons_zero,List.getD_cons_succ,PK.sem,PK.move,kInt]; intro K hK; simp only [putE,retOf]
     go_simp
     refine (litI (-1) 1 true (by decide) (by decide) rfl rfl _).mono ?_; rintro e w2 ⟨A2,k2,c2,rfl,h1,h2,h3⟩
     go_simp
     exact hK _ _ h3 ⟨A2,k2,c2,rfl,h1,h2⟩
   refine aa rfl rfl ?_ ?_
   · intro wr x hC; simp only [deps,at_,List.getD_cons_zero,List.getD_cons_succ,PK.sem,PK.move,kInt,kIs]; intro hA hB; intro K hK; obtain ⟨A1,k1,c1,hx,hr1,_⟩:=hA; obtain ⟨A2,k2,c2,hy,hr2,_⟩:=hB; simp only [putE,retOf,hx,hy]
     go_simp
     refine (same2_yes hr1 hr2).mono ?_; rintro e w2 ⟨rfl,h3⟩
     go_simp
     exact hK _ _ h3 rfl
   refine aa rfl rfl ?_ ?_
   · intro wr x hC; simp only [deps,at_,List.getD_cons_zero,List.getD_cons_succ,PK.sem,PK.move,kIs]; intro h0 h1; intro K hK; simp only [putE,retOf,h0,h1]
     go_simp
     exact hK _ _ (Below.refl _ _) rfl
   refine aa rfl rfl ?_ ?_
   · intro wr x hC; simp only [deps,at_,List.getD_cons_zero,List.getD_cons_succ,PK.sem,PK.move,kIs]; intro h0; intro K hK; simp only [putE,retOf,h0]
     go_simp
     exact hK _ _ (Below.refl _ _) rfl
   refine aa rfl rfl ?_ ?_
   · intro wr x hC; simp only [deps,at_,List.getD_cons_zero,List.getD_cons_succ,PK.sem,PK.move,kIs]; intro K hK; simp only [putE,retOf]
     go_simp
     exact hK _ _ (Below.refl _ _) rfl
   refine aa rfl rfl ?_ ?_
   · intro wr x hC; simp only [deps,at_,List.getD_cons_zero,List.getD_cons_succ,PK.sem,PK.move,kIs]; intro h0; intro K hK; simp only [putE,retOf,h0]
     go_simp
     exact hK _ _ (Below.refl _ _) rfl
   refine aa rfl rfl ?_ ?_
   · intro wr x hC; simp only [deps,at_,List.getD_cons_zero,List.getD_cons_succ,PK.sem,PK.move,kIs]; intro h0 h1; intro K hK; simp only [putE,retOf,h0,h1]
     go_simp
     exact hK _ _ (Below.refl _ _) rfl
   refine aa rfl rfl ?_ ?_
   · intro wr x hC; simp only [deps,at_,List.getD_cons_zero,List.getD_cons_succ,PK.sem,PK.move,kIs]; intro h0; intro K hK; simp only [putE,retOf,h0]
     go_simp
     exact hK _ _ (Below.refl _ _) rfl
   refine aa rfl rfl ?_ ?_
   · intro wr x hC; simp only [deps,at_,List.getD_cons_zero,List.getD_cons_succ,PK.sem,PK.move,kInt]; intro K hK; simp only [putE,retOf]
     go_simp
     refine (litI (-4) 4 true (by decide) (by decide) rfl rfl _).mono ?_; rintro e w2 ⟨A2,k2,c2,rfl,h1,h2,h3⟩
     go_simp
     exact hK _ _ h3 ⟨A2,k2,c2,rfl,h1,h2⟩
   refine aa rfl rfl ?_ ?_
   · intro wr x hC; simp only [deps,at_,List.getD_cons_zero,List.getD_cons_succ,PK.sem,PK.move,kInt]; intro K hK; simp only [putE,retOf]
     go_simp
     refine (litI (6) 6 false (by decide) (by decide) rfl rfl _).mono ?_; rintro e w2 ⟨A2,k2,c2,rfl,h1,h2,h3⟩
     go_simp
     exact hK _ _ h3 ⟨A2,k2,c2,rfl,h1,h2⟩
   refine aa rfl rfl ?_ ?_
   · intro wr x hC; simp only [deps,at_,List.getD_cons_zero,List.getD_cons_succ,PK.sem,PK.move,kInt]; intro K hK; simp only [putE,retOf]
     go_simp
     refine (litI (0) 0 false (by decide) (by decide) rfl rfl _).mono ?_; rintro e w2 ⟨A2,k2,c2,rfl,h1,h2,h3⟩
     go_simp
     exact hK _ _ h3 ⟨A2,k2,c2,rfl,h1,h2⟩
   refine aa rfl rfl ?_ ?_
   · intro wr x hC; simp only [deps,at_,List.getD_cons_zero,List.getD_cons_succ,PK.sem,PK.move,kInt,kInts]; intro hA hB hD; intro K hK; obtain ⟨A1,k1,c1,hx,hr1,_⟩:=hA; obtain ⟨A2,k2,c2,hy,hr2,_⟩:=hB; obtain ⟨A3,k3,c3,hz,hr3,_⟩:=hD; have hsz:=hC.below.size; simp only [putE,retOf,hx,hy,hz]
     go_simp
     exact hK _ _ ⟨(Below.refl _ _).alloc (Nat.le_refl _) _,_,rfl,Nat.le_refl _⟩ ⟨_,rfl,hsz,lt_alloc _ _,ints_lit3 hr1.rd hr2.rd hr3.rd _⟩
   refine aa rfl rfl ?_ ?_
   · intro wr x hC; simp only [deps,at_,List.getD_cons_zero,List.getD_cons_succ,PK.sem,PK.move,kInt,kInts]; intro hA; intro K hK; obtain ⟨g,hx,_,_,hi⟩:=hA; simp only [List.length_cons,List.length_nil,Nat.reduceAdd] at hx; simp only [putE,retOf,hx]
     go_simp
     refine (gcd_ex _ _ hi).mono ?_; rintro e w2 ⟨A2,k2,c2,rfl,h1,h2,h3⟩
     go_simp
     exact hK _ _ h3 ⟨A2,k2,c2,rfl,h1,h2⟩
   refine aa rfl rfl ?_ ?_
   · intro wr x hC; simp only [deps,at_,List.getD_cons_zero,List.getD_cons_succ,PK.sem,PK.move,kInt]; intro K hK; simp only [putE,retOf]
     go_simp
     refine (litI (2) 2 false (by decide) (by decide) rfl rfl _).mono ?_; rintro e w2 ⟨A2,k2,c2,rfl,h1,h2,h3⟩
     go_simp
     exact hK _ _ h3 ⟨A2,k2,c2,rfl,h1,h2⟩
   refine aa rfl rfl ?_ ?_
   · intro wr x hC; simp only [deps,at_,List.getD_cons_zero,List.getD_cons_succ,PK.sem,PK.move,kInt,kIs]; intro hA hB; intro K hK; obtain ⟨A1,k1,c1,hx,hr1,_⟩:=hA; obtain ⟨A2,k2,c2,hy,hr2,_⟩:=hB; simp only [putE,retOf,hx,hy]
     go_simp
     refine (same2_yes hr1 hr2).mono ?_; rintro e w2 ⟨rfl,h3⟩
     go_simp
     exact hK _ _ h3 rfl
   refine aa rfl rfl ?_ ?_
   · intro wr x hC; simp only [deps,at_,List.getD_cons_zero,List.getD_cons_succ,PK.sem,PK.move,kIs]; intro h0 h1; intro K hK; simp only [putE,retOf,h0,h1]
     go_simp
     exact hK _ _ (Below.refl _ _) rfl
   refine aa rfl rfl ?_ ?_
   · intro wr x hC; simp only [deps,at_,List.getD_cons_zero,List.getD_cons_succ,PK.sem,PK.move,kIs]; intro h0; intro K hK; simp only [putE,retOf,h0]
     go_simp
     exact hK _ _ (Below.refl _ _) rfl
   refine aa rfl rfl ?_ ?_
   · intro wr x hC; simp only [deps,at_,List.getD_cons_zero,List.getD_cons_succ,PK.sem,PK.move,kIs]; intro K hK; simp only [putE,retOf]
     go_simp
     exact hK _ _ (Below.refl _ _) rfl
   refine aa rfl rfl ?_ ?_
   · intro wr x hC; simp only [deps,at_,List.getD_cons_zero,List.getD_cons_succ,PK.sem,PK.move,kIs]; intro hA; intro K hK; have htw : Tab wr:=HT.out.below (bb.trans hC.below) hw; have hsz:=hC.below.size; simp only [putE,retOf,hA]
     go_simp
     refine (text_ex _ htw (by omega)).mono ?_; rintro e w2 ⟨rfl,h3⟩
     go_simp
     exact hK _ _ h3 rfl
   refine aa rfl rfl ?_ ?_
   · intro wr x hC; simp only [deps,at_,List.getD_cons_zero,List.getD_cons_succ,PK.sem,PK.move,kIs]; intro h0; intro K hK; simp only [putE,retOf,h0]
     go_simp
     exact hK _ _ (Below.refl _ _) rfl
   refine aa rfl rfl ?_ ?_
   · intro wr x hC; simp only [deps,at_,List.getD_cons_zero,List.getD_cons_succ,PK.sem,PK.move,kIs]; intro h0 h1; intro K hK; simp only [putE,retOf,h0,h1]
     go_simp
     exact hK _ _ (Below.refl _ _) rfl
   refine aa rfl rfl ?_ ?_
   · intro wr x hC; simp only [deps,at_,List.getD_cons_zero,List.getD_cons_succ,PK.sem,PK.move,kIs]; intro h0; intro K hK; simp only [putE,retOf,h0]
     go_simp
     exact hK _ _ (Below.refl _ _) rfl
   refine aa rfl rfl ?_ ?_
   · intro wr x hC; simp only [deps,at_,List.getD_cons_zero,List.getD_cons_succ,PK.sem,PK.move,kIs]; intro K hK; simp only [putE,retOf]
     go_simp
     exact hK _ _ (Below.refl _ _) rfl
   refine aa rfl rfl ?_ ?_
   · intro wr x hC; simp only [deps,at_,List.getD_cons_zero,List.getD_cons_succ,PK.sem,PK.move,kIs]; intro h0; intro K hK; simp only [putE,retOf,h0]
     go_simp
     exact hK _ _ (Below.refl _ _) rfl
   refine aa rfl rfl ?_ ?_
   · intro wr x hC; simp only [deps,at_,List.getD_cons_zero,List.getD_cons_succ,PK.sem,PK.move,kIs]; intro h0 h1; intro K hK; simp only [putE,retOf,h0,h1]
     go_simp
     exact hK _ _ (Below.refl _ _) rfl
   refine aa rfl rfl ?_ ?_
   · intro wr x hC; simp only [deps,at_,List.getD_cons_zero,List.getD_cons_succ,PK.sem,PK.move,kIs]; intro h0; intro K hK; simp only [putE,retOf,h0]
     go_simp
     exact hK _ _ (Below.refl _ _) rfl
   refine aa rfl rfl ?_ ?_
   · intro wr x hC; simp only [deps,at_,List.getD_cons_zero,List.getD_cons_succ,PK.sem,PK.move,kIs]; intro K hK; simp only [putE,retOf]
     go_simp
     exact hK _ _ (Below.refl _ _) rfl
   refine aa rfl rfl ?_ ?_
   · intro wr x hC; simp only [deps,at_,List.getD_cons_zero,List.getD_cons_succ,PK.sem,PK.move,kIs]; intro h0; intro K hK; simp only [putE,retOf,h0]
     go_simp
     exact hK _ _ (Below.refl _ _) rfl
   refine aa rfl rfl ?_ ?_
   · intro wr x hC; simp only [deps,at_,List.getD_cons_zero,List.getD_cons_succ,PK.sem,PK.move,kIs]; intro h0 h1; intro K hK; simp only [putE,retOf,h0,h1]
     go_simp
     exact hK _ _ (Below.refl _ _) rfl
   refine aa rfl rfl ?_ ?_
   · intro wr x hC; simp only [deps,at_,List.getD_cons_zero,List.getD_cons_succ,PK.sem,PK.move,kIs]; intro h0; intro K hK; simp only [putE,retOf,h0]
     go_simp
     exact hK _ _ (Below.refl _ _) rfl
   exact ai rfl
 case en =>
   intro wr x hC hall; have hL:=hall 62 (of_decide_eq_true (by kernel_rfl)); clear hall; simp only [at_,List.getD_cons_zero,List.getD_cons_succ,PK.sem,kIs] at hL; have hbw:=bb.trans hC.below; refine awake2_lit ?_; rw [hL]; clear hL hC
   go_wp2
   go_returns
   exact ⟨rfl,hbw⟩
end Go.Proofs.YtifgcjpgelbelaaGreatDoor
namespace Go.Proofs.YtifgcjpgelbelaaGreatDoor
open Go.ChangeShapes Go.WideShapes Go.ChangeAt Go.WideMaps Go.WideElems Go.RowKit
def laid3 : List (String × DataW Unit):=[("math/bits.deBruijn32tab",Rows.laid_math_bits_deBruijn32tab),("math/bits.deBruijn64tab",Rows.laid_math_bits_deBruijn64tab),("internal/strconv.uint64pow10",Rows.laid_internal_strconv_uint64pow10)]
theorem own : ownKnob Tryz.prog.godebug = none:=by kernel_rfl
theorem tab_of_laid {W : World} (h : laidMetH Tryz.prog laid3 W) : Tab W ∧ 2 ≤ W.heap.size:=by
 have h3:=laidMetH.filter (fun x=>x.1 == "internal/strconv.uint64pow10") h
 have e : laid3.filter (fun x=>x.1 == "internal/strconv.uint64pow10") = [("internal/strconv.uint64pow10",Rows.laid_internal_strconv_uint64pow10)]:=by simp [laid3]
 rw [e,MakeChecks.laidMetH_plain _ _ _ (by kernel_rfl)] at h3
 have ht : Tab W:=Lib.tabIs_of_head (g:=1) (t:=193) (e:=87) (n:=20) (by kernel_rfl) (by kernel_rfl) Tryz.underlying193 Tryz.underlying87 (by kernel_rfl) (by kernel_rfl) h3
 refine ⟨ht,?_⟩
 have hg : Tryz.prog.globalNamed "internal/strconv.uint64pow10" = some 1:=by kernel_rfl
 have ht2:=ht
 unfold Tab Lib.TabIs World.var? at ht2
 simp only [hg,Option.bind_some] at ht2
 rcases Nat.lt_or_ge 1 W.heap.size with h | h
 · exact h
 · rw [Array.getElem?_eq_none h] at ht2; simp at ht2
theorem door_met (os : Os) (args : Array Value) : laidMetH Tryz.prog laid3 ((World.doorLaid Tryz.prog 400 os).forCall (fun _ _=>0) ⟨#[],args,[]⟩).memory :=
 laidMetH_of_parts3 (fuel:=8) (laidMet_of_run' 8 (by kernel_rfl) (by kernel_rfl)) (by kernel_rfl) (by kernel_rfl)
end Go.Proofs.YtifgcjpgelbelaaGreatDoor
namespace Go.Proofs.YtifgcjpgelbelaaGreatDoor
open Go.ChangeShapes Go.WideShapes Go.ChangeAt Go.WideMaps Go.WideElems Go.RowKit
theorem laidOut : laidOutB Tryz.prog = true:=by kernel_rfl
theorem wf_u32 {n : Int} (h : (Lit.int .u32 n).wf = true) : 0 ≤ n ∧ n < 4294967296:=by
 have h2:=h
 rw [Lit.wf,Bool.and_eq_true,decide_eq_true_eq,decide_eq_true_eq] at h2
 have h3 : IntKind.min .u32 = 0:=rfl
 have h4 : IntKind.max .u32 = 4294967295:=rfl
 omega
def lim (zs : List Int) (n : Nat) : List Nat:=(zs.take n).map Int.toNat
theorem lim_length {zs : List Int} {n : Nat} (h : n ≤ zs.length) : (lim zs n).length = n:=by
 rw [lim,List.length_map,List.length_take,Nat.min_eq_left h]
theorem lim_small {zs : List Int} {n : Nat} (h : ∀ z ∈ zs,(Lit.int .u32 z).wf = true) : small 4294967296 (lim zs n):=by
 intro d hd
 obtain ⟨z,hz,rfl⟩:=List.mem_map.1 hd
 have:=wf_u32 (h z (List.mem_of_mem_take hz))
 omega
theorem lim_row {w : World} {A : Option Addr} {zs : List Int} {n c : Nat} (hn : n ≤ c) (hz : zs.length = c) (hw : ∀ z ∈ zs, (Lit.int .u32 z).wf = true) (h0 : A = none → c = 0)
   (h : ∀ a',A = some a' → ∀ i,i < c → w.cell? (a'.add i) = some (.int .u32 (zs.getD i 0))) : Row w A (u32s (lim zs n)):=by
 intro j v hv
 have hj : j < n:=by
   have:=(List.getElem?_eq_some_iff.1 hv).1
   rwa [ac,lim_length (by omega)] at this
 match A,h0,h with
 | none,h0,_=>have:=h0 rfl; omega
 | some a,_,h =>
   refine ⟨a,rfl,?_⟩; rw [h a rfl j (by omega),← hv]; have hjz : j < zs.length:=by omega
   have hwf:=wf_u32 (hw zs[j] (List.getElem_mem _)); simp only [u32s,lim,List.map_map,List.getElem?_map,List.getElem?_take,if_pos hj,List.getElem?_eq_getElem hjz,Option.map_some,Function.comp,List.getD_eq_getElem?_getD,Option.getD_some]; rw [Int.toNat_of_nonneg hwf.1]
end Go.Proofs.YtifgcjpgelbelaaGreatDoor
namespace Go.Proofs.YtifgcjpgelbelaaGreatDoor
open Go.ChangeShapes Go.WideShapes Go.ChangeAt Go.WideMaps Go.WideElems Go.RowKit
theorem below_trodAll {H : Type} {enc : TypeId × Value → H} {W W' : World} (hb : Below W.heap.size W W') : ∀ {ts : List TypeId} {vs : List Value} {ds : List (DataW H)} {ps : List MemPlace}, (∀ t ∈ ts, Tryz.prog.readableRec t = true ∧ t < Tryz.prog.types.size) → DataW.TrodAll enc Tryz.prog W 0 (fun _ => true) true ts vs ds ps →
   (∀ x ∈ ps,x.block < W.heap.size) → DataW.TrodAll enc Tryz.prog W' 0 (fun b=>decide (b < W.heap.size)) true ts vs ds ps
 | [],[],[],_,_,h,_=>h
 | _ :: _,_ :: _,_ :: _,_,hT,⟨p,q,h1,h2,e⟩,hs=>⟨p,q,Below.trod laidOut (hT _ (List.mem_cons.2 (Or.inl rfl))).1 (hT _ (List.mem_cons.2 (Or.inl rfl))).2 h1 hb (fun x hx=>hs x (by rw [e]; exact List.mem_append_left _ hx)),below_trodAll hb (fun t ht=>hT t (List.mem_cons.2 (Or.inr ht))) h2 (fun x hx=>hs x (by rw [e]; exact List.mem_append_right _ hx)),e⟩
end Go.Proofs.YtifgcjpgelbelaaGreatDoor

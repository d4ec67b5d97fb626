/- Contracts of package ratio's calls over right ratios: Contracts of package ratio's calls over right ratios: Contracts over right ratios: A step for a call of a function that came as a value (put in ratio.fold). Contracts over right ratios: Contracts over right ratios: SameInt over two right numbers that are not the same: Contracts over right ratios: A region that draws its order, in which some operations find a result's cell as it was ahead of the region: Steps in a region that stores into one old block, of operations that find it as it was: Contracts over right ratios: Contracts over right ratios: Contracts over two right numbers that are no right ratio: Right of any ratio that came in, of at most 8 digits a number: The text of a broken number; where strings.Cut cuts it; two texts are one only of one number. -/
import Derived.Test.YtnbhihhjgpddcaaGreatDoorPR5
import Derived.Test.YtnbhihhjgpddcaaGreatDoorPR2
set_option maxRecDepth 100000
set_option maxHeartbeats 16000000
set_option linter.unusedVariables false
set_option linter.unusedSimpArgs false
namespace Go.Proofs.YtnbhihhjgpddcaaGreatDoor
open Go.RowKit
theorem Reg.at0 {B : Nat} {W0 w : World} (h : Reg B W0 [] w) {g o k : Nat} {z : Int} (hl : AtR W0 g o k z) : AtR w g o k z:=h.atR (by simp) hl
theorem pm {S0 : Nat} {x : Nat → Value} {v : Value} {w : World} {j k : Nat} {z1 z2 : Int}  (h : (kP j z1 z2).sem S0 x v w) (hk : j ≤ k:=by decide) : Pr w v k z1 z2:=Pr.mono h hk
theorem den_ne (a : Rat) : (a.den : Int) ≠ 0:=Int.ne_of_gt (den_pos a)
theorem den_sign (a : Rat) : decide ((a.den : Int) < 0) = false:=decide_eq_false (by have:=den_pos a; omega)
theorem gcd_one (a : Rat) : ((zgcd [(a.num),((a.den : Int))] : Nat) : Int) = 1:=by
 have h:=a.reduced
 unfold Nat.Coprime at h
 rw [lf,Int.gcd,Int.natAbs_natCast,Nat.gcd_comm,h]; rfl
theorem isNone_z {w : World} {v : Value} {k : Nat} {z : Int} (h : Zr w v k z) (hz : z ≠ 0) : Calls Tryz.prog 44 #[v] w fun e w'=>e = .returned (.bool false) ∧ Below w.heap.size w w':=by
 obtain ⟨A,l,c,rfl,h1,_⟩:=h
 have hk:=(rr_len h1).1
 have hl : ((l : Int) == 0) = false:=by
   rw [beq_eq_false_iff_ne]; intro e; have:=hk.1 (by omega); omega
 obtain ⟨s,hs⟩ : ∃ s,s = decide (z < 0):=⟨_,rfl⟩
 rw [← hs]
 clear hs hk h1 hz
 go_enter Tryz.func44,Tryz.ntmps44
 go_wp2
 go_ret
 exact ⟨rfl,bal (Below.refl _ _) _⟩
section
variable {G : List Nat} {S0 B : Nat} {ks : List PK} {a0 : Act} {i : Nat} {N : Nat} {W0 : World} {T : TypeId} {pos : String} {af : Array Edge} {gu : Option (Nat × Bool)}
theorem run_loadS {w : World} {g o : Nat} {s : Bool} (h0 : w.cell? ⟨g,o,none⟩ = some (.bool s)) : (Instr.loadAt 4 (.pointer (some ⟨g,o,none⟩))).run Tryz.prog w = .ok (.bool s) w:=by go_simp
theorem run_load4P {w : World} {g : Nat} {u v u' v' : Value} (h0 : w.cell? ⟨g,0,none⟩ = some u) (h1 : w.cell? ⟨g,1,none⟩ = some v) (h2 : w.cell? ⟨g,2,none⟩ = some u') (h3 : w.cell? ⟨g,3,none⟩ = some v') : (Instr.loadAt 26 (.pointer (some ⟨g,0,none⟩))).run Tryz.prog w = .ok (.agg #[u,v,u',v']) w:=by go_simp
theorem run_load4F {w : World} {g : Nat} {u v u' v' : Value} (h0 : w.cell? ⟨g,0,none⟩ = some u) (h1 : w.cell? ⟨g,1,none⟩ = some v) (h2 : w.cell? ⟨g,2,none⟩ = some u') (h3 : w.cell? ⟨g,3,none⟩ = some v') : (Instr.loadAt 58 (.pointer (some ⟨g,0,none⟩))).run Tryz.prog w = .ok (.agg #[u,v,u',v']) w:=by go_simp
theorem st_loadS {d t j g o k : Nat} {z : Int} {s : Bool} (hl : AtR W0 g o k z) (hs : decide (z < 0) = s)     (hj : at_ ks j = kIs (.pointer (some ⟨g,o,none⟩))) (hi : at_ ks i = kIs (.bool s)) (hG : g ∉ G:=by simp) (hN : a0.tmps.size = N:=by assumption) (hd : decide (d < N) = true:=by kernel_rfl) (ht : decide (t < N) = true:=by kernel_rfl) :
   PkStep Tryz.prog (Reg B W0 G) S0 ks a0 i { dst:=some d,op:=.load 4 (.tmp t),type:=T,pos:=pos,after:=af,guard:=gu } [(j,some t)]:=by
 intro w x hC
 refine ay _ fun hdeps K hK=>?_
 have g1:=hdeps (j,some t) (by simp)
 rw [hj] at g1
 have g2 : x j = .pointer (some ⟨g,o,none⟩):=g1
 have e1 : (putE x a0 [(j,some t)]).eval (.tmp t) = x j:=putE_new _ _ (by rw [hN]; exact of_decide_eq_true ht) (by simp [slotAt])
 obtain ⟨A,m,c,h1,_,_⟩:=hC.atR hG hl
 rw [hs] at h1
 refine cb (v:=.bool s) (w':=w) rfl (by rw [az,hN]) hd (ex_load (e1.trans g2) (run_loadS h1)) (hK _ _ ?_ ?_)
 · rw [hi]; exact Below.refl _ _
 · rw [hi]; rfl
theorem au {ops9 : Array Oper} {es9 : List (List (Nat × Option Tmp))} {sk9 : List Nat} {d t j g o k : Nat} {z : Int} {s : Bool} (hl : AtR W0 g o k z) (hs : decide (z < 0) = s) (hh9 : PkFrom Tryz.prog ops9 es9 sk9 (Reg B W0 G) S0 ks a0 (i + 1)) (ho9 : ops9[i]? = some { dst:=some d,op:=.load 4 (.tmp t),type:=T,pos:=pos,after:=af,guard:=gu }:=by exact rfl) (he9 : es9.getD i [] = [(j,some t)]:=by exact rfl) (hj : at_ ks j = kIs (.pointer (some ⟨g,o,none⟩)):=by exact rfl) (hi : at_ ks i = kIs (.bool s):=by exact rfl) (hG : g ∉ G:=by simp) (hN : a0.tmps.size = N:=by assumption) (hd : decide (d < N) = true:=by kernel_rfl) (ht : decide (t < N) = true:=by kernel_rfl) : PkFrom Tryz.prog ops9 es9 sk9 (Reg B W0 G) S0 ks a0 i :=
 aa ho9 he9 (st_loadS (hl:=hl) (hs:=hs) (hj:=hj) (hi:=hi) (hG:=hG) (hN:=hN) (hd:=hd) (ht:=ht)) hh9
theorem aw {d t g k : Nat} {z1 z2 : Int} (hl : AtR W0 g 0 k z1) (hl2 : AtR W0 g 2 k z2)  (hp : a0.eval (.tmp t) = .pointer (some ⟨g,0,none⟩))   (hi : at_ ks i = kP k z1 z2) (hG : g ∉ G:=by simp) (hN : a0.tmps.size = N:=by assumption) (hd : decide (d < N) = true:=by kernel_rfl) :
   PkStep Tryz.prog (Reg B W0 G) S0 ks a0 i { dst:=some d,op:=.load 26 (.tmp t),type:=T,pos:=pos,after:=af,guard:=gu } []:=by
 intro w x hC K hK
 obtain ⟨A,m,c,h1,h2,A1,m1,c1,e1,h3⟩:=hC.atR hG hl
 obtain ⟨A',m',c',h4,h5,A2,m2,c2,e2,h6⟩:=hC.atR hG hl2
 injection e1 with e1; injection e1 with e1; injection e1 with _ e1; injection e1 with e1 _; injection e1 with a b c; subst a; subst b; subst c
 injection e2 with e2; injection e2 with e2; injection e2 with _ e2; injection e2 with e2 _; injection e2 with a b c; subst a; subst b; subst c
 refine cb (w':=w) rfl hN hd (ex_load hp (run_load4P h1 h2 h4 h5)) (hK _ _ ?_ ?_)
 · rw [hi]; exact Below.refl _ _
 · rw [hi]; exact ⟨_,_,_,_,_,_,rfl,h3,h6⟩
theorem st_load4F {d t g k : Nat} {z1 z2 : Int} (hl : AtR W0 g 0 k z1) (hl2 : AtR W0 g 2 k z2)  (hp : a0.eval (.tmp t) = .pointer (some ⟨g,0,none⟩))   (hi : at_ ks i = kP k z1 z2) (hG : g ∉ G:=by simp only [List.mem_singleton]; omega) (hN : a0.tmps.size = N:=by assumption) (hd : decide (d < N) = true:=by kernel_rfl) :
   PkStep Tryz.prog (Reg B W0 G) S0 ks a0 i { dst:=some d,op:=.load 58 (.tmp t),type:=T,pos:=pos,after:=af,guard:=gu } []:=by
 intro w x hC K hK
 obtain ⟨A,m,c,h1,h2,A1,m1,c1,e1,h3⟩:=hC.atR hG hl
 obtain ⟨A',m',c',h4,h5,A2,m2,c2,e2,h6⟩:=hC.atR hG hl2
 injection e1 with e1; injection e1 with e1; injection e1 with _ e1; injection e1 with e1 _; injection e1 with a b c; subst a; subst b; subst c
 injection e2 with e2; injection e2 with e2; injection e2 with _ e2; injection e2 with e2 _; injection e2 with a b c; subst a; subst b; subst c
 refine cb (w':=w) rfl hN hd (ex_load hp (run_load4F h1 h2 h4 h5)) (hK _ _ ?_ ?_)
 · rw [hi]; exact Below.refl _ _
 · rw [hi]; exact ⟨_,_,_,_,_,_,rfl,h3,h6⟩
end
theorem isOne_z1 {w : World} {v1 : Value} {z : Int} (hz : z = 1) (h1 : Zr w v1 159 (z)) :
   Calls Tryz.prog 61 #[v1] w (fun e w'=>e = .returned (.bool true) ∧ Below w.heap.size w w'):=by
 obtain ⟨y1,z1,rfl,H1⟩:=h1.op
 go_enter Tryz.func61,Tryz.ntmps61
 repeat apply wp_seq
 refine mf fun K HK=>?_
 go_wp2
 refine HK.out _ _ (then_n ?_)
 refine mb (G:=fun W=>Code.wp _ _ _ _ W) ?_
 intro W_0 bb_0 K0
 have f1_0:=H1.out _ _ _ bb_0 K0
 clear K0
 refine ly (G:=fun a=>Code.wp _ _ _ a _) 7 ?_
 intro a_0 ha hN_0 hD_0
 have e1_0:=lu ha 1 w.heap.size
 repeat first | apply lw | apply lx
 refine lm bb_0 [kZ 159 (z),kZ 1 ((1 : Int)),kIs (.int .i64 (0)),lq,lq] [[],[],[0,1],[2],[3]] [3,4,5,6,2] [] [] ?_ ?_
 ·
   refine aj f1_0 e1_0 ?_; refine aa rfl rfl (aq [.int .i64 (1)] rfl rfl fun hC=>tz (z_of (1) 1 (by decide) (by decide) (by decide))) ?_; refine aa rfl rfl (ai rfl rfl rfl fun hC h1 h2=>ti (cmp_is (ord_eq hz) (z_cmp (rz h1) (rz h2) (by decide) (by decide)))) ?_; refine p10 ?_; refine p10 ?_; exact ae rfl
 intro W x a1 hC hall ha hN1 hD1 bb1
 have e1:=ln ha hall 2 4
 repeat first | apply lw | apply lx
 refine wp_ret ?_
 repeat (refine then_r ?_)
 exact bc (t:=2) rfl hD1 e1 ⟨rfl,bb1⟩
theorem isOne_z0 {w : World} {v1 : Value} {z : Int} (hz : 1 < z) (h1 : Zr w v1 159 (z)) :
   Calls Tryz.prog 61 #[v1] w (fun e w'=>e = .returned (.bool false) ∧ Below w.heap.size w w'):=by
 obtain ⟨y1,z1,rfl,H1⟩:=h1.op
 go_enter Tryz.func61,Tryz.ntmps61
 repeat apply wp_seq
 refine mf fun K HK=>?_
 go_wp2
 refine HK.out _ _ (then_n ?_)
 refine mb (G:=fun W=>Code.wp _ _ _ _ W) ?_
 intro W_0 bb_0 K0
 have f1_0:=H1.out _ _ _ bb_0 K0
 clear K0
 refine ly (G:=fun a=>Code.wp _ _ _ a _) 7 ?_
 intro a_0 ha hN_0 hD_0
 have e1_0:=lu ha 1 w.heap.size
 repeat first | apply lw | apply lx
 refine lm bb_0 [kZ 159 (z),kZ 1 ((1 : Int)),kIs (.int .i64 (1)),lr,lr] [[],[],[0,1],[2],[3]] [3,4,5,6,2] [] [] ?_ ?_
 ·
   refine aj f1_0 e1_0 ?_; refine aa rfl rfl (aq [.int .i64 (1)] rfl rfl fun hC=>tz (z_of (1) 1 (by decide) (by decide) (by decide))) ?_; refine aa rfl rfl (ai rfl rfl rfl fun hC h1 h2=>ti (cmp_is (ord_gt hz) (z_cmp (rz h1) (rz h2) (by decide) (by decide)))) ?_; refine p10 ?_; refine p10 ?_; exact ae rfl
 intro W x a1 hC hall ha hN1 hD1 bb1
 have e1:=ln ha hall 2 4
 repeat first | apply lw | apply lx
 refine wp_ret ?_
 repeat (refine then_r ?_)
 exact bc (t:=2) rfl hD1 e1 ⟨rfl,bb1⟩
theorem right_9 {w : World} {v1 : Value} {a : Rat} (h1 : Pr w v1 9 (a.num) ((a.den : Int))) :
   Calls Tryz.prog 16 #[v1] w (fun e w'=>e = .returned (.bool true) ∧ Below w.heap.size w w'):=by
 obtain ⟨y1,z1,y1',z1',rfl,H1⟩:=h1.op
 go_enter Tryz.func16,Tryz.ntmps16
 repeat apply wp_seq
 refine mf fun K HK=>?_
 go_wp2
 refine HK.out _ _ (then_n ?_)
 refine mb (G:=fun W=>Code.wp _ _ _ _ W) ?_
 intro W_0 bb_0 K0
 obtain ⟨f1_0,f1'_0⟩:=H1.out _ _ _ bb_0 K0
 clear K0
 refine ly (G:=fun a=>Code.wp _ _ _ a _) 32 ?_
 intro a_0 ha hN_0 hD_0
 have e1_0:=lu ha 1 w.heap.size
 repeat first | apply lw | apply lx
 refine lm bb_0 [lp w.heap.size 0,kZ 9 (a.num),lq,lr,lr,lp w.heap.size 2,kZ 9 ((a.den : Int)),lq,lr,lr] [[],[0],[1],[2],[3],[],[5],[6],[7],[4,8]] [3,4,5,6,7,8,9,10,11,12] [(4,false)] [] ?_ ?_
 ·
   refine p01 e1_0 ?_; refine ag f1_0 ?_; refine aa rfl rfl (ac rfl rfl fun hC h1=>ti (z_right (rr h1))) ?_; refine p10 ?_; refine p10 ?_; refine p01 e1_0 ?_; refine ag f1'_0 ?_; refine aa rfl rfl (ac rfl rfl fun hC h1=>ti (z_right (rr h1))) ?_; refine p10 ?_; refine p20 ?_; exact ae rfl
 intro W_1 x a_1 hC hall ha hN_1 hD_1 bb_1
 have e1_1:=ab ha e1_0
 have f1_1:=hC.at0 f1_0
 have f1'_1:=hC.at0 f1'_0
 have e12_1:=ln ha hall 12 9
 repeat first | apply lw | apply lx
 refine wp_cond_false e12_1 ?_
 repeat first | apply lw | apply lx
 refine lm bb_1 [lp w.heap.size 2,kZ 9 ((a.den : Int)),lr,lq,lq,lp w.heap.size 2,lp w.heap.size 2,lr,lq,lq,lq,lp w.heap.size 0,kZ 9 (a.num),lp w.heap.size 2,kZ 9 ((a.den : Int)),kZs [(9,(a.num)),(9,((a.den : Int)))],kZ 9 (((zgcd [(a.num),((a.den : Int))] : Nat) : Int)),lq,lq,lq] [[],[0],[1],[2],[3],[],[5],[6],[7],[4,8],[9],[],[11],[],[13],[12,14],[15],[16],[10,17],[18]] [13,14,15,16,17,18,19,20,21,22,23,24,25,26,27,28,29,30,31,2] [(4,true),(10,true)] [] ?_ ?_
 ·
   refine p01 e1_1 ?_; refine ag f1'_1 ?_; refine aa rfl rfl (ac rfl rfl fun hC h1=>ti (isNone_z (rr h1) (den_ne a))) ?_; refine p10 ?_; refine p10 ?_; refine p01 e1_1 ?_; refine p10 ?_; refine au (s:=false) f1'_1 (den_sign a) ?_; refine p10 ?_; refine p20 ?_; refine p10 ?_; refine p01 e1_1 ?_; refine ag f1_1 ?_; refine p01 e1_1 ?_; refine ag f1'_1 ?_; refine aa rfl rfl (ed asR asR rfl) ?_; refine aa rfl rfl (ac rfl rfl fun hC h1=>tz (l_gcd 9 (lz h1) (by kernel_rfl) (by decide) (by simp))) ?_; refine aa rfl rfl (ac rfl rfl fun hC h1=>ti (isOne_z1 (gcd_one a) ((rr h1).mono (by decide)))) ?_; refine p20 ?_; refine p10 ?_; exact ae rfl
 intro W x a1 hC hall ha hN1 hD1 bb1
 have e1:=ln ha hall 2 19
 repeat first | apply lw | apply lx
 refine wp_ret ?_
 repeat (refine then_r ?_)
 exact bc (t:=2) rfl hD1 e1 ⟨rfl,bb1⟩
theorem of_9 {w : World} {v1 : Value} {a : Rat} (h1 : Pr w v1 9 (a.num) ((a.den : Int))) :
   Calls Tryz.prog 43 #[v1] w (TellsP w 9 ((a.num)) (((a.den : Int)))):=by
 obtain ⟨y1,z1,y1',z1',rfl,H1⟩:=h1.op
 go_enter Tryz.func43,Tryz.ntmps43
 repeat apply wp_seq
 refine mf fun K HK=>?_
 go_wp2
 refine HK.out _ _ (then_n ?_)
 refine mc (G:=fun W=>Code.wp _ _ _ _ W) ?_
 intro W_0 bb_0 K0 K1
 obtain ⟨f1_0,f1'_0⟩:=H1.out _ _ _ bb_0 K0
 have R_0:=ge K1
 clear K0 K1
 refine ly (G:=fun a=>Code.wp _ _ _ a _) 17 ?_
 intro a_0 ha hN_0 hD_0
 have e1_0:=lu ha 1 w.heap.size
 have e2_0:=lu ha 2 (w.heap.size + 1)
 repeat first | apply lw | apply lx
 refine lm bb_0 [kP 9 (a.num) ((a.den : Int)),lq,lr] [[],[0],[1]] [3,4,5] [] [] ?_ ?_
 ·
   refine aa rfl rfl (aw f1_0 f1'_0 e1_0 rfl) ?_; refine aa rfl rfl (ac rfl rfl fun hC h1=>ti (right_9 (pm h1))) ?_; refine p10 ?_; exact ae rfl
 intro W_1 x a_1 hC hall ha hN_1 hD_1 bb_1
 have e1_1:=ab ha e1_0
 have e2_1:=ab ha e2_0
 have f1_1:=hC.at0 f1_0
 have f1'_1:=hC.at0 f1'_0
 have R_1:=hC.holds R_0
 have e5_1:=ln ha hall 5 2
 repeat first | apply lw | apply lx
 refine wp_cond_false e5_1 ?_
 repeat first | apply lw | apply lx
 refine mg bb_1 R_1 [lp w.heap.size 0,kZ 9 (a.num),kZs [(9,(a.num))],kZ 9 ((a.num)),lp w.heap.size 2,kZ 9 ((a.den : Int)),kZs [(9,((a.den : Int)))],kZ 9 (((a.den : Int))),kP 9 ((a.num)) (((a.den : Int))),kP 9 ((a.num)) (((a.den : Int))),kRes (w.heap.size + 1) 9 ((a.num)) (((a.den : Int)))] [[],[0],[1],[2],[],[4],[5],[6],[3,7],[8],[9]] [7,8,9,10,11,12,13,14,15,16,999] [] [] ?_ ?_
 ·
   refine p01 e1_1 ?_; refine ag (hG:=(by simp only [List.mem_singleton]; omega)) f1_1 ?_; refine aa rfl rfl (jq asR rfl) ?_; refine aa rfl rfl (ac rfl rfl fun hC h1=>tz (l_add1 9 (lz h1) (by decide) (by decide))) ?_; refine p01 e1_1 ?_; refine ag (hG:=(by simp only [List.mem_singleton]; omega)) f1'_1 ?_; refine aa rfl rfl (jq asR rfl) ?_; refine aa rfl rfl (ac rfl rfl fun hC h1=>tz (l_add1 9 (lz h1) (by decide) (by decide))) ?_; refine aa rfl rfl (cw (k:=9) rfl rfl rfl) ?_; refine aa rfl rfl (jr rfl rfl) ?_; refine aa rfl rfl (gi R_1 rfl e2_1 rfl rfl) ?_; exact ae rfl
 intro W x a1 hC hall ha hN1 hD1 bb1
 obtain ⟨cs,hg,hP⟩:=me hall 10
 have e1:=ab (t:=2) ha e2_1
 repeat first | apply lw | apply lx
 refine wp_ret ?_
 repeat (refine then_r ?_)
 exact ea (t:=2) rfl hD1 e1 hg hP fun v hv=>⟨v,rfl,hv,bb1⟩
theorem right_19 {w : World} {v1 : Value} {a : Rat} (h1 : Pr w v1 19 (a.num) ((a.den : Int))) :
   Calls Tryz.prog 16 #[v1] w (fun e w'=>e = .returned (.bool true) ∧ Below w.heap.size w w'):=by
 obtain ⟨y1,z1,y1',z1',rfl,H1⟩:=h1.op
 go_enter Tryz.func16,Tryz.ntmps16
 repeat apply wp_seq
 refine mf fun K HK=>?_
 go_wp2
 refine HK.out _ _ (then_n ?_)
 refine mb (G:=fun W=>Code.wp _ _ _ _ W) ?_
 intro W_0 bb_0 K0
 obtain ⟨f1_0,f1'_0⟩:=H1.out _ _ _ bb_0 K0
 clear K0
 refine ly (G:=fun a=>Code.wp _ _ _ a _) 32 ?_
 intro a_0 ha hN_0 hD_0
 have e1_0:=lu ha 1 w.heap.size
 repeat first | apply lw | apply lx
 refine lm bb_0 [lp w.heap.size 0,kZ 19 (a.num),lq,lr,lr,lp w.heap.size 2,kZ 19 ((a.den : Int)),lq,lr,lr] [[],[0],[1],[2],[3],[],[5],[6],[7],[4,8]] [3,4,5,6,7,8,9,10,11,12] [(4,false)] [] ?_ ?_
 ·
   refine p01 e1_0 ?_; refine ag f1_0 ?_; refine aa rfl rfl (ac rfl rfl fun hC h1=>ti (z_right (rr h1))) ?_; refine p10 ?_; refine p10 ?_; refine p01 e1_0 ?_; refine ag f1'_0 ?_; refine aa rfl rfl (ac rfl rfl fun hC h1=>ti (z_right (rr h1))) ?_; refine p10 ?_; refine p20 ?_; exact ae rfl
 intro W_1 x a_1 hC hall ha hN_1 hD_1 bb_1
 have e1_1:=ab ha e1_0
 have f1_1:=hC.at0 f1_0
 have f1'_1:=hC.at0 f1'_0
 have e12_1:=ln ha hall 12 9
 repeat first | apply lw | apply lx
 refine wp_cond_false e12_1 ?_
 repeat first | apply lw | apply lx
 refine lm bb_1 [lp w.heap.size 2,kZ 19 ((a.den : Int)),lr,lq,lq,lp w.heap.size 2,lp w.heap.size 2,lr,lq,lq,lq,lp w.heap.size 0,kZ 19 (a.num),lp w.heap.size 2,kZ 19 ((a.den : Int)),kZs [(19,(a.num)),(19,((a.den : Int)))],kZ 19 (((zgcd [(a.num),((a.den : Int))] : Nat) : Int)),lq,lq,lq] [[],[0],[1],[2],[3],[],[5],[6],[7],[4,8],[9],[],[11],[],[13],[12,14],[15],[16],[10,17],[18]] [13,14,15,16,17,18,19,20,21,22,23,24,25,26,27,28,29,30,31,2] [(4,true),(10,true)] [] ?_ ?_
 ·
   refine p01 e1_1 ?_; refine ag f1'_1 ?_; refine aa rfl rfl (ac rfl rfl fun hC h1=>ti (isNone_z (rr h1) (den_ne a))) ?_; refine p10 ?_; refine p10 ?_; refine p01 e1_1 ?_; refine p10 ?_; refine au (s:=false) f1'_1 (den_sign a) ?_; refine p10 ?_; refine p20 ?_; refine p10 ?_; refine p01 e1_1 ?_; refine ag f1_1 ?_; refine p01 e1_1 ?_; refine ag f1'_1 ?_; refine aa rfl rfl (ed asR asR rfl) ?_; refine aa rfl rfl (ac rfl rfl fun hC h1=>tz (l_gcd 19 (lz h1) (by kernel_rfl) (by decide) (by simp))) ?_; refine aa rfl rfl (ac rfl rfl fun hC h1=>ti (isOne_z1 (gcd_one a) ((rr h1).mono (by decide)))) ?_; refine p20 ?_; refine p10 ?_; exact ae rfl
 intro W x a1 hC hall ha hN1 hD1 bb1
 have e1:=ln ha hall 2 19
 repeat first | apply lw | apply lx
 refine wp_ret ?_
 repeat (refine then_r ?_)
 exact bc (t:=2) rfl hD1 e1 ⟨rfl,bb1⟩
theorem of_19 {w : World} {v1 : Value} {a : Rat} (h1 : Pr w v1 19 (a.num) ((a.den : Int))) :
   Calls Tryz.prog 43 #[v1] w (TellsP w 19 ((a.num)) (((a.den : Int)))):=by
 obtain ⟨y1,z1,y1',z1',rfl,H1⟩:=h1.op
 go_enter Tryz.func43,Tryz.ntmps43
 repeat apply wp_seq
 refine mf fun K HK=>?_
 go_wp2
 refine HK.out _ _ (then_n ?_)
 refine mc (G:=fun W=>Code.wp _ _ _ _ W) ?_
 intro W_0 bb_0 K0 K1
 obtain ⟨f1_0,f1'_0⟩:=H1.out _ _ _ bb_0 K0
 have R_0:=ge K1
 clear K0 K1
 refine ly (G:=fun a=>Code.wp _ _ _ a _) 17 ?_
 intro a_0 ha hN_0 hD_0
 have e1_0:=lu ha 1 w.heap.size
 have e2_0:=lu ha 2 (w.heap.size + 1)
 repeat first | apply lw | apply lx
 refine lm bb_0 [kP 19 (a.num) ((a.den : Int)),lq,lr] [[],[0],[1]] [3,4,5] [] [] ?_ ?_
 ·
   refine aa rfl rfl (aw f1_0 f1'_0 e1_0 rfl) ?_; refine aa rfl rfl (ac rfl rfl fun hC h1=>ti (right_19 (pm h1))) ?_; refine p10 ?_; exact ae rfl
 intro W_1 x a_1 hC hall ha hN_1 hD_1 bb_1
 have e1_1:=ab ha e1_0
 have e2_1:=ab ha e2_0
 have f1_1:=hC.at0 f1_0
 have f1'_1:=hC.at0 f1'_0
 have R_1:=hC.holds R_0
 have e5_1:=ln ha hall 5 2
 repeat first | apply lw | apply lx
 refine wp_cond_false e5_1 ?_
 repeat first | apply lw | apply lx
 refine mg bb_1 R_1 [lp w.heap.size 0,kZ 19 (a.num),kZs [(19,(a.num))],kZ 19 ((a.num)),lp w.heap.size 2,kZ 19 ((a.den : Int)),kZs [(19,((a.den : Int)))],kZ 19 (((a.den : Int))),kP 19 ((a.num)) (((a.den : Int))),kP 19 ((a.num)) (((a.den : Int))),kRes (w.heap.size + 1) 19 ((a.num)) (((a.den : Int)))] [[],[0],[1],[2],[],[4],[5],[6],[3,7],[8],[9]] [7,8,9,10,11,12,13,14,15,16,999] [] [] ?_ ?_
 ·
   refine p01 e1_1 ?_; refine ag (hG:=(by simp only [List.mem_singleton]; omega)) f1_1 ?_; refine aa rfl rfl (jq asR rfl) ?_; refine aa rfl rfl (ac rfl rfl fun hC h1=>tz (l_add1 19 (lz h1) (by decide) (by decide))) ?_; refine p01 e1_1 ?_; refine ag (hG:=(by simp only [List.mem_singleton]; omega)) f1'_1 ?_; refine aa rfl rfl (jq asR rfl) ?_; refine aa rfl rfl (ac rfl rfl fun hC h1=>tz (l_add1 19 (lz h1) (by decide) (by decide))) ?_; refine aa rfl rfl (cw (k:=19) rfl rfl rfl) ?_; refine aa rfl rfl (jr rfl rfl) ?_; refine aa rfl rfl (gi R_1 rfl e2_1 rfl rfl) ?_; exact ae rfl
 intro W x a1 hC hall ha hN1 hD1 bb1
 obtain ⟨cs,hg,hP⟩:=me hall 10
 have e1:=ab (t:=2) ha e2_1
 repeat first | apply lw | apply lx
 refine wp_ret ?_
 repeat (refine then_r ?_)
 exact ea (t:=2) rfl hD1 e1 hg hP fun v hv=>⟨v,rfl,hv,bb1⟩
theorem whole_9 {w : World} {v1 : Value} {z : Int} (h1 : Zr w v1 9 (z)) :
   Calls Tryz.prog 66 #[v1] w (TellsP w 9 (z) ((1 : Int))):=by
 obtain ⟨y1,z1,rfl,H1⟩:=h1.op
 go_enter Tryz.func66,Tryz.ntmps66
 repeat apply wp_seq
 refine mf fun K HK=>?_
 go_wp2
 refine HK.out _ _ (then_n ?_)
 refine mc (G:=fun W=>Code.wp _ _ _ _ W) ?_
 intro W_0 bb_0 K0 K1
 have f1_0:=H1.out _ _ _ bb_0 K0
 have R_0:=ge K1
 clear K0 K1
 refine ly (G:=fun a=>Code.wp _ _ _ a _) 7 ?_
 intro a_0 ha hN_0 hD_0
 have e1_0:=lu ha 1 w.heap.size
 have e2_0:=lu ha 2 (w.heap.size + 1)
 repeat first | apply lw | apply lx
 refine mg bb_0 R_0 [kZ 9 (z),kZ 1 ((1 : Int)),kP 9 (z) ((1 : Int)),kP 9 (z) ((1 : Int)),kRes (w.heap.size + 1) 9 (z) ((1 : Int))] [[],[],[0,1],[2],[3]] [3,4,5,6,999] [] [] ?_ ?_
 ·
   refine aj (hG:=(by simp only [List.mem_singleton]; omega)) f1_0 e1_0 ?_; refine aa rfl rfl (aq [.int .i64 (1)] rfl rfl fun hC=>tz (z_of (1) 1 (by decide) (by decide) (by decide))) ?_; refine aa rfl rfl (cw (k:=9) rfl rfl rfl) ?_; refine aa rfl rfl (jr rfl rfl) ?_; refine aa rfl rfl (gi R_0 rfl e2_0 rfl rfl) ?_; exact ae rfl
 intro W x a1 hC hall ha hN1 hD1 bb1
 obtain ⟨cs,hg,hP⟩:=me hall 4
 have e1:=ab (t:=2) ha e2_0
 repeat first | apply lw | apply lx
 refine wp_ret ?_
 repeat (refine then_r ?_)
 exact ea (t:=2) rfl hD1 e1 hg hP fun v hv=>⟨v,rfl,hv,bb1⟩
theorem zr_none {w : World} {v : Value} (h : v = .agg #[.bool false,.slice none 0 0]) : Zr w v 9 0:=⟨none,0,0,h,rr_nil _,by simp⟩
theorem z_sameInt {w : World} {v1 v2 : Value} {j k : Nat} {x : Int} (h1 : Zr w v1 j x) (h2 : Zr w v2 k x) : Calls Tryz.prog 26 #[v1,v2] w fun e w'=>e = .returned (.bool true) ∧ Below w.heap.size w w':=by
 obtain ⟨A1,l1,c1,rfl,r1,e1⟩:=h1
 obtain ⟨A2,l2,c2,rfl,r2,e2⟩:=h2
 exact sameInt_yes r1 r2
theorem jw {w : World}    :
   Calls Tryz.prog 45 #[] w (TellsP w 9 (0) (1)):=by
 go_enter Tryz.func45,Tryz.ntmps45
 repeat apply wp_seq
 refine mf fun K HK=>?_
 go_wp2
 refine HK.out _ _ (then_n ?_)
 refine mb (G:=fun W=>Code.wp _ _ _ _ W) ?_
 intro W_0 bb_0 K0
 have R_0:=ge K0
 clear K0
 refine ly (G:=fun a=>Code.wp _ _ _ a _) 3 ?_
 intro a_0 ha hN_0 hD_0
 have e0_0:=lu ha 0 w.heap.size
 repeat first | apply lw | apply lx
 refine mg bb_0 R_0 [kIs (.agg #[.bool false,.slice none 0 0]),kP 9 (0) (1),kRes (w.heap.size) 9 (0) (1)] [[],[0],[1]] [1,2,999] [] [] ?_ ?_
 ·
   refine p00 ?_; refine aa rfl rfl (ac rfl rfl fun hC h1=>tp (whole_9 (zr_none h1))) ?_; refine aa rfl rfl (gi R_0 rfl e0_0 rfl rfl) ?_; exact ae rfl
 intro W x a1 hC hall ha hN1 hD1 bb1
 obtain ⟨cs,hg,hP⟩:=me hall 2
 have e1:=ab (t:=0) ha e0_0
 repeat first | apply lw | apply lx
 refine wp_ret ?_
 repeat (refine then_r ?_)
 exact ea (t:=0) rfl hD1 e1 hg hP fun v hv=>⟨v,rfl,hv,bb1⟩
theorem Whole_9 {w : World} {v1 : Value} {z : Int} (h1 : Zr w v1 9 (z)) :
   Calls Tryz.prog 22 #[v1] w (TellsP w 9 ((z)) (1)):=by
 obtain ⟨y1,z1,rfl,H1⟩:=h1.op
 go_enter Tryz.func22,Tryz.ntmps22
 repeat apply wp_seq
 refine mf fun K HK=>?_
 go_wp2
 refine HK.out _ _ (then_n ?_)
 refine mc (G:=fun W=>Code.wp _ _ _ _ W) ?_
 intro W_0 bb_0 K0 K1
 have f1_0:=H1.out _ _ _ bb_0 K0
 have R_0:=ge K1
 clear K0 K1
 refine ly (G:=fun a=>Code.wp _ _ _ a _) 13 ?_
 intro a_0 ha hN_0 hD_0
 have e1_0:=lu ha 1 w.heap.size
 have e2_0:=lu ha 2 (w.heap.size + 1)
 repeat first | apply lw | apply lx
 refine lm bb_0 [kZ 9 (z),lq,lr] [[],[0],[1]] [3,4,5] [] [] ?_ ?_
 ·
   refine aj f1_0 e1_0 ?_; refine aa rfl rfl (ac rfl rfl fun hC h1=>ti (z_right (rr h1))) ?_; refine p10 ?_; exact ae rfl
 intro W_1 x a_1 hC hall ha hN_1 hD_1 bb_1
 have e1_1:=ab ha e1_0
 have e2_1:=ab ha e2_0
 have f1_1:=hC.at0 f1_0
 have R_1:=hC.holds R_0
 have e5_1:=ln ha hall 5 2
 repeat first | apply lw | apply lx
 refine wp_cond_false e5_1 ?_
 repeat first | apply lw | apply lx
 refine mg bb_1 R_1 [kZ 9 (z),kZs [(9,(z))],kZ 9 ((z)),kP 9 ((z)) (1),kP 9 ((z)) (1),kRes (w.heap.size + 1) 9 ((z)) (1)] [[],[0],[1],[2],[3],[4]] [8,9,10,11,12,999] [] [] ?_ ?_
 ·
   refine aj (hG:=(by simp only [List.mem_singleton]; omega)) f1_1 e1_1 ?_; refine aa rfl rfl (jq asR rfl) ?_; refine aa rfl rfl (ac rfl rfl fun hC h1=>tz (l_add1 9 (lz h1) (by decide) (by decide))) ?_; refine aa rfl rfl (ac rfl rfl fun hC h1=>tp (whole_9 ((rr h1).mono (by decide)))) ?_; refine aa rfl rfl (dj rfl rfl) ?_; refine aa rfl rfl (bd R_1 rfl e2_1 rfl rfl) ?_; exact ae rfl
 intro W x a1 hC hall ha hN1 hD1 bb1
 obtain ⟨cs,hg,hP⟩:=me hall 5
 have e1:=ab (t:=2) ha e2_1
 repeat first | apply lw | apply lx
 refine wp_ret ?_
 repeat (refine then_r ?_)
 exact dl (t:=2) rfl hD1 e1 hg hP fun v hv=>⟨v,rfl,hv,bb1⟩
theorem same_19 {w : World} {v1 v2 : Value} {x y : Int} (h1 : Pr w v1 19 (x) (y)) (h2 : Pr w v2 19 (x) (y)) :
   Calls Tryz.prog 59 #[v1,v2] w (fun e w'=>e = .returned (.bool true) ∧ Below w.heap.size w w'):=by
 obtain ⟨y1,z1,y1',z1',rfl,H1⟩:=h1.op
 obtain ⟨y2,z2,y2',z2',rfl,H2⟩:=h2.op
 go_enter Tryz.func59,Tryz.ntmps59
 repeat apply wp_seq
 refine mf fun K HK=>?_
 go_wp2
 refine HK.out _ _ (then_n ?_)
 refine mc (G:=fun W=>Code.wp _ _ _ _ W) ?_
 intro W_0 bb_0 K0 K1
 obtain ⟨f1_0,f1'_0⟩:=H1.out _ _ _ bb_0 K0
 obtain ⟨f2_0,f2'_0⟩:=H2.out _ _ _ bb_0 K1
 clear K0 K1
 refine ly (G:=fun a=>Code.wp _ _ _ a _) 17 ?_
 intro a_0 ha hN_0 hD_0
 have e2_0:=lu ha 2 w.heap.size
 have e3_0:=lu ha 3 (w.heap.size + 1)
 repeat first | apply lw | apply lx
 refine lm bb_0 [lp w.heap.size 0,kZ 19 (x),lp (w.heap.size + 1) 0,kZ 19 (x),lq,lq,lp w.heap.size 2,kZ 19 (y),lp (w.heap.size + 1) 2,kZ 19 (y),lq,lq,lq] [[],[0],[],[2],[1,3],[4],[],[6],[],[8],[7,9],[5,10],[11]] [5,6,7,8,9,10,11,12,13,14,15,16,4] [(5,true)] [] ?_ ?_
 ·
   refine p01 e2_0 ?_; refine ag f1_0 ?_; refine p01 e3_0 ?_; refine ag f2_0 ?_; refine aa rfl rfl (ai rfl rfl rfl fun hC h1 h2=>ti (z_sameInt (rr h1) (rr h2))) ?_; refine p10 ?_; refine p01 e2_0 ?_; refine ag f1'_0 ?_; refine p01 e3_0 ?_; refine ag f2'_0 ?_; refine aa rfl rfl (ai rfl rfl rfl fun hC h1 h2=>ti (z_sameInt (rr h1) (rr h2))) ?_; refine p20 ?_; refine p10 ?_; exact ae rfl
 intro W x a1 hC hall ha hN1 hD1 bb1
 have e1:=ln ha hall 4 12
 repeat first | apply lw | apply lx
 refine wp_ret ?_
 repeat (refine then_r ?_)
 exact bc (t:=4) rfl hD1 e1 ⟨rfl,bb1⟩
theorem lawSame_19 {w : World} {v1 v2 : Value} {x y : Int} (h1 : Pr w v1 19 (x) (y)) (h2 : Pr w v2 19 (x) (y)) :
   Calls Tryz.prog 13 #[v1,v2] w (fun e w'=>e = .returned (.bool true) ∧ Below w.heap.size w w'):=by
 obtain ⟨y1,z1,y1',z1',rfl,H1⟩:=h1.op
 obtain ⟨y2,z2,y2',z2',rfl,H2⟩:=h2.op
 go_enter Tryz.func13,Tryz.ntmps13
 repeat apply wp_seq
 refine mf fun K HK=>?_
 go_wp2
 refine HK.out _ _ (then_n ?_)
 refine mc (G:=fun W=>Code.wp _ _ _ _ W) ?_
 intro W_0 bb_0 K0 K1
 obtain ⟨f1_0,f1'_0⟩:=H1.out _ _ _ bb_0 K0
 obtain ⟨f2_0,f2'_0⟩:=H2.out _ _ _ bb_0 K1
 clear K0 K1
 refine ly (G:=fun a=>Code.wp _ _ _ a _) 8 ?_
 intro a_0 ha hN_0 hD_0
 have e2_0:=lu ha 2 w.heap.size
 have e3_0:=lu ha 3 (w.heap.size + 1)
 repeat first | apply lw | apply lx
 refine lm bb_0 [kP 19 (x) (y),kP 19 (x) (y),lq,lq] [[],[],[0,1],[2]] [5,6,7,4] [] [] ?_ ?_
 ·
   refine aa rfl rfl (aw f1_0 f1'_0 e2_0 rfl) ?_; refine aa rfl rfl (aw f2_0 f2'_0 e3_0 rfl) ?_; refine aa rfl rfl (ai rfl rfl rfl fun hC h1 h2=>ti (same_19 (pm h1) (pm h2))) ?_; refine p10 ?_; exact ae rfl
 intro W x a1 hC hall ha hN1 hD1 bb1
 have e1:=ln ha hall 4 3
 repeat first | apply lw | apply lx
 refine wp_ret ?_
 repeat (refine then_r ?_)
 exact bc (t:=4) rfl hD1 e1 ⟨rfl,bb1⟩
section
variable {C : World → Prop} {S0 : Nat} {ks : List PK} {a0 : Act} {i : Nat} {N : Nat} {P : Program} {T : TypeId} {pos : String} {af : Array Edge} {gu : Option (Nat × Bool)} {ats : Array TypeId}
end
theorem run_allocP {w : World} : (Instr.alloc 26 true (.tuple #[])).run Tryz.prog w = .ok (.pointer (some ⟨w.heap.size,0,none⟩)) (w.alloc (.cells #[.bool false,.slice none 0 0,.bool false,.slice none 0 0] 26)):=by go_simp
theorem run_allocF {w : World} : (Instr.alloc 58 true (.tuple #[])).run Tryz.prog w = .ok (.pointer (some ⟨w.heap.size,0,none⟩)) (w.alloc (.cells #[.bool false,.slice none 0 0,.bool false,.slice none 0 0] 58)):=by go_simp
theorem run_plist2 {w : World} {b1 b2 b3 b4 : Bool} {A1 A2 A3 A4 : Option Addr} {l1 c1 l2 c2 l3 c3 l4 c4 : Nat} : (Instr.buildSlice 42 2 #[(0,.agg #[.bool b1,.slice A1 l1 c1,.bool b2,.slice A2 l2 c2]),(1,.agg #[.bool b3,.slice A3 l3 c3,.bool b4,.slice A4 l4 c4])]).run Tryz.prog w = .ok (.slice (some ⟨w.heap.size,0,none⟩) 2 2) (w.alloc (.cells #[.bool b1,.slice A1 l1 c1,.bool b2,.slice A2 l2 c2,.bool b3,.slice A3 l3 c3,.bool b4,.slice A4 l4 c4] 26)):=by go_simp
theorem run_loadPI {w : World} {g o : Nat} {u v u' v' : Value} (h0 : w.cell? ⟨g,o,none⟩ = some u) (h1 : w.cell? ⟨g,o + 1,none⟩ = some v) (h2 : w.cell? ⟨g,o + 2,none⟩ = some u') (h3 : w.cell? ⟨g,o + 3,none⟩ = some v') : (Instr.loadAt 26 (.pointer (some ⟨g,o,none⟩))).run Tryz.prog w = .ok (.agg #[u,v,u',v']) w:=by go_simp
def AtP (W : World) (g o k : Nat) (x y : Int) : Prop:=∃ A l c A' l' c',W.cell? ⟨g,o,none⟩ = some (.bool (decide (x < 0))) ∧ W.cell? ⟨g,o + 1,none⟩ = some (.slice A l c) ∧ W.cell? ⟨g,o + 2,none⟩ = some (.bool (decide (y < 0))) ∧ W.cell? ⟨g,o + 3,none⟩ = some (.slice A' l' c') ∧ Pr W (.agg #[.bool (decide (x < 0)),.slice A l c,.bool (decide (y < 0)),.slice A' l' c']) k x y
theorem AtP.below {W w' : World} {g o k : Nat} {x y : Int} (h : AtP W g o k x y) (hb : Below W.heap.size W w') : AtP w' g o k x y:=by
 obtain ⟨A,l,c,A',l',c',h1,h2,h3,h4,h5⟩:=h
 exact ⟨A,l,c,A',l',c',(hb.cell (cell_lt h1)).trans h1,(hb.cell (cell_lt h2)).trans h2,(hb.cell (cell_lt h3)).trans h3,(hb.cell (cell_lt h4)).trans h4,h5.below hb⟩
theorem AtP.stored {W w' : World} {g j o k : Nat} {x y : Int} (h : AtP W g o k x y) (hs : Stored j W w') (hne : g ≠ j) : AtP w' g o k x y:=by
 obtain ⟨A,l,c,A',l',c',h1,h2,h3,h4,h5⟩:=h
 exact ⟨A,l,c,A',l',c',(World.cell?_of_block (hs.other _ hne)).trans h1,(World.cell?_of_block (hs.other _ hne)).trans h2,(World.cell?_of_block (hs.other _ hne)).trans h3,(World.cell?_of_block (hs.other _ hne)).trans h4,h5.stored hs⟩
def PRs (W : World) (g : Nat) (l : List (Nat × Int × Int)) : Prop:=∀ j q,l[j]? = some q → AtP W g (j * 4) q.1 q.2.1 q.2.2
theorem PRs.below {W w' : World} {g : Nat} {l : List (Nat × Int × Int)} (h : PRs W g l) (hb : Below W.heap.size W w') : PRs w' g l:=fun j q hj=>(h j q hj).below hb
def kPutP (e k : Nat) (x y : Int) : PK:=.put e (isP k x y) (fun _ _ _ ⟨A,l,c,A',l',c',e,h⟩ hb=>⟨A,l,c,A',l',c',e,h.below hb⟩) (fun _ _ _ _ ⟨A,l,c,A',l',c',e,h⟩ hs=>⟨A,l,c,A',l',c',e,h.stored hs⟩)
theorem Pr.parts {W : World} {v : Value} {k : Nat} {x y : Int} (h : Pr W v k x y) : ∃ A l c A' l' c',v = .agg #[.bool (decide (x < 0)),.slice A l c,.bool (decide (y < 0)),.slice A' l' c'] ∧ Pr W (.agg #[.bool (decide (x < 0)),.slice A l c,.bool (decide (y < 0)),.slice A' l' c']) k x y:=by
 obtain ⟨A,l,c,A',l',c',rfl,h⟩:=h
 exact ⟨A,l,c,A',l',c',rfl,A,l,c,A',l',c',rfl,h⟩
theorem Pr.two {W : World} {A A' : Option Addr} {l c l' c' k : Nat} {x y : Int} (h : Pr W (.agg #[.bool (decide (x < 0)),.slice A l c,.bool (decide (y < 0)),.slice A' l' c']) k x y) : Zr W (.agg #[.bool (decide (x < 0)),.slice A l c]) k x ∧ Zr W (.agg #[.bool (decide (y < 0)),.slice A' l' c']) k y:=by
 obtain ⟨B,m,d,B',m',d',e,h1,h2⟩:=h
 injection e with e; injection e with e
 injection e with _ e; injection e with e1 e; injection e with _ e; injection e with e2 _
 injection e1 with a b c; subst a; subst b; subst c
 injection e2 with a b c; subst a; subst b; subst c
 exact ⟨⟨_,_,_,rfl,h1⟩,⟨_,_,_,rfl,h2⟩⟩
theorem AtP.two {W : World} {g k : Nat} {x y : Int} (h : AtP W g 0 k x y) : AtR W g 0 k x ∧ AtR W g 2 k y:=by
 obtain ⟨A,l,c,A',l',c',h1,h2,h3,h4,h5⟩:=h
 exact ⟨⟨A,l,c,h1,h2,h5.two.1⟩,⟨A',l',c',h3,h4,h5.two.2⟩⟩
theorem isP_at {W : World} {g k : Nat} {x y : Int} {cs : Array Value} (hg : Holds_ W g cs) (h : isP k x y cs W) : AtP W g 0 k x y:=by
 obtain ⟨A,l,c,A',l',c',rfl,h⟩:=h
 obtain ⟨m1,m2,m3,m4,_,_,_,_⟩:=hg.four
 exact ⟨A,l,c,A',l',c',m1,m2,m3,m4,h⟩
theorem di {S0 : Nat} {x : Nat → Value} {v : Value} {w : World} {e k : Nat} {z1 z2 : Int} (h : (kPutP e k z1 z2).sem S0 x v w) : ∃ g,x e = .pointer (some ⟨g,0,none⟩) ∧ S0 ≤ g ∧ AtR w g 0 k z1 ∧ AtR w g 2 k z2:=by
 obtain ⟨g,cs,h1,hg,h2,h3⟩:=h
 exact ⟨g,h1,hg,(isP_at h2 h3).two⟩
theorem dt {S0 : Nat} {x : Nat → Value} {v : Value} {w : World} {g k : Nat} {z1 z2 : Int} (h : (kRes g k z1 z2).sem S0 x v w) : AtR w g 0 k z1 ∧ AtR w g 2 k z2:=by
 obtain ⟨cs,h2,h3⟩:=h
 exact (isP_at h2 h3).two
theorem holds_new4 (w : World) {a b c d : Value} (h1 : noDig a) (h2 : noDig b) (h3 : noDig c) (h4 : noDig d) (T : TypeId) : Holds_ (w.alloc (.cells #[a,b,c,d] T)) w.heap.size #[a,b,c,d] :=
 ⟨⟨T,heap_alloc_new _ _⟩,fun v hv=>by simp at hv; rcases hv with rfl | rfl | rfl | rfl <;> assumption⟩
section
variable {G : List Nat} {S0 B : Nat} {ks : List PK} {a0 : Act} {i : Nat} {N : Nat} {W0 : World} {T : TypeId} {pos : String} {af : Array Edge} {gu : Option (Nat × Bool)}
theorem bp {d : Nat}    (hi : at_ ks i = .fresh 4) (hN : a0.tmps.size = N:=by assumption) (hd : decide (d < N) = true:=by kernel_rfl) (hS : S0 ≤ W0.heap.size:=by exact Nat.le_refl _) :
   PkStep Tryz.prog (Reg B W0 G) S0 ks a0 i { dst:=some d,op:=.alloc 26,type:=T,pos:=pos,after:=af,guard:=gu } []:=by
 intro w x hC K hK
 have hsz:=hC.below.size
 refine cb (v:=.pointer (some ⟨w.heap.size,0,none⟩)) rfl hN hd (ex_alloc run_allocP) (hK _ _ ?_ ?_)
 · rw [hi]; exact ⟨(Below.refl _ _).alloc (Nat.le_refl _) _,_,rfl,Nat.le_refl _⟩
 · rw [hi]; exact ⟨_,_,rfl,Nat.le_trans hS hsz,holds_new4 _ (noDig_bool _) (noDig_slice _ _ _) (noDig_bool _) (noDig_slice _ _ _) _,rfl⟩
theorem st_allocF {d : Nat}    (hi : at_ ks i = .fresh 4) (hN : a0.tmps.size = N:=by assumption) (hd : decide (d < N) = true:=by kernel_rfl) (hS : S0 ≤ W0.heap.size:=by exact Nat.le_refl _) :
   PkStep Tryz.prog (Reg B W0 G) S0 ks a0 i { dst:=some d,op:=.alloc 58,type:=T,pos:=pos,after:=af,guard:=gu } []:=by
 intro w x hC K hK
 have hsz:=hC.below.size
 refine cb (v:=.pointer (some ⟨w.heap.size,0,none⟩)) rfl hN hd (ex_alloc run_allocF) (hK _ _ ?_ ?_)
 · rw [hi]; exact ⟨(Below.refl _ _).alloc (Nat.le_refl _) _,_,rfl,Nat.le_refl _⟩
 · rw [hi]; exact ⟨_,_,rfl,Nat.le_trans hS hsz,holds_new4 _ (noDig_bool _) (noDig_slice _ _ _) (noDig_bool _) (noDig_slice _ _ _) _,rfl⟩
theorem du {t u e j k : Nat} {z1 z2 : Int}     (he : at_ ks e = .fresh 4) (hj : at_ ks j = kP k z1 z2) (hi : at_ ks i = kPutP e k z1 z2) (hN : a0.tmps.size = N:=by assumption) (ht : decide (t < N) = true:=by kernel_rfl) (hu : decide (u < N) = true:=by kernel_rfl) (htu : decide (t = u) = false:=by kernel_rfl) :
   PkStep Tryz.prog (Reg B W0 G) S0 ks a0 i { dst:=none,op:=.store 26 (.tmp t) (.tmp u),type:=T,pos:=pos,after:=af,guard:=gu } [(e,some t),(j,some u)]:=by
 intro w x hC
 refine ay _ fun hdeps K hK=>?_
 have h1:=hdeps (e,some t) (by simp)
 have h2:=hdeps (j,some u) (by simp)
 have htu' : t ≠ u:=of_decide_eq_false htu
 have e1 : (putE x a0 [(e,some t),(j,some u)]).eval (.tmp t) = x e:=putE_new _ _ (by rw [hN]; exact of_decide_eq_true ht) (by simp [slotAt,Ne.symm htu'])
 have e2 : (putE x a0 [(e,some t),(j,some u)]).eval (.tmp u) = x j:=putE_new _ _ (by rw [hN]; exact of_decide_eq_true hu) (by simp [slotAt])
 simp only [he,hj] at h1 h2
 obtain ⟨g,cs,hx,hg0,hg,hsz⟩:=h1
 obtain ⟨a,b,c0,d0,rfl⟩:=fl hsz
 obtain ⟨A,l,c,A',l',c',hy,hr⟩:=(show Pr w (x j) k z1 z2 from h2).parts
 obtain ⟨m1,m2,m3,m4,f1,f2,f3,f4⟩:=hg.four
 have hst:=dr hg (noDig_bool (decide (z1 < 0))) (noDig_slice A l c) (noDig_bool (decide (z2 < 0))) (noDig_slice A' l' c')
 refine jp (w':=put4 w g (.bool (decide (z1 < 0))) (.slice A l c) (.bool (decide (z2 < 0))) (.slice A' l' c')) rfl ?_ (hK _ _ ?_ ?_)
 · exact fu (e1.trans hx) (e2.trans hy) (run_storeP m1 m2 m3 m4 f1 f2 f3 f4)
 · rw [hi]; exact ⟨g,hx,hg0,hst⟩
 · rw [hi]; exact ⟨g,_,hx,hg0,dz hg (noDig_bool _) (noDig_slice _ _ _) (noDig_bool _) (noDig_slice _ _ _),A,l,c,A',l',c',rfl,hr.stored hst⟩
theorem st_putF {t u e j k : Nat} {z1 z2 : Int}     (he : at_ ks e = .fresh 4) (hj : at_ ks j = kP k z1 z2) (hi : at_ ks i = kPutP e k z1 z2) (hN : a0.tmps.size = N:=by assumption) (ht : decide (t < N) = true:=by kernel_rfl) (hu : decide (u < N) = true:=by kernel_rfl) (htu : decide (t = u) = false:=by kernel_rfl) :
   PkStep Tryz.prog (Reg B W0 G) S0 ks a0 i { dst:=none,op:=.store 58 (.tmp t) (.tmp u),type:=T,pos:=pos,after:=af,guard:=gu } [(e,some t),(j,some u)]:=by
 intro w x hC
 refine ay _ fun hdeps K hK=>?_
 have h1:=hdeps (e,some t) (by simp)
 have h2:=hdeps (j,some u) (by simp)
 have htu' : t ≠ u:=of_decide_eq_false htu
 have e1 : (putE x a0 [(e,some t),(j,some u)]).eval (.tmp t) = x e:=putE_new _ _ (by rw [hN]; exact of_decide_eq_true ht) (by simp [slotAt,Ne.symm htu'])
 have e2 : (putE x a0 [(e,some t),(j,some u)]).eval (.tmp u) = x j:=putE_new _ _ (by rw [hN]; exact of_decide_eq_true hu) (by simp [slotAt])
 simp only [he,hj] at h1 h2
 obtain ⟨g,cs,hx,hg0,hg,hsz⟩:=h1
 obtain ⟨a,b,c0,d0,rfl⟩:=fl hsz
 obtain ⟨A,l,c,A',l',c',hy,hr⟩:=(show Pr w (x j) k z1 z2 from h2).parts
 obtain ⟨m1,m2,m3,m4,f1,f2,f3,f4⟩:=hg.four
 have hst:=dr hg (noDig_bool (decide (z1 < 0))) (noDig_slice A l c) (noDig_bool (decide (z2 < 0))) (noDig_slice A' l' c')
 refine jp (w':=put4 w g (.bool (decide (z1 < 0))) (.slice A l c) (.bool (decide (z2 < 0))) (.slice A' l' c')) rfl ?_ (hK _ _ ?_ ?_)
 · exact fu (e1.trans hx) (e2.trans hy) (run_storeF m1 m2 m3 m4 f1 f2 f3 f4)
 · rw [hi]; exact ⟨g,hx,hg0,hst⟩
 · rw [hi]; exact ⟨g,_,hx,hg0,dz hg (noDig_bool _) (noDig_slice _ _ _) (noDig_bool _) (noDig_slice _ _ _),A,l,c,A',l',c',rfl,hr.stored hst⟩
end
def kResZ (g k : Nat) (z : Int) : PK:=.cell g (isZ k z) (fun _ _ _ ⟨A,l,c,h1,h2⟩ hb=>⟨A,l,c,h1,h2.below hb⟩) (fun _ _ _ _ ⟨A,l,c,h1,h2⟩ hs=>⟨A,l,c,h1,h2.stored hs⟩)
theorem Holds_.two' {w : World} {g : Nat} {a b : Value} (h : Holds_ w g #[a,b]) : w.cell? ⟨g,0,none⟩ = some a ∧ w.cell? ⟨g,1,none⟩ = some b ∧ w.frozen? ⟨g,0,none⟩ = false ∧ w.frozen? ⟨g,1,none⟩ = false:=h.two
theorem LocR.atR {W : World} {g k : Nat} {z : Int} (h : LocR W g k z) : AtR W g 0 k z:=by
 obtain ⟨A,l,c,h1,h2⟩:=h
 obtain ⟨m1,m2,_,_⟩:=h1.two
 exact ⟨A,l,c,m1,m2,h2⟩
theorem bh {S0 : Nat} {x : Nat → Value} {v : Value} {w : World} {e k : Nat} {z : Int} (h : (kPutZ e k z).sem S0 x v w) : ∃ g,x e = .pointer (some ⟨g,0,none⟩) ∧ S0 ≤ g ∧ LocR w g k z:=by
 obtain ⟨g,cs,h1,hg,h2,A,l,c,rfl,h3⟩:=h
 exact ⟨g,h1,hg,A,l,c,h2,h3⟩
section
variable {G : List Nat} {S0 B : Nat} {ks : List PK} {a0 : Act} {i : Nat} {N : Nat} {W0 : World} {T : TypeId} {pos : String} {af : Array Edge} {gu : Option (Nat × Bool)}
theorem ci {t u j g k : Nat} {z : Int} {a b : Value} (h0 : Holds_ W0 g #[a,b])  (hp : a0.eval (.tmp t) = .pointer (some ⟨g,0,none⟩))    (hj : at_ ks j = kZ k z) (hi : at_ ks i = kResZ g k z) (hG : g ∈ G:=by simp) (hN : a0.tmps.size = N:=by assumption) (hu : decide (u < N) = true:=by kernel_rfl) (htu : decide (t = u) = false:=by kernel_rfl) :
   PkStep Tryz.prog (Reg B W0 G) S0 ks a0 i { dst:=none,op:=.store 24 (.tmp t) (.tmp u),type:=T,pos:=pos,after:=af,guard:=gu } [(j,some u)]:=by
 intro w x hC
 refine ay _ fun hdeps K hK=>?_
 have g1:=hdeps (j,some u) (by simp)
 rw [hj] at g1
 obtain ⟨A,l,c,hx,hr,hlt⟩:=(show Zr w (x j) k z from g1)
 have htu' : t ≠ u:=of_decide_eq_false htu
 have e1 : (putE x a0 [(j,some u)]).eval (.tmp t) = .pointer (some ⟨g,0,none⟩):=(putE_old _ _ (by simp [slotAt,Ne.symm htu'])).trans hp
 have e2 : (putE x a0 [(j,some u)]).eval (.tmp u) = x j:=putE_new _ _ (by rw [hN]; exact of_decide_eq_true hu) (by simp [slotAt])
 obtain ⟨u0,v0,hg⟩:=hC.two hG h0
 obtain ⟨m1,m2,m3,m4⟩:=hg.two
 have hst:=stored_put2 hg (noDig_bool (decide (z < 0))) (noDig_slice A l c)
 refine jp (w':=put2 w g (.bool (decide (z < 0))) (.slice A l c)) rfl ?_ (hK _ _ ?_ ?_)
 · exact fu e1 (e2.trans hx) (run_store2 m3 m4 m1 m2)
 · rw [hi]; exact hst
 · rw [hi]; exact ⟨_,cg hg (noDig_bool _) (noDig_slice _ _ _),A,l,c,rfl,A,l,c,rfl,hst.rr hr,hlt⟩
end
theorem co {fn : Func} {R : Ending → World → Prop} {a : Act} {w : World} {t g k : Nat} {z : Int} {cs : Array Value} (hres : fn.results = #[.cell t 24 ]) (hd : a.defers = []) (hp : a.eval (.tmp t) = .pointer (some ⟨g,0,none⟩)) (hg : Holds_ w g cs) (hP : isZ k z cs w) (hR : ∀ v,Zr w v k z → R (.returned v) w) : bodyPost Tryz.prog fn R .ret a w:=by
 obtain ⟨A,l,c,rfl,h⟩:=hP
 obtain ⟨m1,m2,m3,m4⟩:=hg.two'
 refine bodyPost_ret (v:=.agg #[.bool (decide (z < 0)),.slice A l c]) ?_ hd (hR _ h)
 have hp' : a.tmps[t]?.getD undef = .pointer (some ⟨g,0,none⟩):=by
   rw [← Array.getD_eq_getD_getElem?]; exact hp
 simp [results,hres,go_sem,hp',m1,m2]
theorem bi {fn : Func} {R : Ending → World → Prop} {a : Act} {w : World} {t u g k : Nat} {x y : Int} {cs : Array Value} {V : Value} (hres : fn.results = #[.cell t 26,.tmp u]) (hd : a.defers = []) (hp : a.eval (.tmp t) = .pointer (some ⟨g,0,none⟩)) (hu : a.eval (.tmp u) = V) (hg : Holds_ w g cs) (hP : isP k x y cs w) (hR : ∀ v,Pr w v k x y → R (.returned (.tuple #[v,V])) w) : bodyPost Tryz.prog fn R .ret a w:=by
 obtain ⟨A,l,c,A',l',c',rfl,h⟩:=hP
 obtain ⟨m1,m2,m3,m4,_,_,_,_⟩:=hg.four
 refine bodyPost_ret (v:=.tuple #[.agg #[.bool (decide (x < 0)),.slice A l c,.bool (decide (y < 0)),.slice A' l' c'],V]) ?_ hd (hR _ h)
 have hp' : a.tmps[t]?.getD undef = .pointer (some ⟨g,0,none⟩):=by
   rw [← Array.getD_eq_getD_getElem?]; exact hp
 have hu' : a.tmps[u]?.getD undef = V:=by
   rw [← Array.getD_eq_getD_getElem?]; exact hu
 simp [results,hres,go_sem,hp',hu',m1,m2,m3,m4]
theorem Of_9 {w : World} {v1 v2 : Value} {p q : Int} (hz : q ≠ 0) (h1 : Zr w v1 9 (p)) (h2 : Zr w v2 9 (q)) :
   Calls Tryz.prog 11 #[v1,v2] w (fun e w'=>∃ v,e = .returned (.tuple #[v,.int .i64 (0)]) ∧ Pr w' v 9 ((Rat.divInt (p) (q)).num) (((Rat.divInt (p) (q)).den : Int)) ∧ Below w.heap.size w w'):=by
 obtain ⟨y1,z1,rfl,H1⟩:=h1.op
 obtain ⟨y2,z2,rfl,H2⟩:=h2.op
 go_enter Tryz.func11,Tryz.ntmps11
 repeat apply wp_seq
 refine mf fun K HK=>?_
 go_wp2
 refine HK.out _ _ (then_n ?_)
 refine md (G:=fun W=>Code.wp _ _ _ _ W) ?_
 intro W_0 bb_0 K0 K1 K2
 have f1_0:=H1.out _ _ _ bb_0 K0
 have f2_0:=H2.out _ _ _ bb_0 K1
 have R_0:=ge K2
 clear K0 K1 K2
 refine ly (G:=fun a=>Code.wp _ _ _ a _) 24 ?_
 intro a_0 ha hN_0 hD_0
 have e2_0:=lu ha 2 w.heap.size
 have e3_0:=lu ha 3 (w.heap.size + 1)
 have e4_0:=lu ha 4 (w.heap.size + 1 + 1)
 repeat first | apply lw | apply lx
 refine lm bb_0 [kZ 9 (p),lq,lr,lr,kZ 9 (q),lq,lr,lr] [[],[0],[1],[2],[],[4],[5],[3,6]] [6,7,8,9,10,11,12,13] [(3,false)] [] ?_ ?_
 ·
   refine aj f1_0 e2_0 ?_; refine aa rfl rfl (ac rfl rfl fun hC h1=>ti (z_right (rr h1))) ?_; refine p10 ?_; refine p10 ?_; refine aj f2_0 e3_0 ?_; refine aa rfl rfl (ac rfl rfl fun hC h1=>ti (z_right (rr h1))) ?_; refine p10 ?_; refine p20 ?_; exact ae rfl
 intro W_1 x a_1 hC hall ha hN_1 hD_1 bb_1
 have e2_1:=ab ha e2_0
 have e3_1:=ab ha e3_0
 have e4_1:=ab ha e4_0
 have f1_1:=hC.at0 f1_0
 have f2_1:=hC.at0 f2_0
 have R_1:=hC.holds R_0
 have e13_1:=ln ha hall 13 7
 repeat first | apply lw | apply lx
 refine wp_cond_false e13_1 ?_
 repeat first | apply lw | apply lx
 refine lm bb_1 [kZ 9 (q),lr] [[],[0]] [16,17] [] [] ?_ ?_
 ·
   refine aj f2_1 e3_1 ?_; refine aa rfl rfl (ac rfl rfl fun hC h1=>ti (isNone_z (rr h1) hz)) ?_; exact ae rfl
 intro W_2 x a_2 hC hall ha hN_2 hD_2 bb_2
 have e2_2:=ab ha e2_1
 have e3_2:=ab ha e3_1
 have e4_2:=ab ha e4_1
 have f1_2:=hC.at0 f1_1
 have f2_2:=hC.at0 f2_1
 have R_2:=hC.holds R_1
 have e17_2:=ln ha hall 17 1
 repeat first | apply lw | apply lx
 refine wp_cond_false e17_2 ?_
 repeat first | apply lw | apply lx
 refine mg bb_2 R_2 [kZ 9 (p),kZ 9 (q),kP 9 ((Rat.divInt (p) (q)).num) (((Rat.divInt (p) (q)).den : Int)),kP 9 ((Rat.divInt (p) (q)).num) (((Rat.divInt (p) (q)).den : Int)),kRes (w.heap.size + 1 + 1) 9 ((Rat.divInt (p) (q)).num) (((Rat.divInt (p) (q)).den : Int)),kIs (.int .i64 (0))] [[],[],[0,1],[2],[3],[]] [20,21,22,23,999,5] [] [] ?_ ?_
 ·
   refine aj (hG:=(by simp only [List.mem_singleton]; omega)) f1_2 e2_2 ?_; refine aj (hG:=(by simp only [List.mem_singleton]; omega)) f2_2 e3_2 ?_; refine aa rfl rfl (ai rfl rfl rfl fun hC h1 h2=>tp (lowest_q (k:=9) ((rr h1).mono (by decide)) ((rr h2).mono (by decide)) hz (by decide) (by decide))) ?_; refine aa rfl rfl (dj rfl rfl) ?_; refine aa rfl rfl (bd R_2 rfl e4_2 rfl rfl) ?_; refine p00 ?_; exact ae rfl
 intro W x a1 hC hall ha hN1 hD1 bb1
 obtain ⟨cs,hg,hP⟩:=me hall 4
 have e1:=ab (t:=4) ha e4_2
 have e2:=ln ha hall 5 5
 repeat first | apply lw | apply lx
 refine wp_ret ?_
 repeat (refine then_r ?_)
 exact bi (t:=4) (u:=5) rfl hD1 e1 e2 hg hP fun v hv=>⟨v,rfl,hv,bb1⟩
theorem floor_9 {w : World} {v1 : Value} {a : Rat} (h1 : Pr w v1 9 (a.num) ((a.den : Int))) :
   Calls Tryz.prog 71 #[v1] w (TellsZ w 10 (zq (a.num) ((a.den : Int)))):=by
 obtain ⟨y1,z1,y1',z1',rfl,H1⟩:=h1.op
 go_enter Tryz.func71,Tryz.ntmps71
 repeat apply wp_seq
 refine mf fun K HK=>?_
 go_wp2
 refine HK.out _ _ (then_n ?_)
 refine mc (G:=fun W=>Code.wp _ _ _ _ W) ?_
 intro W_0 bb_0 K0 K1
 obtain ⟨f1_0,f1'_0⟩:=H1.out _ _ _ bb_0 K0
 have R_0:=ll K1
 clear K0 K1
 refine ly (G:=fun a=>Code.wp _ _ _ a _) 18 ?_
 intro a_0 ha hN_0 hD_0
 have e1_0:=lu ha 1 w.heap.size
 have e2_0:=lu ha 2 (w.heap.size + 1)
 repeat first | apply lw | apply lx
 refine lm bb_0 [lp w.heap.size 0,lp w.heap.size 0,kZ 9 (a.num),lp w.heap.size 0,lp w.heap.size 2,kZ 9 ((a.den : Int)),kZQ 10 9 (zq (a.num) ((a.den : Int))) (zm (a.num) ((a.den : Int))) 0,kZQ 10 9 (zq (a.num) ((a.den : Int))) (zm (a.num) ((a.den : Int))) 0,kZ 10 (zq (a.num) ((a.den : Int))),kZ 9 (zm (a.num) ((a.den : Int))),kIs (.int .i64 (0)),PK.fresh 2,PK.fresh 2,kPutZ 11 10 (zq (a.num) ((a.den : Int))),kPutZ 12 9 (zm (a.num) ((a.den : Int))),kIs (.int .i64 (0))] [[],[0],[1],[],[3],[4],[2,5],[6],[7],[7],[7],[],[],[11,8],[12,9],[10]] [7,8,9,10,11,12,13,6,14,15,16,3,4,999,999,5] [] [] ?_ ?_
 ·
   refine p01 e1_0 ?_; refine p10 ?_; refine ag f1_0 ?_; refine p01 e1_0 ?_; refine p10 ?_; refine ag f1'_0 ?_; refine aa rfl rfl (ai rfl rfl rfl fun hC h1 h2=>tq (z_divMod (m:=10) (rz h1) (rz h2) (den_ne a) (by decide) (by decide) (by decide) (by decide))) ?_; refine aa rfl rfl (bg rfl rfl) ?_; refine ap ext_q ?_; refine ap ext_r ?_; refine ap ext_e ?_; refine ar ?_; refine ar ?_; refine bf ?_; refine bf ?_; refine p10 ?_; exact ae rfl
 intro W_1 x a_1 hC hall ha hN_1 hD_1 bb_1
 have e2_1:=ab ha e2_0
 have R_1:=hC.holds R_0
 obtain ⟨g3,hx,hge,l3_1⟩:=bh (me hall 13)
 have d3:=Nat.lt_of_lt_of_le R_0.lt hge
 clear hge
 have e3_1:=(ak (t:=3) (i:=11) ha).trans hx
 clear hx
 repeat first | apply lw | apply lx
 refine mg bb_1 R_1 [kZ 10 (zq (a.num) ((a.den : Int))),kResZ (w.heap.size + 1) 10 (zq (a.num) ((a.den : Int)))] [[],[0]] [17,999] [] [] ?_ ?_
 ·
   refine aj (hG:=(by simp only [List.mem_singleton]; omega)) (l3_1.atR) e3_1 ?_; refine aa rfl rfl (ci R_1 e2_1 rfl rfl) ?_; exact ae rfl
 intro W x a1 hC hall ha hN1 hD1 bb1
 obtain ⟨cs,hg,hP⟩:=me hall 1
 have e1:=ab (t:=2) ha e2_1
 repeat first | apply lw | apply lx
 refine wp_ret ?_
 repeat (refine then_r ?_)
 exact co (t:=2) rfl hD1 e1 hg hP fun v hv=>⟨v,rfl,hv,bb1⟩
theorem Floor_9 {w : World} {v1 : Value} {a : Rat} (h1 : Pr w v1 9 (a.num) ((a.den : Int))) :
   Calls Tryz.prog 27 #[v1] w (TellsZ w 10 (zq (a.num) ((a.den : Int)))):=by
 obtain ⟨y1,z1,y1',z1',rfl,H1⟩:=h1.op
 go_enter Tryz.func27,Tryz.ntmps27
 repeat apply wp_seq
 refine mf fun K HK=>?_
 go_wp2
 refine HK.out _ _ (then_n ?_)
 refine mc (G:=fun W=>Code.wp _ _ _ _ W) ?_
 intro W_0 bb_0 K0 K1
 obtain ⟨f1_0,f1'_0⟩:=H1.out _ _ _ bb_0 K0
 have R_0:=ll K1
 clear K0 K1
 refine ly (G:=fun a=>Code.wp _ _ _ a _) 6 ?_
 intro a_0 ha hN_0 hD_0
 have e1_0:=lu ha 1 w.heap.size
 have e2_0:=lu ha 2 (w.heap.size + 1)
 repeat first | apply lw | apply lx
 refine mg bb_0 R_0 [kP 9 (a.num) ((a.den : Int)),kP 9 (a.num) ((a.den : Int)),kZ 10 (zq (a.num) ((a.den : Int))),kResZ (w.heap.size + 1) 10 (zq (a.num) ((a.den : Int)))] [[],[0],[1],[2]] [3,4,5,999] [] [] ?_ ?_
 ·
   refine aa rfl rfl (aw (hG:=(by simp only [List.mem_singleton]; omega)) f1_0 f1'_0 e1_0 rfl) ?_; refine aa rfl rfl (ac rfl rfl fun hC h1=>tp (of_9 (pm h1))) ?_; refine aa rfl rfl (ac rfl rfl fun hC h1=>tz (floor_9 (pm h1))) ?_; refine aa rfl rfl (ci R_0 e2_0 rfl rfl) ?_; exact ae rfl
 intro W x a1 hC hall ha hN1 hD1 bb1
 obtain ⟨cs,hg,hP⟩:=me hall 3
 have e1:=ab (t:=2) ha e2_0
 repeat first | apply lw | apply lx
 refine wp_ret ?_
 repeat (refine then_r ?_)
 exact co (t:=2) rfl hD1 e1 hg hP fun v hv=>⟨v,rfl,hv,bb1⟩
theorem run_adds {w : World} {x y : ByteArray} (h : x.size + y.size ≤ 1000000) : (binOp .add 9 (.string x) (.string y)).run Tryz.prog w = .ok (.string (x ++ y)) w:=by
 have h' : x.size + y.size ≤ 9223372036854775807:=by omega
 have e:=run_string_add_sum (P:=Tryz.prog) (w:=w) x y h'
 simpa [binOp] using e
theorem gj {ρ : Operand → Value} {w : World} {d : Option Tmp} {T E2 : TypeId} {pos : String} {af : Array Edge} {gu : Option (Nat × Bool)} {a b : Operand} {x y : ByteArray} (ha : ρ a = .string x) (hb : ρ b = .string y) (h : x.size + y.size ≤ 1000000) :
   (execOp ρ { dst:=d,op:=.binOp .add 9 a b E2,type:=T,pos:=pos,after:=af,guard:=gu }).run Tryz.prog w = .ok (.value (.string (x ++ y))) w:=by
 show (((do eqGuard .add 9 a b (ρ a) (ρ b); binOp .add 9 (ρ a) (ρ b)) : Sem Value) >>= fun v=>pure (Next.value v)).run Tryz.prog w = _
 rw [ha,hb]
 have e2 : ((do eqGuard .add 9 a b (.string x) (.string y); binOp .add 9 (.string x) (.string y)) : Sem Value).run Tryz.prog w = .ok (.string (x ++ y)) w:=by
   rw [bm (v:=()) (w':=w) rfl]; exact run_adds h
 rw [bm e2]; rfl
theorem ir {z : Int} {k : Nat} (h : z.natAbs < 1000000000 ^ k) (hk : 0 < k) : (ztext z).size ≤ 9 * k + 1:=by
 have h1:=decDigits_len h hk
 unfold ztext ntext
 split
 · rw [ByteArray.size_append,ke]
   show 1 + _ ≤ _
   omega
 · rw [ke]; omega
theorem den_one {a : Rat} (h : a.den ≠ 1) : (1 : Int) < (a.den : Int):=by have:=a.den_pos; omega
theorem AtR.add1 {W : World} {g o k : Nat} {x : Int} (h : AtR W g o k x) (hk : 0 < k) (hk2 : k ≤ 1000) : (ztext x).size + (⟨#[47]⟩ : ByteArray).size ≤ 1000000:=by
 obtain ⟨_,_,_,_,_,h⟩:=h
 have:=ir h.lt hk
 show _ + 1 ≤ _
 omega
theorem AtR.add2 {W : World} {g o g' o' k k' : Nat} {x y : Int} (h : AtR W g o k x) (h' : AtR W g' o' k' y) (hk : 0 < k ∧ 0 < k') (hk2 : k ≤ 1000 ∧ k' ≤ 1000) : ((ztext x) ++ (⟨#[47]⟩ : ByteArray)).size + (ztext y).size ≤ 1000000:=by
 obtain ⟨_,_,_,_,_,h⟩:=h
 obtain ⟨_,_,_,_,_,h'⟩:=h'
 have:=ir h.lt hk.1
 have:=ir h'.lt hk.2
 rw [ByteArray.size_append]
 show _ + 1 + _ ≤ _
 omega
theorem decimal_9w {w : World} {v1 : Value} {a : Rat} (HT : Hid (Tab w ∧ 2 ≤ w.heap.size)) (hz : a.den = 1) (h1 : Pr w v1 9 (a.num) ((a.den : Int))) :
   Calls Tryz.prog 68 #[v1] w (fun e w'=>e = .returned (.string (ztext (a.num))) ∧ Below w.heap.size w w'):=by
 obtain ⟨y1,z1,y1',z1',rfl,H1⟩:=h1.op
 go_enter Tryz.func68,Tryz.ntmps68
 repeat apply wp_seq
 refine mf fun K HK=>?_
 go_wp2
 refine HK.out _ _ (then_n ?_)
 refine mb (G:=fun W=>Code.wp _ _ _ _ W) ?_
 intro W_0 bb_0 K0
 obtain ⟨f1_0,f1'_0⟩:=H1.out _ _ _ bb_0 K0
 clear K0
 refine ly (G:=fun a=>Code.wp _ _ _ a _) 21 ?_
 intro a_0 ha hN_0 hD_0
 have e1_0:=lu ha 1 w.heap.size
 repeat first | apply lw | apply lx
 refine lm bb_0 [lp w.heap.size 0,lp w.heap.size 2,kZ 9 ((a.den : Int)),lq] [[],[0],[1],[2]] [3,4,5,6] [] [] ?_ ?_
 ·
   refine p01 e1_0 ?_; refine p10 ?_; refine ag f1'_0 ?_; refine aa rfl rfl (ac rfl rfl fun hC h1=>ti (isOne_z1 (by rw [hz]; rfl) ((rr h1).mono (by decide)))) ?_; exact ae rfl
 intro W_1 x a_1 hC hall ha hN_1 hD_1 bb_1
 have e1_1:=ab ha e1_0
 have f1_1:=hC.at0 f1_0
 have e6_1:=ln ha hall 6 3
 repeat first | apply lw | apply lx
 refine wp_cond_true e6_1 ?_
 repeat first | apply lw | apply lx
 refine lm bb_1 [lp w.heap.size 0,lp w.heap.size 0,kZ 9 (a.num),kIs (.string (ztext (a.num))),kIs (.string (ztext (a.num)))] [[],[0],[1],[2],[3]] [7,8,9,10,2] [] [] ?_ ?_
 ·
   refine p01 e1_1 ?_; refine p10 ?_; refine ag f1_1 ?_; refine aa rfl rfl (ac rfl rfl fun hC h1=>ti (z_text (rz h1) (by decide) (HT.out.1.below (bb_1.trans hC.below) HT.out.2) (Nat.le_trans HT.out.2 (bb_1.trans hC.below).size))) ?_; refine p10 ?_; exact ae rfl
 intro W x a1 hC hall ha hN1 hD1 bb1
 have e1:=ln ha hall 2 4
 repeat first | apply lw | apply lx
 refine wp_ret ?_
 repeat (refine then_r ?_)
 exact bc (t:=2) rfl hD1 e1 ⟨rfl,bb1⟩
theorem Text_9w {w : World} {v1 : Value} {a : Rat} (HT : Hid (Tab w ∧ 2 ≤ w.heap.size)) (hz : a.den = 1) (h1 : Pr w v1 9 (a.num) ((a.den : Int))) :
   Calls Tryz.prog 24 #[v1] w (fun e w'=>e = .returned (.string (ztext (a.num))) ∧ Below w.heap.size w w'):=by
 obtain ⟨y1,z1,y1',z1',rfl,H1⟩:=h1.op
 go_enter Tryz.func24,Tryz.ntmps24
 repeat apply wp_seq
 refine mf fun K HK=>?_
 go_wp2
 refine HK.out _ _ (then_n ?_)
 refine mb (G:=fun W=>Code.wp _ _ _ _ W) ?_
 intro W_0 bb_0 K0
 obtain ⟨f1_0,f1'_0⟩:=H1.out _ _ _ bb_0 K0
 clear K0
 refine ly (G:=fun a=>Code.wp _ _ _ a _) 6 ?_
 intro a_0 ha hN_0 hD_0
 have e1_0:=lu ha 1 w.heap.size
 repeat first | apply lw | apply lx
 refine lm bb_0 [kP 9 (a.num) ((a.den : Int)),kP 9 (a.num) ((a.den : Int)),kIs (.string (ztext (a.num))),kIs (.string (ztext (a.num)))] [[],[0],[1],[2]] [3,4,5,2] [] [] ?_ ?_
 ·
   refine aa rfl rfl (aw f1_0 f1'_0 e1_0 rfl) ?_; refine aa rfl rfl (ac rfl rfl fun hC h1=>tp (of_9 (pm h1))) ?_; refine aa rfl rfl (ac rfl rfl fun hC h1=>ti (decimal_9w (Lib.hid ⟨HT.out.1.below (bb_0.trans hC.below) HT.out.2,Nat.le_trans HT.out.2 (bb_0.trans hC.below).size⟩) hz (pm h1))) ?_; refine p10 ?_; exact ae rfl
 intro W x a1 hC hall ha hN1 hD1 bb1
 have e1:=ln ha hall 2 3
 repeat first | apply lw | apply lx
 refine wp_ret ?_
 repeat (refine then_r ?_)
 exact bc (t:=2) rfl hD1 e1 ⟨rfl,bb1⟩
theorem decimal_9b {w : World} {v1 : Value} {a : Rat} (HT : Hid (Tab w ∧ 2 ≤ w.heap.size)) (hz : a.den ≠ 1) (h1 : Pr w v1 9 (a.num) ((a.den : Int))) :
   Calls Tryz.prog 68 #[v1] w (fun e w'=>e = .returned (.string (((ztext (a.num)) ++ ({ data:=#[47] })) ++ (ztext ((a.den : Int))))) ∧ Below w.heap.size w w'):=by
 obtain ⟨y1,z1,y1',z1',rfl,H1⟩:=h1.op
 go_enter Tryz.func68,Tryz.ntmps68
 repeat apply wp_seq
 refine mf fun K HK=>?_
 go_wp2
 refine HK.out _ _ (then_n ?_)
 refine mb (G:=fun W=>Code.wp _ _ _ _ W) ?_
 intro W_0 bb_0 K0
 obtain ⟨f1_0,f1'_0⟩:=H1.out _ _ _ bb_0 K0
 clear K0
 refine ly (G:=fun a=>Code.wp _ _ _ a _) 21 ?_
 intro a_0 ha hN_0 hD_0
 have e1_0:=lu ha 1 w.heap.size
 repeat first | apply lw | apply lx
 refine lm bb_0 [lp w.heap.size 0,lp w.heap.size 2,kZ 9 ((a.den : Int)),lr] [[],[0],[1],[2]] [3,4,5,6] [] [] ?_ ?_
 ·
   refine p01 e1_0 ?_; refine p10 ?_; refine ag f1'_0 ?_; refine aa rfl rfl (ac rfl rfl fun hC h1=>ti (isOne_z0 (den_one hz) ((rr h1).mono (by decide)))) ?_; exact ae rfl
 intro W_1 x a_1 hC hall ha hN_1 hD_1 bb_1
 have e1_1:=ab ha e1_0
 have f1_1:=hC.at0 f1_0
 have f1'_1:=hC.at0 f1'_0
 have e6_1:=ln ha hall 6 3
 repeat first | apply lw | apply lx
 refine wp_cond_false e6_1 ?_
 repeat first | apply lw | apply lx
 refine lm bb_1 [lp w.heap.size 0,lp w.heap.size 0,kZ 9 (a.num),kIs (.string (ztext (a.num))),kIs (.string ((ztext (a.num)) ++ ({ data:=#[47] }))),lp w.heap.size 0,lp w.heap.size 2,kZ 9 ((a.den : Int)),kIs (.string (ztext ((a.den : Int)))),kIs (.string (((ztext (a.num)) ++ ({ data:=#[47] })) ++ (ztext ((a.den : Int))))),kIs (.string (((ztext (a.num)) ++ ({ data:=#[47] })) ++ (ztext ((a.den : Int)))))] [[],[0],[1],[2],[3],[],[5],[6],[7],[4,8],[9]] [11,12,13,14,15,16,17,18,19,20,2] [] [] ?_ ?_
 ·
   refine p01 e1_1 ?_; refine p10 ?_; refine ag f1_1 ?_; refine aa rfl rfl (ac rfl rfl fun hC h1=>ti (z_text (rz h1) (by decide) (HT.out.1.below (bb_1.trans hC.below) HT.out.2) (Nat.le_trans HT.out.2 (bb_1.trans hC.below).size))) ?_; refine p10 (hr:=fun _=>gj (by kernel_rfl) (by kernel_rfl) (f1_1.add1 (by decide) (by decide))) ?_; refine p01 e1_1 ?_; refine p10 ?_; refine ag f1'_1 ?_; refine aa rfl rfl (ac rfl rfl fun hC h1=>ti (z_text (rz h1) (by decide) (HT.out.1.below (bb_1.trans hC.below) HT.out.2) (Nat.le_trans HT.out.2 (bb_1.trans hC.below).size))) ?_; refine p20 (hr:=fun _=>gj (by kernel_rfl) (by kernel_rfl) (f1_1.add2 f1'_1 (by decide) (by decide))) ?_; refine p10 ?_; exact ae rfl
 intro W x a1 hC hall ha hN1 hD1 bb1
 have e1:=ln ha hall 2 10
 repeat first | apply lw | apply lx
 refine wp_ret ?_
 repeat (refine then_r ?_)
 exact bc (t:=2) rfl hD1 e1 ⟨rfl,bb1⟩
theorem Text_9b {w : World} {v1 : Value} {a : Rat} (HT : Hid (Tab w ∧ 2 ≤ w.heap.size)) (hz : a.den ≠ 1) (h1 : Pr w v1 9 (a.num) ((a.den : Int))) :
   Calls Tryz.prog 24 #[v1] w (fun e w'=>e = .returned (.string (((ztext (a.num)) ++ ({ data:=#[47] })) ++ (ztext ((a.den : Int))))) ∧ Below w.heap.size w w'):=by
 obtain ⟨y1,z1,y1',z1',rfl,H1⟩:=h1.op
 go_enter Tryz.func24,Tryz.ntmps24
 repeat apply wp_seq
 refine mf fun K HK=>?_
 go_wp2
 refine HK.out _ _ (then_n ?_)
 refine mb (G:=fun W=>Code.wp _ _ _ _ W) ?_
 intro W_0 bb_0 K0
 obtain ⟨f1_0,f1'_0⟩:=H1.out _ _ _ bb_0 K0
 clear K0
 refine ly (G:=fun a=>Code.wp _ _ _ a _) 6 ?_
 intro a_0 ha hN_0 hD_0
 have e1_0:=lu ha 1 w.heap.size
 repeat first | apply lw | apply lx
 refine lm bb_0 [kP 9 (a.num) ((a.den : Int)),kP 9 (a.num) ((a.den : Int)),kIs (.string (((ztext (a.num)) ++ ({ data:=#[47] })) ++ (ztext ((a.den : Int))))),kIs (.string (((ztext (a.num)) ++ ({ data:=#[47] })) ++ (ztext ((a.den : Int)))))] [[],[0],[1],[2]] [3,4,5,2] [] [] ?_ ?_
 ·
   refine aa rfl rfl (aw f1_0 f1'_0 e1_0 rfl) ?_; refine aa rfl rfl (ac rfl rfl fun hC h1=>tp (of_9 (pm h1))) ?_; refine aa rfl rfl (ac rfl rfl fun hC h1=>ti (decimal_9b (Lib.hid ⟨HT.out.1.below (bb_0.trans hC.below) HT.out.2,Nat.le_trans HT.out.2 (bb_0.trans hC.below).size⟩) hz (pm h1))) ?_; refine p10 ?_; exact ae rfl
 intro W x a1 hC hall ha hN1 hD1 bb1
 have e1:=ln ha hall 2 3
 repeat first | apply lw | apply lx
 refine wp_ret ?_
 repeat (refine then_r ?_)
 exact bc (t:=2) rfl hD1 e1 ⟨rfl,bb1⟩
theorem decimal_19w {w : World} {v1 : Value} {a : Rat} (HT : Hid (Tab w ∧ 2 ≤ w.heap.size)) (hz : a.den = 1) (h1 : Pr w v1 19 (a.num) ((a.den : Int))) :
   Calls Tryz.prog 68 #[v1] w (fun e w'=>e = .returned (.string (ztext (a.num))) ∧ Below w.heap.size w w'):=by
 obtain ⟨y1,z1,y1',z1',rfl,H1⟩:=h1.op
 go_enter Tryz.func68,Tryz.ntmps68
 repeat apply wp_seq
 refine mf fun K HK=>?_
 go_wp2
 refine HK.out _ _ (then_n ?_)
 refine mb (G:=fun W=>Code.wp _ _ _ _ W) ?_
 intro W_0 bb_0 K0
 obtain ⟨f1_0,f1'_0⟩:=H1.out _ _ _ bb_0 K0
 clear K0
 refine ly (G:=fun a=>Code.wp _ _ _ a _) 21 ?_
 intro a_0 ha hN_0 hD_0
 have e1_0:=lu ha 1 w.heap.size
 repeat first | apply lw | apply lx
 refine lm bb_0 [lp w.heap.size 0,lp w.heap.size 2,kZ 19 ((a.den : Int)),lq] [[],[0],[1],[2]] [3,4,5,6] [] [] ?_ ?_
 ·
   refine p01 e1_0 ?_; refine p10 ?_; refine ag f1'_0 ?_; refine aa rfl rfl (ac rfl rfl fun hC h1=>ti (isOne_z1 (by rw [hz]; rfl) ((rr h1).mono (by decide)))) ?_; exact ae rfl
 intro W_1 x a_1 hC hall ha hN_1 hD_1 bb_1
 have e1_1:=ab ha e1_0
 have f1_1:=hC.at0 f1_0
 have e6_1:=ln ha hall 6 3
 repeat first | apply lw | apply lx
 refine wp_cond_true e6_1 ?_
 repeat first | apply lw | apply lx
 refine lm bb_1 [lp w.heap.size 0,lp w.heap.size 0,kZ 19 (a.num),kIs (.string (ztext (a.num))),kIs (.string (ztext (a.num)))] [[],[0],[1],[2],[3]] [7,8,9,10,2] [] [] ?_ ?_
 ·
   refine p01 e1_1 ?_; refine p10 ?_; refine ag f1_1 ?_; refine aa rfl rfl (ac rfl rfl fun hC h1=>ti (z_text (rz h1) (by decide) (HT.out.1.below (bb_1.trans hC.below) HT.out.2) (Nat.le_trans HT.out.2 (bb_1.trans hC.below).size))) ?_; refine p10 ?_; exact ae rfl
 intro W x a1 hC hall ha hN1 hD1 bb1
 have e1:=ln ha hall 2 4
 repeat first | apply lw | apply lx
 refine wp_ret ?_
 repeat (refine then_r ?_)
 exact bc (t:=2) rfl hD1 e1 ⟨rfl,bb1⟩
theorem Text_19w {w : World} {v1 : Value} {a : Rat} (HT : Hid (Tab w ∧ 2 ≤ w.heap.size)) (hz : a.den = 1) (h1 : Pr w v1 19 (a.num) ((a.den : Int))) :
   Calls Tryz.prog 24 #[v1] w (fun e w'=>e = .returned (.string (ztext (a.num))) ∧ Below w.heap.size w w'):=by
 obtain ⟨y1,z1,y1',z1',rfl,H1⟩:=h1.op
 go_enter Tryz.func24,Tryz.ntmps24
 repeat apply wp_seq
 refine mf fun K HK=>?_
 go_wp2
 refine HK.out _ _ (then_n ?_)
 refine mb (G:=fun W=>Code.wp _ _ _ _ W) ?_
 intro W_0 bb_0 K0
 obtain ⟨f1_0,f1'_0⟩:=H1.out _ _ _ bb_0 K0
 clear K0
 refine ly (G:=fun a=>Code.wp _ _ _ a _) 6 ?_
 intro a_0 ha hN_0 hD_0
 have e1_0:=lu ha 1 w.heap.size
 repeat first | apply lw | apply lx
 refine lm bb_0 [kP 19 (a.num) ((a.den : Int)),kP 19 (a.num) ((a.den : Int)),kIs (.string (ztext (a.num))),kIs (.string (ztext (a.num)))] [[],[0],[1],[2]] [3,4,5,2] [] [] ?_ ?_
 ·
   refine aa rfl rfl (aw f1_0 f1'_0 e1_0 rfl) ?_; refine aa rfl rfl (ac rfl rfl fun hC h1=>tp (of_19 (pm h1))) ?_; refine aa rfl rfl (ac rfl rfl fun hC h1=>ti (decimal_19w (Lib.hid ⟨HT.out.1.below (bb_0.trans hC.below) HT.out.2,Nat.le_trans HT.out.2 (bb_0.trans hC.below).size⟩) hz (pm h1))) ?_; refine p10 ?_; exact ae rfl
 intro W x a1 hC hall ha hN1 hD1 bb1
 have e1:=ln ha hall 2 3
 repeat first | apply lw | apply lx
 refine wp_ret ?_
 repeat (refine then_r ?_)
 exact bc (t:=2) rfl hD1 e1 ⟨rfl,bb1⟩
theorem decimal_19b {w : World} {v1 : Value} {a : Rat} (HT : Hid (Tab w ∧ 2 ≤ w.heap.size)) (hz : a.den ≠ 1) (h1 : Pr w v1 19 (a.num) ((a.den : Int))) :
   Calls Tryz.prog 68 #[v1] w (fun e w'=>e = .returned (.string (((ztext (a.num)) ++ ({ data:=#[47] })) ++ (ztext ((a.den : Int))))) ∧ Below w.heap.size w w'):=by
 obtain ⟨y1,z1,y1',z1',rfl,H1⟩:=h1.op
 go_enter Tryz.func68,Tryz.ntmps68
 repeat apply wp_seq
 refine mf fun K HK=>?_
 go_wp2
 refine HK.out _ _ (then_n ?_)
 refine mb (G:=fun W=>Code.wp _ _ _ _ W) ?_
 intro W_0 bb_0 K0
 obtain ⟨f1_0,f1'_0⟩:=H1.out _ _ _ bb_0 K0
 clear K0
 refine ly (G:=fun a=>Code.wp _ _ _ a _) 21 ?_
 intro a_0 ha hN_0 hD_0
 have e1_0:=lu ha 1 w.heap.size
 repeat first | apply lw | apply lx
 refine lm bb_0 [lp w.heap.size 0,lp w.heap.size 2,kZ 19 ((a.den : Int)),lr] [[],[0],[1],[2]] [3,4,5,6] [] [] ?_ ?_
 ·
   refine p01 e1_0 ?_; refine p10 ?_; refine ag f1'_0 ?_; refine aa rfl rfl (ac rfl rfl fun hC h1=>ti (isOne_z0 (den_one hz) ((rr h1).mono (by decide)))) ?_; exact ae rfl
 intro W_1 x a_1 hC hall ha hN_1 hD_1 bb_1
 have e1_1:=ab ha e1_0
 have f1_1:=hC.at0 f1_0
 have f1'_1:=hC.at0 f1'_0
 have e6_1:=ln ha hall 6 3
 repeat first | apply lw | apply lx
 refine wp_cond_false e6_1 ?_
 repeat first | apply lw | apply lx
 refine lm bb_1 [lp w.heap.size 0,lp w.heap.size 0,kZ 19 (a.num),kIs (.string (ztext (a.num))),kIs (.string ((ztext (a.num)) ++ ({ data:=#[47] }))),lp w.heap.size 0,lp w.heap.size 2,kZ 19 ((a.den : Int)),kIs (.string (ztext ((a.den : Int)))),kIs (.string (((ztext (a.num)) ++ ({ data:=#[47] })) ++ (ztext ((a.den : Int))))),kIs (.string (((ztext (a.num)) ++ ({ data:=#[47] })) ++ (ztext ((a.den : Int)))))] [[],[0],[1],[2],[3],[],[5],[6],[7],[4,8],[9]] [11,12,13,14,15,16,17,18,19,20,2] [] [] ?_ ?_
 ·
   refine p01 e1_1 ?_; refine p10 ?_; refine ag f1_1 ?_; refine aa rfl rfl (ac rfl rfl fun hC h1=>ti (z_text (rz h1) (by decide) (HT.out.1.below (bb_1.trans hC.below) HT.out.2) (Nat.le_trans HT.out.2 (bb_1.trans hC.below).size))) ?_; refine p10 (hr:=fun _=>gj (by kernel_rfl) (by kernel_rfl) (f1_1.add1 (by decide) (by decide))) ?_; refine p01 e1_1 ?_; refine p10 ?_; refine ag f1'_1 ?_; refine aa rfl rfl (ac rfl rfl fun hC h1=>ti (z_text (rz h1) (by decide) (HT.out.1.below (bb_1.trans hC.below) HT.out.2) (Nat.le_trans HT.out.2 (bb_1.trans hC.below).size))) ?_; refine p20 (hr:=fun _=>gj (by kernel_rfl) (by kernel_rfl) (f1_1.add2 f1'_1 (by decide) (by decide))) ?_; refine p10 ?_; exact ae rfl
 intro W x a1 hC hall ha hN1 hD1 bb1
 have e1:=ln ha hall 2 10
 repeat first | apply lw | apply lx
 refine wp_ret ?_
 repeat (refine then_r ?_)
 exact bc (t:=2) rfl hD1 e1 ⟨rfl,bb1⟩
theorem Text_19b {w : World} {v1 : Value} {a : Rat} (HT : Hid (Tab w ∧ 2 ≤ w.heap.size)) (hz : a.den ≠ 1) (h1 : Pr w v1 19 (a.num) ((a.den : Int))) :
   Calls Tryz.prog 24 #[v1] w (fun e w'=>e = .returned (.string (((ztext (a.num)) ++ ({ data:=#[47] })) ++ (ztext ((a.den : Int))))) ∧ Below w.heap.size w w'):=by
 obtain ⟨y1,z1,y1',z1',rfl,H1⟩:=h1.op
 go_enter Tryz.func24,Tryz.ntmps24
 repeat apply wp_seq
 refine mf fun K HK=>?_
 go_wp2
 refine HK.out _ _ (then_n ?_)
 refine mb (G:=fun W=>Code.wp _ _ _ _ W) ?_
 intro W_0 bb_0 K0
 obtain ⟨f1_0,f1'_0⟩:=H1.out _ _ _ bb_0 K0
 clear K0
 refine ly (G:=fun a=>Code.wp _ _ _ a _) 6 ?_
 intro a_0 ha hN_0 hD_0
 have e1_0:=lu ha 1 w.heap.size
 repeat first | apply lw | apply lx
 refine lm bb_0 [kP 19 (a.num) ((a.den : Int)),kP 19 (a.num) ((a.den : Int)),kIs (.string (((ztext (a.num)) ++ ({ data:=#[47] })) ++ (ztext ((a.den : Int))))),kIs (.string (((ztext (a.num)) ++ ({ data:=#[47] })) ++ (ztext ((a.den : Int)))))] [[],[0],[1],[2]] [3,4,5,2] [] [] ?_ ?_
 ·
   refine aa rfl rfl (aw f1_0 f1'_0 e1_0 rfl) ?_; refine aa rfl rfl (ac rfl rfl fun hC h1=>tp (of_19 (pm h1))) ?_; refine aa rfl rfl (ac rfl rfl fun hC h1=>ti (decimal_19b (Lib.hid ⟨HT.out.1.below (bb_0.trans hC.below) HT.out.2,Nat.le_trans HT.out.2 (bb_0.trans hC.below).size⟩) hz (pm h1))) ?_; refine p10 ?_; exact ae rfl
 intro W x a1 hC hall ha hN1 hD1 bb1
 have e1:=ln ha hall 2 3
 repeat first | apply lw | apply lx
 refine wp_ret ?_
 repeat (refine then_r ?_)
 exact bc (t:=2) rfl hD1 e1 ⟨rfl,bb1⟩
theorem wp_region_pkE {P : Program} {id : Nat} {draw : Bool} {ops : Array Oper} {Q : Exit → Act → World → Prop} {a0 : Act} {W0 : World} (B : Nat) (ks : List PK) (es : List (List (Nat × Option Tmp))) (all : List (Nat × Option Tmp)) (bs : List (Nat × Bool)) (sk : List Nat) (hm : P.follows .mixedOrders = true) (hchk : growOK ops (fun i => !sk.contains i) es all a0.tmps.size = true) (hk : codesOK ks es = true) (hgu : guardOK ops bs sk = true) (hbs : bs.map (fun p => at_ ks p.1) = bs.map fun p => kIs (.bool p.2)) (hsk : sk.map (at_ ks) = sk.map fun _ => kIs undef)
   (hn : (blks ks).Nodup) (hB : ∀ g ∈ blks ks,B ≤ g) (hB0 : B ≤ W0.heap.size) (ht : ∀ g ∈ blks ks,∃ cs,Holds_ W0 g cs)
   (E : (Nat → Bool) → World → Prop) (hE0 : ∀ W',W' = W0 ∨ W' = W0.drew → E (fun i=>decide (ops.size ≤ i)) W') (hEs : ∀ i,i < ops.size → ∀ L x v w w',E L w → Reg B W0 (blks ks) w → L i = false → (sk.contains i = false → ∀ p ∈ es.getD i [],L p.1 = true) → (at_ ks i).move W0.heap.size x v w w' → E (upd L i true) w')
   (hs : ∀ i o,ops[i]? = some o → sk.contains i = false → ∀ L,L i = false → PkStep P (fun w=>Reg B W0 (blks ks) w ∧ E L w) W0.heap.size ks a0 i o (es.getD i [])) (hend : ∀ w' x,Reg B W0 (blks ks) w' → (∀ i,i < ops.size → (at_ ks i).sem W0.heap.size x (x i) w') → Q .normal (putE x a0 all) w') : (Code.region id ops draw).wp P Q a0 W0:=by
 have hchk':=hchk
 unfold growOK at hchk'
 simp only [Bool.and_eq_true,decide_eq_true_eq] at hchk'
 have hall:=hchk'.1.1.1
 have hops:=hchk'.2
 have hlt : ∀ i o,ops[i]? = some o → ∀ p ∈ es.getD i [],p.1 < ops.size:=fun i o ho p hp=>by
   have hl : i < ops.size:=(Array.getElem?_eq_some_iff.1 ho).1; have h:=List.all_eq_true.1 hops i (List.mem_range.2 hl); rw [ho] at h; simp only [Bool.and_eq_true] at h; have:=List.all_eq_true.1 h.1.2 p hp; simp only [Bool.and_eq_true,decide_eq_true_eq] at this; exact this.1.2
 have hinto : ∀ i e,(at_ ks i).into = some e → i < ks.length ∧ (at_ ks e).isFresh = true ∧ (∃ p ∈ es.getD i [],p.1 = e) ∧ ∀ j,i ≠ j → (at_ ks j).into ≠ some e:=fun i e hi=>by
   have hl : i < ks.length:=by
     rcases Nat.lt_or_ge i ks.length with h | h
     · exact h
     · unfold at_ at hi; rw [List.getD_eq_getElem?_getD,List.getElem?_eq_none h] at hi; simp [kAny,PK.into] at hi
   have h:=List.all_eq_true.1 hk i (List.mem_range.2 hl); rw [hi] at h; simp only [Bool.and_eq_true] at h; obtain ⟨⟨⟨h1,h2⟩,h3⟩,_⟩:=h; refine ⟨hl,h1,?_,fun j hj hj2=>?_⟩
   · obtain ⟨p,hp,hh⟩:=List.any_eq_true.1 h2; exact ⟨p,hp,of_decide_eq_true hh⟩
   · have hlj : j < ks.length:=by
       rcases Nat.lt_or_ge j ks.length with h | h
       · exact h
       · unfold at_ at hj2; rw [List.getD_eq_getElem?_getD,List.getElem?_eq_none h] at hj2; simp [kAny,PK.into] at hj2
     have:=List.all_eq_true.1 h3 j (List.mem_range.2 hlj); simp [hj,hj2] at this
 have href : ∀ i e,(at_ ks i).ref = some e → ∃ p ∈ es.getD i [],p.1 = e:=fun i e hi=>by
   have hl : i < ks.length:=by
     rcases Nat.lt_or_ge i ks.length with h | h
     · exact h
     · unfold at_ at hi; rw [List.getD_eq_getElem?_getD,List.getElem?_eq_none h] at hi; simp [kAny,PK.ref] at hi
   have h:=List.all_eq_true.1 hk i (List.mem_range.2 hl); simp only [Bool.and_eq_true,hi] at h; obtain ⟨p,hp,hh⟩:=List.any_eq_true.1 h.2; exact ⟨p,hp,of_decide_eq_true hh⟩
 obtain ⟨Inv,hInv⟩ : ∃ Inv : (Nat → Bool) → (Nat → Value) → World → Prop,Inv = fun L x w=>Reg B W0 (blks ks) w ∧ (∀ i,i < ops.size → L i = true → (at_ ks i).sem W0.heap.size x (x i) w) ∧ (∀ i j,i < ops.size → j < ops.size → i ≠ j → L i = true → L j = true → (at_ ks i).isNew = true → (at_ ks j).isNew = true → blockOf (x i) ≠ blockOf (x j)) ∧ ∀ i e,i < ops.size → L i = true → (at_ ks i).ref = some e → e < ops.size ∧ L e = true:=⟨_,rfl⟩
 have hgo : ∀ i,i < ops.size → ∀ L x w,Inv L x w → L i = false → (∀ e,(at_ ks i).ref = some e → e < ops.size ∧ L e = true) → ∀ v w',(at_ ks i).move W0.heap.size x v w w' → (at_ ks i).sem W0.heap.size x v w' → Inv (upd L i true) (upd x i v) w':=by
   intro i hil L x w hI hi hin v w' h1 h2; rw [hInv] at hI ⊢
   have hintoi : ∀ j e,j < ops.size → L j = true → (at_ ks j).ref = some e → e ≠ i:=fun j e hj hLj he hei=>by
     have:=(hI.2.2.2 j e hj hLj he).2; rw [hei,hi] at this; cases this
   have hintoii : ∀ e,(at_ ks i).ref = some e → e ≠ i:=fun e he hei=>by
     have:=(hin e he).2; rw [hei,hi] at this; cases this
   -- the class
   have hR : Reg B W0 (blks ks) w':=by
     cases e : at_ ks i with
     | p f k1 k2=>rw [e] at h1; exact hI.1.step hB0 h1
     | fresh n=>rw [e] at h1; exact hI.1.step hB0 h1.1
     | list n f k1 k2=>rw [e] at h1; exact hI.1.step hB0 h1.1
     | same e1=>rw [e] at h1; exact hI.1.step hB0 h1
     | cell g f k1 k2 =>
       rw [e] at h1; have hg : g ∈ blks ks:=blk_mem (i:=i) (by rw [e]; rfl); exact hI.1.store (.inl hg) (hB g hg) h1
     | put n f k1 k2 =>
       rw [e] at h1; obtain ⟨g,_,hg,hst⟩:=h1; exact hI.1.store (.inr hg) (by omega) hst
   have hkeep : ∀ j,j < ops.size → L j = true → (at_ ks j).sem W0.heap.size x (x j) w':=fun j hj hLj=>by
     have hij : i ≠ j:=fun hh=>by rw [hh,hLj] at hi; cases hi
     have hsem:=hI.2.1 j hj hLj
     cases e : at_ ks i with
     | p f k1 k2=>rw [e] at h1; exact PK.step hsem h1
     | fresh n=>rw [e] at h1; exact PK.step hsem h1.1
     | list n f k1 k2=>rw [e] at h1; exact PK.step hsem h1.1
     | same e1=>rw [e] at h1; exact PK.step hsem h1
     | cell g f k1 k2 =>
       rw [e] at h1
       have hgl : g < W0.heap.size:=by
         obtain ⟨cs,hh⟩:=ht g (blk_mem (i:=i) (by rw [e]; rfl)); exact hh.lt
       refine PK.store hsem h1 (fun hb=>hij (blk_inj hn (i:=i) (j:=j) (g:=g) (by rw [e]; rfl) hb)) (fun e2 he2 hx=>?_) fun hf hnw hbl=>?_
       rotate_left 1
       · cases ej : at_ ks j with
         | list n3 f3 k3 k4 =>
           rw [ej] at hsem; obtain ⟨g',q1,q2,_⟩:=hsem; rw [q1] at hbl; injection hbl with hbl; have : g' = g:=hbl; omega
         | fresh n=>rw [ej] at hf; cases hf
         | _=>rw [ej] at hnw; cases hnw
       cases ej : at_ ks j with
       | put e3 f3 k3 k4 =>
         rw [ej] at hsem he2; obtain ⟨g',_,q1,q2,_⟩:=hsem; injection he2 with he2; subst he2; rw [q1] at hx; injection hx with hx; injection hx with hx; injection hx with hx; omega
       | _=>rw [ej] at he2; cases he2
     | put e1 f k1 k2 =>
       rw [e] at h1; obtain ⟨g,hxe,hg,hst⟩:=h1; obtain ⟨_,q1,_,q3⟩:=hinto i e1 (by rw [e]; rfl); obtain ⟨he1l,hLe1⟩:=hin e1 (by rw [e]; rfl); refine PK.store hsem hst (fun hb=>?_) (fun e2 he2 hx=>?_) fun hf hnw hbl=>?_
       · obtain ⟨cs,hh⟩:=ht g (blk_mem hb); have:=hh.lt; omega
       rotate_left 1
       · have hne : e1 ≠ j:=fun hh=>by rw [← hh,q1] at hf; cases hf
         exact hI.2.2.1 e1 j he1l hj hne hLe1 hLj (PK.new_of_fresh q1) hnw (by rw [hxe,hbl]; rfl)
       ·
         have hne : e1 ≠ e2:=fun hh=>q3 j hij (hh ▸ he2); have q4:=hinto j e2 he2; have q5:=hI.2.2.2 j e2 hj hLj (PK.ref_of_into he2); exact hI.2.2.1 e1 e2 he1l q5.1 hne hLe1 q5.2 (PK.new_of_fresh q1) (PK.new_of_fresh q4.2.1) (by rw [hxe,hx])
   refine ⟨hR,fun j hj hLj=>?_,fun j k hj hk' hjk hLj hLk hfj hfk=>?_,fun j e hj hLj he=>?_⟩
   · by_cases e : j = i
     · subst e; rw [dm]; exact PK.sem_upd h2 hintoii
     · rw [ct _ _ e] at hLj; rw [ct _ _ e]; exact PK.sem_upd (hkeep j hj hLj) fun e2 he2=>hintoi j e2 hj hLj he2
   · have old : ∀ k,k < ops.size → L k = true → (at_ ks k).isNew = true → ∃ g',blockOf (x k) = some g' ∧ g' < w.heap.size:=fun k hkl hLk hfk=>by
       have hsem:=hI.2.1 k hkl hLk
       cases e2 : at_ ks k with
       | fresh m =>
         rw [e2] at hsem; obtain ⟨g',cs,q1,_,q3,_⟩:=hsem; exact ⟨g',by rw [q1]; rfl,q3.lt⟩
       | list m f3 k3 k4 =>
         rw [e2] at hsem; obtain ⟨g',q1,_,q3,_⟩:=hsem; exact ⟨g',by rw [q1]; rfl,q3⟩
       | _=>rw [e2] at hfk; cases hfk
     have new : (at_ ks i).isNew = true → ∃ g',blockOf v = some g' ∧ w.heap.size ≤ g':=fun hfi=>by
       cases e1 : at_ ks i with
       | fresh n =>
         rw [e1] at h1; obtain ⟨_,g,hg,hgs⟩:=h1; exact ⟨g,by rw [hg]; rfl,hgs⟩
       | list n f3 k3 k4 =>
         rw [e1] at h1; obtain ⟨_,g,hg,hgs⟩:=h1; exact ⟨g,by rw [hg]; rfl,hgs⟩
       | _=>rw [e1] at hfi; cases hfi
     have fr : ∀ k,k ≠ i → k < ops.size → L k = true → (at_ ks k).isNew = true → (at_ ks i).isNew = true → blockOf v ≠ blockOf (x k):=fun k _ hkl hLk hfk hfi hv=>by
       obtain ⟨g',q1,q2⟩:=old k hkl hLk hfk; obtain ⟨g,q3,q4⟩:=new hfi; rw [q1,q3] at hv; injection hv with hv; omega
     by_cases e : j = i
     · subst e; rw [dm,ct _ _ (fun h=>hjk h.symm)]; rw [ct _ _ (fun h=>hjk h.symm)] at hLk; exact fr k (fun h=>hjk h.symm) hk' hLk hfk hfj
     · rw [ct _ _ e] at hLj ⊢
       by_cases e' : k = i
       · subst e'; rw [dm]; exact fun h=>fr j e hj hLj hfj hfk h.symm
       · rw [ct _ _ e'] at hLk ⊢; exact hI.2.2.1 j k hj hk' hjk hLj hLk hfj hfk
   · by_cases e' : j = i
     · subst e'; refine ⟨(hin e he).1,?_⟩; rw [ct _ _ (hintoii e he)]; exact (hin e he).2
     · rw [ct _ _ e'] at hLj; have q:=hI.2.2.2 j e hj hLj he; refine ⟨q.1,?_⟩; rw [ct _ _ (hintoi j e hj hLj he)]; exact q.2
 refine wp_region_grow hm (fun L x w=>Inv L x w ∧ E L w) (fun i=>!sk.contains i) es all hchk ?_ (fun i o g ho hg L x w hI hL=>?_) (fun i hil hWi L x w hI hi=>?_) (fun i o ho hW L x w hI hi hd K hK=>?_) (fun L x w' hL hI=>?_)
 · intro W' hW'; refine ⟨?_,hE0 W' hW'⟩; rw [hInv]; exact ⟨Reg.start ht hW',fun i hi h=>absurd (of_decide_eq_true h) (by omega),fun i _ hi _ _ h=>absurd (of_decide_eq_true h) (by omega),fun i _ hi h=>absurd (of_decide_eq_true h) (by omega)⟩
 · replace hI:=hI.1; rw [hInv] at hI; have hil : i < ops.size:=(Array.getElem?_eq_some_iff.1 ho).1; have h:=List.all_eq_true.1 hgu i (List.mem_range.2 hil); rw [ho] at h; simp only [hg,Bool.or_eq_true] at h; rcases h with h | h
   · obtain ⟨p,hp,hh⟩:=List.any_eq_true.1 h; simp only [Bool.and_eq_true,decide_eq_true_eq,beq_iff_eq] at hh; obtain ⟨⟨h1,h2⟩,h3⟩:=hh; have hs1:=hI.2.1 g.1 h2 hL
     have hk1 : at_ ks g.1 = kIs (.bool p.2):=by
       rw [← h1]; exact List.map_inj_left.1 hbs p hp
     rw [hk1] at hs1; exact .inl ⟨p.2,hs1,h3⟩
   · simp only [Bool.and_eq_true,decide_eq_true_eq] at h; obtain ⟨⟨h1,h2⟩,h3⟩:=h; have hs1:=hI.2.1 g.1 h1 hL; have hk1 : at_ ks g.1 = kIs undef:=List.map_inj_left.1 hsk g.1 (by simpa using h2); rw [hk1] at hs1; exact .inr ⟨hs1,by rw [h3]; rfl⟩
 · have hm : i ∈ sk:=by simpa using hWi
   have hk1 : at_ ks i = kIs undef:=List.map_inj_left.1 hsk i hm; have hmv : (at_ ks i).move W0.heap.size x undef w w:=by rw [hk1]; exact Below.refl _ _
   have hI1:=hI.1; rw [hInv] at hI1; exact ⟨hgo i hil L x w hI.1 hi (fun e he=>by rw [hk1] at he; cases he) undef w hmv (by rw [hk1]; rfl),hEs i hil L x undef w w hI.2 hI1.1 hi (fun h=>absurd (show sk.contains i = true by simpa using hm) (by rw [h]; decide)) hmv⟩
 · have hil : i < ops.size:=(Array.getElem?_eq_some_iff.1 ho).1; have hI':=hI.1; rw [hInv] at hI'; refine deps_use (es.getD i []) (fun p hp=>hI'.2.1 p.1 (hlt i o ho p hp) (hd p hp)) (hs i o ho (by simpa using hW) L hi w x ⟨hI'.1,hI.2⟩) K fun v w' h1 h2=>hK v w' ⟨hgo i hil L x w hI.1 hi (fun e he=>?_) v w' h1 h2,hEs i hil L x v w w' hI.2 hI'.1 hi (fun _=>hd) h1⟩; obtain ⟨p,hp,hpe⟩:=href i e he; exact ⟨hpe ▸ hlt i o ho p hp,hpe ▸ hd p hp⟩
 · replace hI:=hI.1; rw [hInv] at hI; exact hend w' x hI.1 fun i hi=>hI.2.1 i hi (hL i hi)
def waits (es : List (List (Nat × Option Tmp))) (sk : List Nat) (n s j : Nat) : Bool:=decide (j = s) || decide (s < n) && !sk.contains s && (es.getD s []).any fun p=>decide (p.1 = j) || decide (p.1 < n) && !sk.contains p.1 && (es.getD p.1 []).any fun q=>decide (q.1 = j)
theorem waits_not {es : List (List (Nat × Option Tmp))} {sk : List Nat} {n s j : Nat} {L : Nat → Bool} (h : waits es sk n s j = true) (hj : L j = false) (hd : ∀ i,i < n → sk.contains i = false → L i = true → ∀ p ∈ es.getD i [],L p.1 = true) : L s = false:=by
 cases hs : L s with
 | false=>rfl
 | true =>
   exfalso
   unfold waits at h; rw [Bool.or_eq_true] at h; rcases h with h | h
   · rw [of_decide_eq_true h] at hj; rw [hj] at hs; cases hs
   · rw [Bool.and_eq_true,Bool.and_eq_true] at h; obtain ⟨⟨h1,h2⟩,h⟩:=h; obtain ⟨p,hp,h⟩:=List.any_eq_true.1 h; have hp1:=hd s (of_decide_eq_true h1) (by simpa using h2) hs p hp; rw [Bool.or_eq_true] at h; rcases h with h | h
     · rw [of_decide_eq_true h,hj] at hp1; cases hp1
     · rw [Bool.and_eq_true,Bool.and_eq_true] at h; obtain ⟨⟨h3,h4⟩,h⟩:=h; obtain ⟨q,hq,h⟩:=List.any_eq_true.1 h; have hq1:=hd p.1 (of_decide_eq_true h3) (by simpa using h4) hp1 q hq; rw [of_decide_eq_true h,hj] at hq1; cases hq1
def PkFromL (P : Program) (ops : Array Oper) (es : List (List (Nat × Option Tmp))) (sk : List Nat) (B : Nat) (W0 : World) (g : Nat) (ks : List PK) (a0 : Act) (js : List Nat) (i : Nat) : Prop :=
 ∀ k o,i ≤ k → ops[k]? = some o → sk.contains k = false → PkStep P (fun w=>Reg B W0 [g] w ∧ (js.contains k = true → w.heap[g]? = W0.heap[g]?)) W0.heap.size ks a0 k o (es.getD k [])
section
variable {P : Program} {ops : Array Oper} {es : List (List (Nat × Option Tmp))} {sk : List Nat} {B : Nat} {W0 : World} {g : Nat} {ks : List PK} {a0 : Act} {js : List Nat} {i : Nat} {o : Oper} {e : List (Nat × Option Tmp)}
theorem ah (ho : ops[i]? = some o) (he : es.getD i [] = e) (h : PkStep P (Reg B W0 [g]) W0.heap.size ks a0 i o e) (hr : PkFromL P ops es sk B W0 g ks a0 js (i + 1)) : PkFromL P ops es sk B W0 g ks a0 js i:=fun k o' hk ho' hs=>by
 by_cases e1 : k = i
 · subst e1; rw [ho] at ho'; injection ho' with ho'; rw [← ho',he]; exact fun w x hC=>h w x hC.1
 · exact hr k o' (by omega) ho' hs
theorem bj (ho : ops[i]? = some o) (he : es.getD i [] = e) (hj : js.contains i = true) (h : PkStep P (fun w=>Reg B W0 [g] w ∧ w.heap[g]? = W0.heap[g]?) W0.heap.size ks a0 i o e) (hr : PkFromL P ops es sk B W0 g ks a0 js (i + 1)) : PkFromL P ops es sk B W0 g ks a0 js i:=fun k o' hk ho' hs=>by
 by_cases e1 : k = i
 · subst e1; rw [ho] at ho'; injection ho' with ho'; rw [← ho',he]; exact fun w x hC=>h w x ⟨hC.1,hC.2 hj⟩
 · exact hr k o' (by omega) ho' hs
theorem cn (h : ops.size = i) : PkFromL P ops es sk B W0 g ks a0 js i:=fun k o hk ho _=>by
 have:=(Array.getElem?_eq_some_iff.1 ho).1
 omega
end
theorem ce {P : Program} {id : Nat} {draw : Bool} {ops : Array Oper} {Q : Exit → Act → World → Prop} {a0 : Act} {W0 : World} {N : Nat}  (B g : Nat) {cs : Array Value} (hg : Holds_ W0 g cs) (hBg : B ≤ g) (s : Nat) (js : List Nat) (ks : List PK) (es : List (List (Nat × Option Tmp))) (all : List (Nat × Option Tmp)) (bs : List (Nat × Bool)) (sk : List Nat)      
    (hsg : (at_ ks s).blk = some g)  (hB0 : B ≤ W0.heap.size) (hs : PkFromL P ops es sk B W0 g ks a0 js 0) (hend : ∀ w' x,Reg B W0 [g] w' → (∀ i,i < ops.size → (at_ ks i).sem W0.heap.size x (x i) w') → Q .normal (putE x a0 all) w') (hN : a0.tmps.size = N:=by assumption) (hm : P.follows .mixedOrders = true:=by kernel_rfl) (hchk : growOK ops (fun i=>!sk.contains i) es all N = true:=by kernel_rfl) (hk : codesOK ks es = true:=by kernel_rfl) (hgu : guardOK ops bs sk = true:=by kernel_rfl) (hbs : bs.map (fun p=>at_ ks p.1) = bs.map fun p=>kIs (.bool p.2):=by kernel_rfl) (hsk : sk.map (at_ ks) = sk.map fun _=>kIs undef:=by kernel_rfl) (hb : blks ks = [g]:=by kernel_rfl) (hjs : js.all (waits es sk ops.size s) = true:=by kernel_rfl) : (Code.region id ops draw).wp P Q a0 W0:=by
 subst hN
 have hn : (blks ks).Nodup:=by rw [hb]; exact List.nodup_cons.2 ⟨by simp,List.nodup_nil⟩
 have hops:=hchk
 unfold growOK at hops
 simp only [Bool.and_eq_true,decide_eq_true_eq] at hops
 have hlt : ∀ i,i < ops.size → ∀ p ∈ es.getD i [],p.1 < ops.size:=fun i hi p hp=>by
   have h:=List.all_eq_true.1 hops.2 i (List.mem_range.2 hi); rw [Array.getElem?_eq_getElem hi] at h; simp only [Bool.and_eq_true] at h; have:=List.all_eq_true.1 h.1.2 p hp; simp only [Bool.and_eq_true,decide_eq_true_eq] at this; exact this.1.2
 refine wp_region_pkE B ks es all bs sk hm hchk hk hgu hbs hsk hn ?_ hB0 ?_ (fun L w=>(L s = false → w.heap[g]? = W0.heap[g]?) ∧ ∀ i,i < ops.size → sk.contains i = false → L i = true → ∀ p ∈ es.getD i [],L p.1 = true) ?_ ?_ ?_ ?_
 · rw [hb]; intro g' hg'; rw [List.mem_singleton.1 hg']; exact hBg
 · rw [hb]; intro g' hg'; rw [List.mem_singleton.1 hg']; exact ⟨_,hg⟩
 · intro W' hW'; refine ⟨fun _=>?_,fun i hi _ h=>absurd (of_decide_eq_true h) (by omega)⟩; rcases hW' with rfl | rfl <;> rfl
 · intro i hil L x v w w' hE hR hi hd hmv; refine ⟨fun hL=>?_,fun k hk1 hk2 hk3 p hp=>?_⟩
   · have hne : s ≠ i:=fun h=>by rw [h,dm] at hL; cases hL
     rw [ct _ _ hne] at hL; have hw:=hE.1 hL; have hgw : g < w.heap.size:=Nat.lt_of_lt_of_le hg.lt hR.below.size; refine Eq.trans ?_ hw
     cases e : at_ ks i with
     | p f k1 k2=>rw [e] at hmv; exact hmv.block g hgw
     | fresh n=>rw [e] at hmv; exact hmv.1.block g hgw
     | list n f k1 k2=>rw [e] at hmv; exact hmv.1.block g hgw
     | same e1=>rw [e] at hmv; exact hmv.block g hgw
     | cell g' f k1 k2 =>
       rw [e] at hmv; refine hmv.other g fun h=>hne (blk_inj hn (i:=s) (j:=i) (g:=g) hsg ?_); rw [e,h]; rfl
     | put n f k1 k2 =>
       rw [e] at hmv; obtain ⟨g',_,hg',hst⟩:=hmv; refine hst.other g fun h=>?_; have:=hg.lt; omega
   · by_cases e : k = i
     · subst e
       by_cases e2 : p.1 = k
       · rw [e2,dm]
       · rw [ct _ _ e2]; exact hd hk2 p hp
     · rw [ct _ _ e] at hk3
       by_cases e2 : p.1 = i
       · rw [e2,dm]
       · rw [ct _ _ e2]; exact hE.2 k hk1 hk2 hk3 p hp
 · intro i o ho hsi L hi w x hC; rw [hb] at hC; exact hs i o (Nat.zero_le _) ho hsi w x ⟨hC.1,fun hj=>hC.2.1 (waits_not (List.all_eq_true.1 hjs i (by simpa using hj)) hi hC.2.2)⟩
 · rw [hb]; exact hend
theorem keep_holds {W0 w : World} {g : Nat} {cs : Array Value} (h : w.heap[g]? = W0.heap[g]?) (hh : Holds_ W0 g cs) : Holds_ w g cs:=by
 obtain ⟨⟨T,e⟩,hn⟩:=hh
 exact ⟨⟨T,h.trans e⟩,hn⟩
theorem iu {B : Nat} {W0 w : World} {g0 : Nat} (hC : Reg B W0 [g0] w ∧ w.heap[g0]? = W0.heap[g0]?) {o k : Nat} {z : Int} (hl : AtR W0 g0 o k z) : AtR w g0 o k z:=by
 obtain ⟨A,l,c,h1,h2,h3⟩:=hl
 exact ⟨A,l,c,(World.cell?_of_block hC.2).trans h1,(World.cell?_of_block hC.2).trans h2,hC.1.zr h3⟩
theorem run_storeHi {w : World} {g : Nat} {b : Bool} {A : Option Addr} {l c : Nat} {u0 v0 : Value} (h0 : w.cell? ⟨g,2,none⟩ = some u0) (h1 : w.cell? ⟨g,3,none⟩ = some v0) (f0 : w.frozen? ⟨g,2,none⟩ = false) (f1 : w.frozen? ⟨g,3,none⟩ = false) :
   (Instr.storeAt 24 (.pointer (some ⟨g,2,none⟩)) (.agg #[.bool b,.slice A l c])).run Tryz.prog w = .ok () ((w.setCell ⟨g,2,none⟩ (.bool b)).setCell ⟨g,3,none⟩ (.slice A l c)):=by go_simp
theorem run_storeLo {w : World} {g : Nat} {b : Bool} {A : Option Addr} {l c : Nat} {u0 v0 : Value} (h0 : w.cell? ⟨g,0,none⟩ = some u0) (h1 : w.cell? ⟨g,1,none⟩ = some v0) (f0 : w.frozen? ⟨g,0,none⟩ = false) (f1 : w.frozen? ⟨g,1,none⟩ = false) :
   (Instr.storeAt 24 (.pointer (some ⟨g,0,none⟩)) (.agg #[.bool b,.slice A l c])).run Tryz.prog w = .ok () ((w.setCell ⟨g,0,none⟩ (.bool b)).setCell ⟨g,1,none⟩ (.slice A l c)):=by go_simp
def isLo (k : Nat) (x : Int) (u v : Value) (cs : Array Value) (w : World) : Prop:=∃ A l c,cs = #[.bool (decide (x < 0)),.slice A l c,u,v] ∧ Zr w (.agg #[.bool (decide (x < 0)),.slice A l c]) k x
def kLo (g k : Nat) (x : Int) (u v : Value) : PK:=.cell g (isLo k x u v) (fun _ _ _ ⟨A,l,c,e,h⟩ hb=>⟨A,l,c,e,h.below hb⟩) (fun _ _ _ _ ⟨A,l,c,e,h⟩ hs=>⟨A,l,c,e,h.stored hs⟩)
section
variable {S0 B : Nat} {ks : List PK} {a0 : Act} {i : Nat} {N : Nat} {W0 : World} {T : TypeId} {pos : String} {af : Array Edge} {gu : Option (Nat × Bool)}
theorem st_lo {t u e j g k : Nat} {x1 : Int} {a b c d : Value} (h0 : Holds_ W0 g #[a,b,c,d])     (he : at_ ks e = kIs (.pointer (some ⟨g,0,none⟩))) (hj : at_ ks j = kZ k x1) (hi : at_ ks i = kLo g k x1 c d) (hN : a0.tmps.size = N:=by assumption) (ht : decide (t < N) = true:=by kernel_rfl) (hu : decide (u < N) = true:=by kernel_rfl) (htu : decide (t = u) = false:=by kernel_rfl) :
   PkStep Tryz.prog (fun w=>Reg B W0 [g] w ∧ w.heap[g]? = W0.heap[g]?) S0 ks a0 i { dst:=none,op:=.store 24 (.tmp t) (.tmp u),type:=T,pos:=pos,after:=af,guard:=gu } [(e,some t),(j,some u)]:=by
 intro w x hC
 refine ay _ fun hdeps K hK=>?_
 have g0:=hdeps (e,some t) (by simp)
 have g1:=hdeps (j,some u) (by simp)
 rw [he] at g0
 rw [hj] at g1
 have g0' : x e = .pointer (some ⟨g,0,none⟩):=g0
 obtain ⟨A,l,c1,hx,q1⟩:=(show Zr w (x j) k x1 from g1)
 have htu' : t ≠ u:=of_decide_eq_false htu
 have e1 : (putE x a0 [(e,some t),(j,some u)]).eval (.tmp t) = .pointer (some ⟨g,0,none⟩):=(putE_new _ _ (by rw [hN]; exact of_decide_eq_true ht) (by simp [slotAt,Ne.symm htu'])).trans g0'
 have e2 : (putE x a0 [(e,some t),(j,some u)]).eval (.tmp u) = x j:=putE_new _ _ (by rw [hN]; exact of_decide_eq_true hu) (by simp [slotAt])
 have hg:=keep_holds hC.2 h0
 obtain ⟨m1,m2,m3,m4,f1,f2,f3,f4⟩:=hg.four
 obtain ⟨hst,hh⟩:=jt hg (noDig_bool (decide (x1 < 0))) (noDig_slice A l c1)
 refine jp (w':=(w.setCell ⟨g,0,none⟩ (.bool (decide (x1 < 0)))).setCell ⟨g,1,none⟩ (.slice A l c1)) rfl ?_ (hK _ _ ?_ ?_)
 · exact fu e1 (e2.trans hx) (run_storeLo m1 m2 f1 f2)
 · rw [hi]; exact hst
 · rw [hi]; exact ⟨_,hh,A,l,c1,rfl,A,l,c1,rfl,hst.rr q1.1,q1.2⟩
theorem st_hi {t u e j g k : Nat} {x1 x2 : Int} {A1 : Option Addr} {l1 c1 : Nat} {c d : Value} (h0 : Holds_ W0 g #[.bool (decide (x1 < 0)),.slice A1 l1 c1,c,d]) (hz : Zr W0 (.agg #[.bool (decide (x1 < 0)),.slice A1 l1 c1]) k x1)     (he : at_ ks e = kIs (.pointer (some ⟨g,2,none⟩))) (hj : at_ ks j = kZ k x2) (hi : at_ ks i = kRes g k x1 x2) (hN : a0.tmps.size = N:=by assumption) (ht : decide (t < N) = true:=by kernel_rfl) (hu : decide (u < N) = true:=by kernel_rfl) (htu : decide (t = u) = false:=by kernel_rfl) :
   PkStep Tryz.prog (fun w=>Reg B W0 [g] w ∧ w.heap[g]? = W0.heap[g]?) S0 ks a0 i { dst:=none,op:=.store 24 (.tmp t) (.tmp u),type:=T,pos:=pos,after:=af,guard:=gu } [(e,some t),(j,some u)]:=by
 intro w x hC
 refine ay _ fun hdeps K hK=>?_
 have g0:=hdeps (e,some t) (by simp)
 have g1:=hdeps (j,some u) (by simp)
 rw [he] at g0
 rw [hj] at g1
 have g0' : x e = .pointer (some ⟨g,2,none⟩):=g0
 obtain ⟨A,l,c2,hx,q1⟩:=(show Zr w (x j) k x2 from g1)
 have htu' : t ≠ u:=of_decide_eq_false htu
 have e1 : (putE x a0 [(e,some t),(j,some u)]).eval (.tmp t) = .pointer (some ⟨g,2,none⟩):=(putE_new _ _ (by rw [hN]; exact of_decide_eq_true ht) (by simp [slotAt,Ne.symm htu'])).trans g0'
 have e2 : (putE x a0 [(e,some t),(j,some u)]).eval (.tmp u) = x j:=putE_new _ _ (by rw [hN]; exact of_decide_eq_true hu) (by simp [slotAt])
 have hg:=keep_holds hC.2 h0
 obtain ⟨m1,m2,m3,m4,f1,f2,f3,f4⟩:=hg.four
 obtain ⟨hst,hh⟩:=ju hg (noDig_bool (decide (x2 < 0))) (noDig_slice A l c2)
 obtain ⟨A1',l1',c1',ez,hz1⟩:=(hC.1.zr hz).stored hst
 injection ez with ez; injection ez with ez; injection ez with _ ez; injection ez with ez _; injection ez with qa qb qc; subst qa; subst qb; subst qc
 refine jp (w':=(w.setCell ⟨g,2,none⟩ (.bool (decide (x2 < 0)))).setCell ⟨g,3,none⟩ (.slice A l c2)) rfl ?_ (hK _ _ ?_ ?_)
 · exact fu e1 (e2.trans hx) (run_storeHi m3 m4 f3 f4)
 · rw [hi]; exact hst
 · rw [hi]; exact ⟨_,hh,_,_,_,_,_,_,rfl,_,_,_,_,_,_,rfl,hz1,hst.rr q1.1,q1.2⟩
end
theorem Reg.holdsG {B : Nat} {W0 w : World} {G : List Nat} (h : Reg B W0 G w) {g : Nat} (hg : g ∉ G) {cs : Array Value} (hh : Holds_ W0 g cs) : Holds_ w g cs:=by
 have hl:=hh.lt
 obtain ⟨⟨T,e⟩,hn⟩:=hh
 exact ⟨⟨T,(h.old g hl hg).trans e⟩,hn⟩
theorem Pr.tight {W : World} {v : Value} {j k : Nat} {x y : Int} (h : Pr W v j x y) (hx : x.natAbs < 1000000000 ^ k) (hy : y.natAbs < 1000000000 ^ k) : Pr W v k x y:=by
 obtain ⟨A,l,c,A',l',c',e,h1,h2,_⟩:=h
 exact ⟨A,l,c,A',l',c',e,⟨h1.1,hx⟩,h2,hy⟩
theorem AtR.tight {W : World} {g o j k : Nat} {x : Int} (h : AtR W g o j x) (hx : x.natAbs < 1000000000 ^ k) : AtR W g o k x:=by
 obtain ⟨A,l,c,h1,h2,A',l',c',e,h3,_⟩:=h
 exact ⟨A,l,c,h1,h2,A',l',c',e,h3,hx⟩
theorem PRs.lt {W : World} {g : Nat} {l : List (Nat × Int × Int)} (h : PRs W g l) {j : Nat} {q : Nat × Int × Int} (hj : l[j]? = some q) : q.2.1.natAbs < 1000000000 ^ q.1 ∧ q.2.2.natAbs < 1000000000 ^ q.1:=by
 obtain ⟨_,_,_,_,_,_,_,_,_,_,_,_,_,_,_,_,_,h5,_,h7⟩:=h j q hj
 exact ⟨h5.2,h7⟩
section
variable {C : World → Prop} {S0 : Nat} {ks : List PK} {a0 : Act} {i : Nat} {N : Nat} {P : Program} {T : TypeId} {pos : String} {af : Array Edge} {gu : Option (Nat × Bool)} {ats : Array TypeId}
end
theorem res_four {S0 : Nat} {x : Nat → Value} {v : Value} {w : World} {g k : Nat} {z1 z2 : Int} (h : (kRes g k z1 z2).sem S0 x v w) : ∃ q1 q2 q3 q4,Holds_ w g #[q1,q2,q3,q4]:=by
 obtain ⟨cs,h2,A,l,c,A',l',c',rfl,_⟩:=h
 exact ⟨_,_,_,_,h2⟩
theorem in_block8 {id : Nat} {Q : Exit → Act → World → Prop} {a : Act} {w : World} (h : Q .normal a w) : Exit.inBlock id Q .normal a w:=h
theorem pe0 {S0 : Nat} {x : Nat → Value} {v : Value} {w : World} (h : (kP 9 0 1).sem S0 x v w) : Pr w v 9 (0 : Rat).num ((0 : Rat).den : Int):=h
theorem isNone_zero {w : World} {v : Value} {k : Nat} {z : Int} (h : Zr w v k z) (hz : z = 0) : Calls Tryz.prog 44 #[v] w fun e w'=>e = .returned (.bool true) ∧ Below w.heap.size w w':=by
 obtain ⟨A,l,c,rfl,h1,_⟩:=h
 have hk:=(rr_len h1).1
 have hl : l = 0:=hk.2 (by omega)
 subst hl
 obtain ⟨s,hs⟩ : ∃ s,s = decide (z < 0):=⟨_,rfl⟩
 rw [← hs]
 clear hs hk h1 hz
 go_enter Tryz.func44,Tryz.ntmps44
 go_wp2
 go_ret
 exact ⟨rfl,bal (Below.refl _ _) _⟩
theorem kg {x y : Int} (h : 0 < y) : 0 < ((zgcd [(x),(y)] : Nat) : Int):=by
 rw [lf]
 have : 0 < Int.gcd y x:=Nat.gcd_pos_of_pos_left _ (by omega)
 omega
theorem right_none_9 {w : World} {v1 : Value} {zx zy : Int} (hz : zy = 0) (h1 : Pr w v1 9 (zx) (zy)) :
   Calls Tryz.prog 16 #[v1] w (fun e w'=>e = .returned (.bool false) ∧ Below w.heap.size w w'):=by
 obtain ⟨y1,z1,y1',z1',rfl,H1⟩:=h1.op
 go_enter Tryz.func16,Tryz.ntmps16
 repeat apply wp_seq
 refine mf fun K HK=>?_
 go_wp2
 refine HK.out _ _ (then_n ?_)
 refine mb (G:=fun W=>Code.wp _ _ _ _ W) ?_
 intro W_0 bb_0 K0
 obtain ⟨f1_0,f1'_0⟩:=H1.out _ _ _ bb_0 K0
 clear K0
 refine ly (G:=fun a=>Code.wp _ _ _ a _) 32 ?_
 intro a_0 ha hN_0 hD_0
 have e1_0:=lu ha 1 w.heap.size
 repeat first | apply lw | apply lx
 refine lm bb_0 [lp w.heap.size 0,kZ 9 (zx),lq,lr,lr,lp w.heap.size 2,kZ 9 (zy),lq,lr,lr] [[],[0],[1],[2],[3],[],[5],[6],[7],[4,8]] [3,4,5,6,7,8,9,10,11,12] [(4,false)] [] ?_ ?_
 ·
   refine p01 e1_0 ?_; refine ag f1_0 ?_; refine aa rfl rfl (ac rfl rfl fun hC h1=>ti (z_right (rr h1))) ?_; refine p10 ?_; refine p10 ?_; refine p01 e1_0 ?_; refine ag f1'_0 ?_; refine aa rfl rfl (ac rfl rfl fun hC h1=>ti (z_right (rr h1))) ?_; refine p10 ?_; refine p20 ?_; exact ae rfl
 intro W_1 x a_1 hC hall ha hN_1 hD_1 bb_1
 have e1_1:=ab ha e1_0
 have f1'_1:=hC.at0 f1'_0
 have e12_1:=ln ha hall 12 9
 repeat first | apply lw | apply lx
 refine wp_cond_false e12_1 ?_
 repeat first | apply lw | apply lx
 refine lm bb_1 [lp w.heap.size 2,kZ 9 (zy),lq,lr,lr,ls,ls,ls,ls,lr,lr,ls,ls,ls,ls,ls,ls,ls,lr,lr] [[],[0],[1],[2],[3],[],[5],[6],[7],[4,8],[9],[],[11],[],[13],[12,14],[15],[16],[10,17],[18]] [13,14,15,16,17,18,19,20,21,22,23,24,25,26,27,28,29,30,31,2] [(4,false),(10,false)] [5,6,7,8,11,12,13,14,15,16,17] ?_ ?_
 ·
   refine p01 e1_1 ?_; refine ag f1'_1 ?_; refine aa rfl rfl (ac rfl rfl fun hC h1=>ti (isNone_zero (rr h1) hz)) ?_; refine p10 ?_; refine p10 ?_; refine am rfl ?_; refine am rfl ?_; refine am rfl ?_; refine am rfl ?_; refine p20 ?_; refine p10 ?_; refine am rfl ?_; refine am rfl ?_; refine am rfl ?_; refine am rfl ?_; refine am rfl ?_; refine am rfl ?_; refine am rfl ?_; refine p20 ?_; refine p10 ?_; exact ae rfl
 intro W x a1 hC hall ha hN1 hD1 bb1
 have e1:=ln ha hall 2 19
 repeat first | apply lw | apply lx
 refine wp_ret ?_
 repeat (refine then_r ?_)
 exact bc (t:=2) rfl hD1 e1 ⟨rfl,bb1⟩
theorem right_neg_9 {w : World} {v1 : Value} {zx zy : Int} (hz : zy ≠ 0) (hs : decide (zy < 0) = true) (h1 : Pr w v1 9 (zx) (zy)) :
   Calls Tryz.prog 16 #[v1] w (fun e w'=>e = .returned (.bool false) ∧ Below w.heap.size w w'):=by
 obtain ⟨y1,z1,y1',z1',rfl,H1⟩:=h1.op
 go_enter Tryz.func16,Tryz.ntmps16
 repeat apply wp_seq
 refine mf fun K HK=>?_
 go_wp2
 refine HK.out _ _ (then_n ?_)
 refine mb (G:=fun W=>Code.wp _ _ _ _ W) ?_
 intro W_0 bb_0 K0
 obtain ⟨f1_0,f1'_0⟩:=H1.out _ _ _ bb_0 K0
 clear K0
 refine ly (G:=fun a=>Code.wp _ _ _ a _) 32 ?_
 intro a_0 ha hN_0 hD_0
 have e1_0:=lu ha 1 w.heap.size
 repeat first | apply lw | apply lx
 refine lm bb_0 [lp w.heap.size 0,kZ 9 (zx),lq,lr,lr,lp w.heap.size 2,kZ 9 (zy),lq,lr,lr] [[],[0],[1],[2],[3],[],[5],[6],[7],[4,8]] [3,4,5,6,7,8,9,10,11,12] [(4,false)] [] ?_ ?_
 ·
   refine p01 e1_0 ?_; refine ag f1_0 ?_; refine aa rfl rfl (ac rfl rfl fun hC h1=>ti (z_right (rr h1))) ?_; refine p10 ?_; refine p10 ?_; refine p01 e1_0 ?_; refine ag f1'_0 ?_; refine aa rfl rfl (ac rfl rfl fun hC h1=>ti (z_right (rr h1))) ?_; refine p10 ?_; refine p20 ?_; exact ae rfl
 intro W_1 x a_1 hC hall ha hN_1 hD_1 bb_1
 have e1_1:=ab ha e1_0
 have f1'_1:=hC.at0 f1'_0
 have e12_1:=ln ha hall 12 9
 repeat first | apply lw | apply lx
 refine wp_cond_false e12_1 ?_
 repeat first | apply lw | apply lx
 refine lm bb_1 [lp w.heap.size 2,kZ 9 (zy),lr,lq,lq,lp w.heap.size 2,lp w.heap.size 2,lq,lr,lr,lr,ls,ls,ls,ls,ls,ls,ls,lr,lr] [[],[0],[1],[2],[3],[],[5],[6],[7],[4,8],[9],[],[11],[],[13],[12,14],[15],[16],[10,17],[18]] [13,14,15,16,17,18,19,20,21,22,23,24,25,26,27,28,29,30,31,2] [(4,true),(10,false)] [11,12,13,14,15,16,17] ?_ ?_
 ·
   refine p01 e1_1 ?_; refine ag f1'_1 ?_; refine aa rfl rfl (ac rfl rfl fun hC h1=>ti (isNone_z (rr h1) hz)) ?_; refine p10 ?_; refine p10 ?_; refine p01 e1_1 ?_; refine p10 ?_; refine au (s:=true) f1'_1 hs ?_; refine p10 ?_; refine p20 ?_; refine p10 ?_; refine am rfl ?_; refine am rfl ?_; refine am rfl ?_; refine am rfl ?_; refine am rfl ?_; refine am rfl ?_; refine am rfl ?_; refine p20 ?_; refine p10 ?_; exact ae rfl
 intro W x a1 hC hall ha hN1 hD1 bb1
 have e1:=ln ha hall 2 19
 repeat first | apply lw | apply lx
 refine wp_ret ?_
 repeat (refine then_r ?_)
 exact bc (t:=2) rfl hD1 e1 ⟨rfl,bb1⟩
theorem right_gcd_9 {w : World} {v1 : Value} {zx zy : Int} (hz : zy ≠ 0) (hs : decide (zy < 0) = false) (hg : 1 < ((zgcd [(zx),(zy)] : Nat) : Int)) (h1 : Pr w v1 9 (zx) (zy)) :
   Calls Tryz.prog 16 #[v1] w (fun e w'=>e = .returned (.bool false) ∧ Below w.heap.size w w'):=by
 obtain ⟨y1,z1,y1',z1',rfl,H1⟩:=h1.op
 go_enter Tryz.func16,Tryz.ntmps16
 repeat apply wp_seq
 refine mf fun K HK=>?_
 go_wp2
 refine HK.out _ _ (then_n ?_)
 refine mb (G:=fun W=>Code.wp _ _ _ _ W) ?_
 intro W_0 bb_0 K0
 obtain ⟨f1_0,f1'_0⟩:=H1.out _ _ _ bb_0 K0
 clear K0
 refine ly (G:=fun a=>Code.wp _ _ _ a _) 32 ?_
 intro a_0 ha hN_0 hD_0
 have e1_0:=lu ha 1 w.heap.size
 repeat first | apply lw | apply lx
 refine lm bb_0 [lp w.heap.size 0,kZ 9 (zx),lq,lr,lr,lp w.heap.size 2,kZ 9 (zy),lq,lr,lr] [[],[0],[1],[2],[3],[],[5],[6],[7],[4,8]] [3,4,5,6,7,8,9,10,11,12] [(4,false)] [] ?_ ?_
 ·
   refine p01 e1_0 ?_; refine ag f1_0 ?_; refine aa rfl rfl (ac rfl rfl fun hC h1=>ti (z_right (rr h1))) ?_; refine p10 ?_; refine p10 ?_; refine p01 e1_0 ?_; refine ag f1'_0 ?_; refine aa rfl rfl (ac rfl rfl fun hC h1=>ti (z_right (rr h1))) ?_; refine p10 ?_; refine p20 ?_; exact ae rfl
 intro W_1 x a_1 hC hall ha hN_1 hD_1 bb_1
 have e1_1:=ab ha e1_0
 have f1_1:=hC.at0 f1_0
 have f1'_1:=hC.at0 f1'_0
 have e12_1:=ln ha hall 12 9
 repeat first | apply lw | apply lx
 refine wp_cond_false e12_1 ?_
 repeat first | apply lw | apply lx
 refine lm bb_1 [lp w.heap.size 2,kZ 9 (zy),lr,lq,lq,lp w.heap.size 2,lp w.heap.size 2,lr,lq,lq,lq,lp w.heap.size 0,kZ 9 (zx),lp w.heap.size 2,kZ 9 (zy),kZs [(9,(zx)),(9,(zy))],kZ 9 (((zgcd [(zx),(zy)] : Nat) : Int)),lr,lr,lr] [[],[0],[1],[2],[3],[],[5],[6],[7],[4,8],[9],[],[11],[],[13],[12,14],[15],[16],[10,17],[18]] [13,14,15,16,17,18,19,20,21,22,23,24,25,26,27,28,29,30,31,2] [(4,true),(10,true)] [] ?_ ?_
 ·
   refine p01 e1_1 ?_; refine ag f1'_1 ?_; refine aa rfl rfl (ac rfl rfl fun hC h1=>ti (isNone_z (rr h1) hz)) ?_; refine p10 ?_; refine p10 ?_; refine p01 e1_1 ?_; refine p10 ?_; refine au (s:=false) f1'_1 hs ?_; refine p10 ?_; refine p20 ?_; refine p10 ?_; refine p01 e1_1 ?_; refine ag f1_1 ?_; refine p01 e1_1 ?_; refine ag f1'_1 ?_; refine aa rfl rfl (ed asR asR rfl) ?_; refine aa rfl rfl (ac rfl rfl fun hC h1=>tz (l_gcd 9 (lz h1) (by kernel_rfl) (by decide) (by simp))) ?_; refine aa rfl rfl (ac rfl rfl fun hC h1=>ti (isOne_z0 hg ((rr h1).mono (by decide)))) ?_; refine p20 ?_; refine p10 ?_; exact ae rfl
 intro W x a1 hC hall ha hN1 hD1 bb1
 have e1:=ln ha hall 2 19
 repeat first | apply lw | apply lx
 refine wp_ret ?_
 repeat (refine then_r ?_)
 exact bc (t:=2) rfl hD1 e1 ⟨rfl,bb1⟩
theorem right_no_9 {w : World} {v1 : Value} {zx zy : Int} (hno : ¬ (0 < zy ∧ ((zgcd [(zx),(zy)] : Nat) : Int) = 1)) (h1 : Pr w v1 9 (zx) (zy)) : Calls Tryz.prog 16 #[v1] w (fun e w'=>e = .returned (.bool false) ∧ Below w.heap.size w w'):=by
 rcases Int.lt_trichotomy zy 0 with h | h | h
 · exact right_neg_9 (Int.ne_of_lt h) (decide_eq_true h) h1
 · exact right_none_9 h h1
 · refine right_gcd_9 (Int.ne_of_gt h) (decide_eq_false (by omega)) ?_ h1; have:=kg h (x:=zx); have hn : ((zgcd [(zx),(zy)] : Nat) : Int) ≠ 1:=fun e=>hno ⟨h,e⟩; omega
theorem right_none_19 {w : World} {v1 : Value} {zx zy : Int} (hz : zy = 0) (h1 : Pr w v1 19 (zx) (zy)) :
   Calls Tryz.prog 16 #[v1] w (fun e w'=>e = .returned (.bool false) ∧ Below w.heap.size w w'):=by
 obtain ⟨y1,z1,y1',z1',rfl,H1⟩:=h1.op
 go_enter Tryz.func16,Tryz.ntmps16
 repeat apply wp_seq
 refine mf fun K HK=>?_
 go_wp2
 refine HK.out _ _ (then_n ?_)
 refine mb (G:=fun W=>Code.wp _ _ _ _ W) ?_
 intro W_0 bb_0 K0
 obtain ⟨f1_0,f1'_0⟩:=H1.out _ _ _ bb_0 K0
 clear K0
 refine ly (G:=fun a=>Code.wp _ _ _ a _) 32 ?_
 intro a_0 ha hN_0 hD_0
 have e1_0:=lu ha 1 w.heap.size
 repeat first | apply lw | apply lx
 refine lm bb_0 [lp w.heap.size 0,kZ 19 (zx),lq,lr,lr,lp w.heap.size 2,kZ 19 (zy),lq,lr,lr] [[],[0],[1],[2],[3],[],[5],[6],[7],[4,8]] [3,4,5,6,7,8,9,10,11,12] [(4,false)] [] ?_ ?_
 ·
   refine p01 e1_0 ?_; refine ag f1_0 ?_; refine aa rfl rfl (ac rfl rfl fun hC h1=>ti (z_right (rr h1))) ?_; refine p10 ?_; refine p10 ?_; refine p01 e1_0 ?_; refine ag f1'_0 ?_; refine aa rfl rfl (ac rfl rfl fun hC h1=>ti (z_right (rr h1))) ?_; refine p10 ?_; refine p20 ?_; exact ae rfl
 intro W_1 x a_1 hC hall ha hN_1 hD_1 bb_1
 have e1_1:=ab ha e1_0
 have f1'_1:=hC.at0 f1'_0
 have e12_1:=ln ha hall 12 9
 repeat first | apply lw | apply lx
 refine wp_cond_false e12_1 ?_
 repeat first | apply lw | apply lx
 refine lm bb_1 [lp w.heap.size 2,kZ 19 (zy),lq,lr,lr,ls,ls,ls,ls,lr,lr,ls,ls,ls,ls,ls,ls,ls,lr,lr] [[],[0],[1],[2],[3],[],[5],[6],[7],[4,8],[9],[],[11],[],[13],[12,14],[15],[16],[10,17],[18]] [13,14,15,16,17,18,19,20,21,22,23,24,25,26,27,28,29,30,31,2] [(4,false),(10,false)] [5,6,7,8,11,12,13,14,15,16,17] ?_ ?_
 ·
   refine p01 e1_1 ?_; refine ag f1'_1 ?_; refine aa rfl rfl (ac rfl rfl fun hC h1=>ti (isNone_zero (rr h1) hz)) ?_; refine p10 ?_; refine p10 ?_; refine am rfl ?_; refine am rfl ?_; refine am rfl ?_; refine am rfl ?_; refine p20 ?_; refine p10 ?_; refine am rfl ?_; refine am rfl ?_; refine am rfl ?_; refine am rfl ?_; refine am rfl ?_; refine am rfl ?_; refine am rfl ?_; refine p20 ?_; refine p10 ?_; exact ae rfl
 intro W x a1 hC hall ha hN1 hD1 bb1
 have e1:=ln ha hall 2 19
 repeat first | apply lw | apply lx
 refine wp_ret ?_
 repeat (refine then_r ?_)
 exact bc (t:=2) rfl hD1 e1 ⟨rfl,bb1⟩
theorem right_neg_19 {w : World} {v1 : Value} {zx zy : Int} (hz : zy ≠ 0) (hs : decide (zy < 0) = true) (h1 : Pr w v1 19 (zx) (zy)) :
   Calls Tryz.prog 16 #[v1] w (fun e w'=>e = .returned (.bool false) ∧ Below w.heap.size w w'):=by
 obtain ⟨y1,z1,y1',z1',rfl,H1⟩:=h1.op
 go_enter Tryz.func16,Tryz.ntmps16
 repeat apply wp_seq
 refine mf fun K HK=>?_
 go_wp2
 refine HK.out _ _ (then_n ?_)
 refine mb (G:=fun W=>Code.wp _ _ _ _ W) ?_
 intro W_0 bb_0 K0
 obtain ⟨f1_0,f1'_0⟩:=H1.out _ _ _ bb_0 K0
 clear K0
 refine ly (G:=fun a=>Code.wp _ _ _ a _) 32 ?_
 intro a_0 ha hN_0 hD_0
 have e1_0:=lu ha 1 w.heap.size
 repeat first | apply lw | apply lx
 refine lm bb_0 [lp w.heap.size 0,kZ 19 (zx),lq,lr,lr,lp w.heap.size 2,kZ 19 (zy),lq,lr,lr] [[],[0],[1],[2],[3],[],[5],[6],[7],[4,8]] [3,4,5,6,7,8,9,10,11,12] [(4,false)] [] ?_ ?_
 ·
   refine p01 e1_0 ?_; refine ag f1_0 ?_; refine aa rfl rfl (ac rfl rfl fun hC h1=>ti (z_right (rr h1))) ?_; refine p10 ?_; refine p10 ?_; refine p01 e1_0 ?_; refine ag f1'_0 ?_; refine aa rfl rfl (ac rfl rfl fun hC h1=>ti (z_right (rr h1))) ?_; refine p10 ?_; refine p20 ?_; exact ae rfl
 intro W_1 x a_1 hC hall ha hN_1 hD_1 bb_1
 have e1_1:=ab ha e1_0
 have f1'_1:=hC.at0 f1'_0
 have e12_1:=ln ha hall 12 9
 repeat first | apply lw | apply lx
 refine wp_cond_false e12_1 ?_
 repeat first | apply lw | apply lx
 refine lm bb_1 [lp w.heap.size 2,kZ 19 (zy),lr,lq,lq,lp w.heap.size 2,lp w.heap.size 2,lq,lr,lr,lr,ls,ls,ls,ls,ls,ls,ls,lr,lr] [[],[0],[1],[2],[3],[],[5],[6],[7],[4,8],[9],[],[11],[],[13],[12,14],[15],[16],[10,17],[18]] [13,14,15,16,17,18,19,20,21,22,23,24,25,26,27,28,29,30,31,2] [(4,true),(10,false)] [11,12,13,14,15,16,17] ?_ ?_
 ·
   refine p01 e1_1 ?_; refine ag f1'_1 ?_; refine aa rfl rfl (ac rfl rfl fun hC h1=>ti (isNone_z (rr h1) hz)) ?_; refine p10 ?_; refine p10 ?_; refine p01 e1_1 ?_; refine p10 ?_; refine au (s:=true) f1'_1 hs ?_; refine p10 ?_; refine p20 ?_; refine p10 ?_; refine am rfl ?_; refine am rfl ?_; refine am rfl ?_; refine am rfl ?_; refine am rfl ?_; refine am rfl ?_; refine am rfl ?_; refine p20 ?_; refine p10 ?_; exact ae rfl
 intro W x a1 hC hall ha hN1 hD1 bb1
 have e1:=ln ha hall 2 19
 repeat first | apply lw | apply lx
 refine wp_ret ?_
 repeat (refine then_r ?_)
 exact bc (t:=2) rfl hD1 e1 ⟨rfl,bb1⟩
theorem right_gcd_19 {w : World} {v1 : Value} {zx zy : Int} (hz : zy ≠ 0) (hs : decide (zy < 0) = false) (hg : 1 < ((zgcd [(zx),(zy)] : Nat) : Int)) (h1 : Pr w v1 19 (zx) (zy)) :
   Calls Tryz.prog 16 #[v1] w (fun e w'=>e = .returned (.bool false) ∧ Below w.heap.size w w'):=by
 obtain ⟨y1,z1,y1',z1',rfl,H1⟩:=h1.op
 go_enter Tryz.func16,Tryz.ntmps16
 repeat apply wp_seq
 refine mf fun K HK=>?_
 go_wp2
 refine HK.out _ _ (then_n ?_)
 refine mb (G:=fun W=>Code.wp _ _ _ _ W) ?_
 intro W_0 bb_0 K0
 obtain ⟨f1_0,f1'_0⟩:=H1.out _ _ _ bb_0 K0
 clear K0
 refine ly (G:=fun a=>Code.wp _ _ _ a _) 32 ?_
 intro a_0 ha hN_0 hD_0
 have e1_0:=lu ha 1 w.heap.size
 repeat first | apply lw | apply lx
 refine lm bb_0 [lp w.heap.size 0,kZ 19 (zx),lq,lr,lr,lp w.heap.size 2,kZ 19 (zy),lq,lr,lr] [[],[0],[1],[2],[3],[],[5],[6],[7],[4,8]] [3,4,5,6,7,8,9,10,11,12] [(4,false)] [] ?_ ?_
 ·
   refine p01 e1_0 ?_; refine ag f1_0 ?_; refine aa rfl rfl (ac rfl rfl fun hC h1=>ti (z_right (rr h1))) ?_; refine p10 ?_; refine p10 ?_; refine p01 e1_0 ?_; refine ag f1'_0 ?_; refine aa rfl rfl (ac rfl rfl fun hC h1=>ti (z_right (rr h1))) ?_; refine p10 ?_; refine p20 ?_; exact ae rfl
 intro W_1 x a_1 hC hall ha hN_1 hD_1 bb_1
 have e1_1:=ab ha e1_0
 have f1_1:=hC.at0 f1_0
 have f1'_1:=hC.at0 f1'_0
 have e12_1:=ln ha hall 12 9
 repeat first | apply lw | apply lx
 refine wp_cond_false e12_1 ?_
 repeat first | apply lw | apply lx
 refine lm bb_1 [lp w.heap.size 2,kZ 19 (zy),lr,lq,lq,lp w.heap.size 2,lp w.heap.size 2,lr,lq,lq,lq,lp w.heap.size 0,kZ 19 (zx),lp w.heap.size 2,kZ 19 (zy),kZs [(19,(zx)),(19,(zy))],kZ 19 (((zgcd [(zx),(zy)] : Nat) : Int)),lr,lr,lr] [[],[0],[1],[2],[3],[],[5],[6],[7],[4,8],[9],[],[11],[],[13],[12,14],[15],[16],[10,17],[18]] [13,14,15,16,17,18,19,20,21,22,23,24,25,26,27,28,29,30,31,2] [(4,true),(10,true)] [] ?_ ?_
 ·
   refine p01 e1_1 ?_; refine ag f1'_1 ?_; refine aa rfl rfl (ac rfl rfl fun hC h1=>ti (isNone_z (rr h1) hz)) ?_; refine p10 ?_; refine p10 ?_; refine p01 e1_1 ?_; refine p10 ?_; refine au (s:=false) f1'_1 hs ?_; refine p10 ?_; refine p20 ?_; refine p10 ?_; refine p01 e1_1 ?_; refine ag f1_1 ?_; refine p01 e1_1 ?_; refine ag f1'_1 ?_; refine aa rfl rfl (ed asR asR rfl) ?_; refine aa rfl rfl (ac rfl rfl fun hC h1=>tz (l_gcd 19 (lz h1) (by kernel_rfl) (by decide) (by simp))) ?_; refine aa rfl rfl (ac rfl rfl fun hC h1=>ti (isOne_z0 hg ((rr h1).mono (by decide)))) ?_; refine p20 ?_; refine p10 ?_; exact ae rfl
 intro W x a1 hC hall ha hN1 hD1 bb1
 have e1:=ln ha hall 2 19
 repeat first | apply lw | apply lx
 refine wp_ret ?_
 repeat (refine then_r ?_)
 exact bc (t:=2) rfl hD1 e1 ⟨rfl,bb1⟩
theorem right_no_19 {w : World} {v1 : Value} {zx zy : Int} (hno : ¬ (0 < zy ∧ ((zgcd [(zx),(zy)] : Nat) : Int) = 1)) (h1 : Pr w v1 19 (zx) (zy)) : Calls Tryz.prog 16 #[v1] w (fun e w'=>e = .returned (.bool false) ∧ Below w.heap.size w w'):=by
 rcases Int.lt_trichotomy zy 0 with h | h | h
 · exact right_neg_19 (Int.ne_of_lt h) (decide_eq_true h) h1
 · exact right_none_19 h h1
 · refine right_gcd_19 (Int.ne_of_gt h) (decide_eq_false (by omega)) ?_ h1; have:=kg h (x:=zx); have hn : ((zgcd [(zx),(zy)] : Nat) : Int) ≠ 1:=fun e=>hno ⟨h,e⟩; omega
theorem of_no_19 {w : World} {v1 : Value} {zx zy : Int} (hno : ¬ (0 < zy ∧ ((zgcd [(zx),(zy)] : Nat) : Int) = 1)) (h1 : Pr w v1 19 (zx) (zy)) :
   Calls Tryz.prog 43 #[v1] w (TellsP w 9 (0) (1)):=by
 obtain ⟨y1,z1,y1',z1',rfl,H1⟩:=h1.op
 go_enter Tryz.func43,Tryz.ntmps43
 repeat apply wp_seq
 refine mf fun K HK=>?_
 go_wp2
 refine HK.out _ _ (then_n ?_)
 refine mc (G:=fun W=>Code.wp _ _ _ _ W) ?_
 intro W_0 bb_0 K0 K1
 obtain ⟨f1_0,f1'_0⟩:=H1.out _ _ _ bb_0 K0
 have R_0:=ge K1
 clear K0 K1
 refine ly (G:=fun a=>Code.wp _ _ _ a _) 17 ?_
 intro a_0 ha hN_0 hD_0
 have e1_0:=lu ha 1 w.heap.size
 have e2_0:=lu ha 2 (w.heap.size + 1)
 repeat first | apply lw | apply lx
 refine lm bb_0 [kP 19 (zx) (zy),lr,lq] [[],[0],[1]] [3,4,5] [] [] ?_ ?_
 ·
   refine aa rfl rfl (aw f1_0 f1'_0 e1_0 rfl) ?_; refine aa rfl rfl (ac rfl rfl fun hC h1=>ti (right_no_19 hno (pm h1))) ?_; refine p10 ?_; exact ae rfl
 intro W_1 x a_1 hC hall ha hN_1 hD_1 bb_1
 have e2_1:=ab ha e2_0
 have R_1:=hC.holds R_0
 have e5_1:=ln ha hall 5 2
 repeat first | apply lw | apply lx
 refine wp_cond_true e5_1 ?_
 repeat first | apply lw | apply lx
 refine mg bb_1 R_1 [kP 9 (0) (1),kRes (w.heap.size + 1) 9 (0) (1)] [[],[0]] [6,999] [] [] ?_ ?_
 ·
   refine aa rfl rfl (aq [] rfl rfl fun hC=>tp jw) ?_; refine aa rfl rfl (gi R_1 rfl e2_1 rfl rfl) ?_; exact ae rfl
 intro W x a1 hC hall ha hN1 hD1 bb1
 obtain ⟨cs,hg,hP⟩:=me hall 1
 have e1:=ab (t:=2) ha e2_1
 repeat first | apply lw | apply lx
 refine wp_ret ?_
 repeat (refine then_r ?_)
 exact ea (t:=2) rfl hD1 e1 hg hP fun v hv=>⟨v,rfl,hv,bb1⟩
theorem Text_no_19 {w : World} {v1 : Value} {zx zy : Int} (hno : ¬ (0 < zy ∧ ((zgcd [(zx),(zy)] : Nat) : Int) = 1)) (HT : Hid (Tab w ∧ 2 ≤ w.heap.size)) (h1 : Pr w v1 19 (zx) (zy)) :
   Calls Tryz.prog 24 #[v1] w (fun e w'=>e = .returned (.string (ztext ((0 : Rat).num))) ∧ Below w.heap.size w w'):=by
 obtain ⟨y1,z1,y1',z1',rfl,H1⟩:=h1.op
 go_enter Tryz.func24,Tryz.ntmps24
 repeat apply wp_seq
 refine mf fun K HK=>?_
 go_wp2
 refine HK.out _ _ (then_n ?_)
 refine mb (G:=fun W=>Code.wp _ _ _ _ W) ?_
 intro W_0 bb_0 K0
 obtain ⟨f1_0,f1'_0⟩:=H1.out _ _ _ bb_0 K0
 clear K0
 refine ly (G:=fun a=>Code.wp _ _ _ a _) 6 ?_
 intro a_0 ha hN_0 hD_0
 have e1_0:=lu ha 1 w.heap.size
 repeat first | apply lw | apply lx
 refine lm bb_0 [kP 19 (zx) (zy),kP 9 (0) (1),kIs (.string (ztext ((0 : Rat).num))),kIs (.string (ztext ((0 : Rat).num)))] [[],[0],[1],[2]] [3,4,5,2] [] [] ?_ ?_
 ·
   refine aa rfl rfl (aw f1_0 f1'_0 e1_0 rfl) ?_; refine aa rfl rfl (ac rfl rfl fun hC h1=>tp (of_no_19 hno (pm h1))) ?_; refine aa rfl rfl (ac rfl rfl fun hC h1=>ti (decimal_9w (a:=(0 : Rat)) (Lib.hid ⟨HT.out.1.below (bb_0.trans hC.below) HT.out.2,Nat.le_trans HT.out.2 (bb_0.trans hC.below).size⟩) rfl (pe0 h1))) ?_; refine p10 ?_; exact ae rfl
 intro W x a1 hC hall ha hN1 hD1 bb1
 have e1:=ln ha hall 2 3
 repeat first | apply lw | apply lx
 refine wp_ret ?_
 repeat (refine then_r ?_)
 exact bc (t:=2) rfl hD1 e1 ⟨rfl,bb1⟩
theorem je {w : World} {A : Option Addr} {c : Nat} {xs : List Nat} {b : Bool} (hr : Row w A (u32s xs)) (hd : small 4294967296 xs) (hl : xs.length ≤ 1000) (h : ¬ (right xs ∧ (xs = [] → b = false))) :
   Calls Tryz.prog 50 #[.agg #[.bool b,.slice A xs.length c]] w fun e w'=>e = .returned (.bool false) ∧ Below w.heap.size w w':=by
 have hR:=fun (W : World) (hW : Below w.heap.size w W)=>right_any (c:=c) (hr.below hW) hd (by omega)
 have HR:=Lib.hid hR
 clear hR hr hd hl
 by_cases h1 : right xs
 · have h2 : xs = [] ∧ b = true:=by
     refine Classical.byContradiction fun h3=>h ⟨h1,fun h4=>?_⟩
     cases b with
     | false=>rfl
     | true=>exact absurd ⟨h4,rfl⟩ h3
   obtain ⟨rfl,rfl⟩:=h2; have H1:=Lib.hid h1; clear h h1
   go_enter Tryz.func50,Tryz.ntmps50
   go_wp2_with fail
   refine (HR.out _ (bal (Below.refl _ _) _)).mono ?_; rintro e w1 ⟨he,rfl⟩
   obtain rfl : e = .returned (.bool true):=by
     rcases he with ⟨_,he⟩ | ⟨hn,_⟩
     · exact he
     · exact absurd H1.out hn
   clear he
   go_wp2
   go_ret
   exact ⟨rfl,bal (Below.refl _ _) _⟩
 · have H1:=Lib.hid h1; clear h h1
   go_enter Tryz.func50,Tryz.ntmps50
   go_wp2_with fail
   refine (HR.out _ (bal (Below.refl _ _) _)).mono ?_; rintro e w1 ⟨he,rfl⟩
   obtain rfl : e = .returned (.bool false):=by
     rcases he with ⟨hn,_⟩ | ⟨_,he⟩
     · exact absurd hn H1.out
     · exact he
   clear he
   go_wp2
   go_ret
   exact ⟨rfl,bal (Below.refl _ _) _⟩
def SaysB (w : World) (b : Bool) (e : Ending) (w' : World) : Prop:=e = .returned (.bool b) ∧ Below w.heap.size w w'
theorem rRight_no1 {w : World} {b1 b2 : Bool} {A1 A2 : Option Addr} {l1 c1 l2 c2 : Nat} (h : ∀ W,Below w.heap.size w W → Calls Tryz.prog 50 #[.agg #[.bool b1,.slice A1 l1 c1]] W (SaysB W false)) :
   Calls Tryz.prog 16 #[.agg #[.bool b1,.slice A1 l1 c1,.bool b2,.slice A2 l2 c2]] w (SaysB w false):=by
 have H:=Lib.hid h
 clear h
 go_enter Tryz.func16,Tryz.ntmps16
 go_wp2_with fail
 refine (H.out _ (bal (Below.refl _ _) _)).mono ?_
 rintro e w1 ⟨rfl,hb⟩
 have hb':=bstep (bal (Below.refl w.heap.size w) _) hb
 clear hb
 go_wp2
 go_ret
 exact ⟨rfl,hb'⟩
theorem rRight_no2 {w : World} {b1 b2 : Bool} {A1 A2 : Option Addr} {l1 c1 l2 c2 : Nat} (h1 : ∀ W,Below w.heap.size w W → Calls Tryz.prog 50 #[.agg #[.bool b1,.slice A1 l1 c1]] W (SaysB W true)) (h2 : ∀ W,Below w.heap.size w W → Calls Tryz.prog 50 #[.agg #[.bool b2,.slice A2 l2 c2]] W (SaysB W false)) :
   Calls Tryz.prog 16 #[.agg #[.bool b1,.slice A1 l1 c1,.bool b2,.slice A2 l2 c2]] w (SaysB w false):=by
 have H1:=Lib.hid h1
 have H2:=Lib.hid h2
 clear h1 h2
 go_enter Tryz.func16,Tryz.ntmps16
 go_wp2_with fail
 refine (H1.out _ (bal (Below.refl _ _) _)).mono ?_
 rintro e w1 ⟨rfl,hb⟩
 have K1:=(hb.block w.heap.size (by simp)).trans (heap_alloc_new w _)
 obtain ⟨m1,m2,m3,m4,_,_,_,_⟩:=cp K1
 have hb':=bstep (bal (Below.refl w.heap.size w) _) hb
 have HB:=Lib.hid hb'
 clear hb hb' K1
 go_wp2_with fail
 refine (H2.out _ HB.out).mono ?_
 rintro e w2 ⟨rfl,hb⟩
 have hb':=bstep HB.out hb
 clear hb
 go_wp2
 go_ret
 exact ⟨rfl,hb'⟩
theorem rat_of {x y : Int} (h : 0 < y ∧ ((zgcd [(x),(y)] : Nat) : Int) = 1) : ∃ a : Rat,a.num = x ∧ (a.den : Int) = y:=by
 obtain ⟨h1,h2⟩:=h
 rw [lf] at h2
 have h3 : Nat.gcd y.natAbs x.natAbs = 1:=by
   have : Int.gcd y x = 1:=by omega
   exact this
 exact ⟨⟨x,y.natAbs,by omega,by unfold Nat.Coprime; rw [Nat.gcd_comm]; exact h3⟩,rfl,by show (y.natAbs : Int) = y; omega⟩
def LensP (W : World) (g : Nat) (l : List (Nat × Nat)) : Prop:=∀ j q,l[j]? = some q → (∃ A c,W.cell? ⟨g,j * 4 + 1,none⟩ = some (.slice A q.1 c)) ∧ ∃ A c,W.cell? ⟨g,j * 4 + 3,none⟩ = some (.slice A q.2 c)
theorem LensP.below {W w' : World} {g : Nat} {l : List (Nat × Nat)} (h : LensP W g l) (hb : Below W.heap.size W w') : LensP w' g l:=fun j q hj=>by
 obtain ⟨⟨A,c,h1⟩,A',c',h2⟩:=h j q hj
 exact ⟨⟨A,c,(hb.cell (cell_lt h1)).trans h1⟩,A',c',(hb.cell (cell_lt h2)).trans h2⟩
def kLensP (l : List (Nat × Nat)) : PK:=.list l.length (fun g w=>LensP w g l) (fun _ _ _ h hb=>h.below hb) (fun _ _ _ _ h hs hne j q hj=>by
 obtain ⟨⟨A,c,h1⟩,A',c',h2⟩:=h j q hj
 exact ⟨⟨A,c,(World.cell?_of_block (hs.other _ hne)).trans h1⟩,A',c',(World.cell?_of_block (hs.other _ hne)).trans h2⟩)
def fewP (l : List (Nat × Nat)) : Bool:=l.all fun q=>decide (q.1 ≤ 8) && decide (q.2 ≤ 8)
theorem few_any {w : World} {g0 c0 : Nat} {l : List (Nat × Nat)} (hL : LensP w g0 l) (hlen : l.length ≤ 6) :
   Calls Tryz.prog 7 #[.slice (some ⟨g0,0,none⟩) l.length c0] w fun e w'=>e = .returned (.bool (fewP l)) ∧ w' = w:=by
 have HL:=Lib.hid hL
 obtain ⟨n,hn⟩ : ∃ n,n = l.length:=⟨_,rfl⟩
 rw [← hn] at hlen ⊢
 have HN:=Lib.hid hn
 obtain ⟨r,hr⟩ : ∃ r,r = fewP l:=⟨_,rfl⟩
 rw [← hr]
 have HR:=Lib.hid hr
 clear hL hn hr
 go_enter Tryz.func7,Tryz.ntmps7
 go_wp2
 go_loop [3] (fun iv=>∃ (k : Nat),k ≤ n ∧ iv = .int .i64 (k : Int) ∧ Hid (fewP (l.take k) = true)) (fun iv=>n - (intOf iv).toNat)
 case atStart=>exact ⟨0,Nat.zero_le _,rfl,rfl⟩
 case round =>
   obtain ⟨k,hk,rfl,HS⟩:=hrel
   by_cases hlt : k < n
   · have hlt' : decide ((k : Int) < (n : Int)) = true:=decide_eq_true (by omega); have hkL : k < l.length:=by rw [← HN.out]; exact hlt
     obtain ⟨⟨p,q⟩,hpq⟩ : ∃ m,m = l[k]:=⟨_,rfl⟩
     obtain ⟨⟨A1,c1,h1⟩,A2,c2,h2⟩:=HL.out k (p,q) (by rw [List.getElem?_eq_getElem hkL,hpq]); have hmem : (p,q) ∈ l:=by rw [hpq]; exact List.getElem_mem hkL
     have htk : fewP (l.take (k + 1)) = (decide (p ≤ 8) && decide (q ≤ 8)):=by
       have hs : l.take (k + 1) = l.take k ++ [(p,q)]:=by rw [List.take_add_one,List.getElem?_eq_getElem hkL,← hpq]; rfl
       rw [hs]; unfold fewP; rw [List.all_append]; have:=HS.out; unfold fewP at this; rw [this]; simp
     have HT:=Lib.hid htk; have HM:=Lib.hid hmem; clear htk hmem hpq
     have no : ¬ (p ≤ 8 ∧ q ≤ 8) → r = false:=fun h=>by
       rw [HR.out]; unfold fewP; rw [List.all_eq_false]; exact ⟨_,HM.out,by simp; omega⟩
     by_cases hp : 8 < p
     · have er:=no (by omega); clear no HR; subst er; have hp1 : decide ((8 : Int) < (p : Int)) = true:=decide_eq_true (by omega)
       go_wp2
       go_ret
       exact ⟨rfl,rfl⟩
     · have hp1 : decide ((8 : Int) < (p : Int)) = false:=decide_eq_false (by omega)
       by_cases hq : 8 < q
       · have er:=no (by omega); clear no HR; subst er; have hq1 : decide ((8 : Int) < (q : Int)) = true:=decide_eq_true (by omega)
         go_wp2
         go_ret
         exact ⟨rfl,rfl⟩
       · have hq1 : decide ((8 : Int) < (q : Int)) = false:=decide_eq_false (by omega); have HPQ:=Lib.hid (show p ≤ 8 ∧ q ≤ 8 by omega); clear no hp hq
         go_wp2
         go_round
         case rel=>exact ⟨k + 1,by omega,by go_num,by
           show fewP (l.take (k + 1)) = true
           rw [HT.out,decide_eq_true HPQ.out.1,decide_eq_true HPQ.out.2]; rfl⟩
         case measure=>simp [intOf]; omega
   · have hk' : k = n:=by omega
     have er : r = true:=by
       rw [HR.out,← HS.out,hk',HN.out,List.take_length]
     clear HR hk'; subst er
     go_wp2
     go_ret
     have e1 : decide ((n : Int) ≤ (6 : Int)) = true:=decide_eq_true (by omega); exact ⟨by simp [e1],rfl⟩
theorem few_told {S0 : Nat} {x : Nat → Value} {w : World} {v : Value} {l : List (Nat × Nat)} {r : Bool} (h : (kLensP l).sem S0 x v w) (hlen : l.length ≤ 6) (hr : fewP l = r) : Calls Tryz.prog 7 #[v] w fun e w'=>e = .returned (.bool r) ∧ Below w.heap.size w w':=by
 obtain ⟨g,rfl,_,_,hL⟩:=h
 subst hr
 exact (few_any hL hlen).mono fun e w' ⟨h1,h2⟩=>⟨h1,h2 ▸ Below.refl _ _⟩
theorem ztext_list (z : Int) : (ztext z).data.toList = if z < 0 then 45 :: Lib.decDigits z.natAbs else Lib.decDigits z.natAbs:=by
 have tl : ∀ n,(dtext n).data.toList = Lib.decDigits n:=fun n=>by unfold dtext; simp
 unfold ztext ntext
 by_cases h : z < 0
 · rw [decide_eq_true h,if_pos rfl,if_pos h,← tl]; simp
 · rw [decide_eq_false h,if_neg (by decide),if_neg h,tl]
theorem dec_no47 (n : Nat) : (47 : UInt8) ∉ Lib.decDigits n:=fun h=>by
 have:=(decDigits_digs n 47 h).1
 exact absurd this (by decide)
theorem ztext_no47 (z : Int) : (47 : UInt8) ∉ (ztext z).data.toList:=by
 rw [ztext_list]
 split
 · intro h; rcases List.mem_cons.1 h with h | h
   · exact absurd h (by decide)
   · exact dec_no47 _ h
 · exact dec_no47 _
theorem index_no {l : List UInt8} {c : UInt8} (h : c ∉ l) : Lib.index l [c] = -1:=by
 induction l with
 | nil=>rfl
 | cons b l ih =>
   have hb : (c == b) = false:=beq_eq_false_iff_ne.2 fun e=>h (e ▸ List.mem_cons_self); have hp : List.isPrefixOf [c] (b :: l) = false:=by show ((c == b) && List.isPrefixOf [] l) = false; rw [hb]; rfl
   have:=ih fun h'=>h (List.mem_cons_of_mem _ h'); unfold Lib.index; rw [hp,this]; rfl
theorem index_at {l r : List UInt8} {c : UInt8} (h : c ∉ l) : Lib.index (l ++ c :: r) [c] = l.length:=by
 induction l with
 | nil =>
   show Lib.index (c :: r) [c] = _
   unfold Lib.index; simp
 | cons b l ih =>
   have hb : (c == b) = false:=beq_eq_false_iff_ne.2 fun e=>h (e ▸ List.mem_cons_self); have hp : List.isPrefixOf [c] (b :: (l ++ c :: r)) = false:=by show ((c == b) && List.isPrefixOf [] (l ++ c :: r)) = false; rw [hb]; rfl
   have:=ih fun h'=>h (List.mem_cons_of_mem _ h')
   show Lib.index (b :: (l ++ c :: r)) [c] = _
   unfold Lib.index; rw [hp,this]; have hn : (((l.length : Int)) == -1) = false:=beq_eq_false_iff_ne.2 (by omega); rw [hn]; simp
theorem cut_no {l : List UInt8} {c : UInt8} (h : c ∉ l) : Lib.cut l [c] = (l,[],false):=by
 unfold Lib.cut
 rw [index_no h,if_neg (by decide)]
theorem cut_at {l r : List UInt8} {c : UInt8} (h : c ∉ l) : Lib.cut (l ++ c :: r) [c] = (l,r,true):=by
 unfold Lib.cut
 rw [index_at h,if_pos (by omega)]
 simp
def textQ (a : Rat) : ByteArray:=if a.den = 1 then ztext a.num else (ztext a.num ++ ⟨#[47]⟩) ++ ztext (a.den : Int)
theorem gn {a : Rat} (h : a.den = 1) : textQ a = ztext a.num:=if_pos h
theorem ff {a : Rat} (h : a.den ≠ 1) : textQ a = (ztext a.num ++ ⟨#[47]⟩) ++ ztext (a.den : Int):=if_neg h
theorem more_list {x y : Int} : ((ztext x ++ ⟨#[47]⟩) ++ ztext y : ByteArray).data.toList = (ztext x).data.toList ++ 47 :: (ztext y).data.toList:=by simp
theorem cut_textQ2 {a : Rat} (h : a.den ≠ 1) : Lib.cut (textQ a).data.toList [47] = ((ztext a.num).data.toList,(ztext (a.den : Int)).data.toList,true):=by
 rw [ff h,more_list]; exact cut_at (ztext_no47 _)
end Go.Proofs.YtnbhihhjgpddcaaGreatDoor

/- Contracts of the answers of stage 2 over right numbers: Loops by any counter, in frames that are known by their slots: A region that stores into one old block: Contracts of the answers of stage 2 over any list of right numbers: The answers of stage 2: The answers of stage 3: -/
import Derived.Test.YtnbhihhjgpddcaaGreatDoorPR7
import Derived.Test.YtnbhihhjgpddcaaGreatDoorPR5
import Derived.Test.YtnbhihhjgpddcaaGreatDoorPR6
set_option maxRecDepth 100000
set_option maxHeartbeats 16000000
set_option linter.unusedVariables false
set_option linter.unusedSimpArgs false
namespace Go.Proofs.YtnbhihhjgpddcaaGreatDoor
open Go.RowKit
theorem two_lt {m n k : Nat} (h1 : m < 1000000000 ^ k) (h2 : n < 1000000000 ^ k) : m + n < 1000000000 ^ (k + 1):=by
 rw [Nat.pow_succ]; omega
theorem less_lt {m n k : Nat} (h1 : m < 1000000000 ^ k) : m - n < 1000000000 ^ k:=by omega
theorem r2_mkB {w : World} {S0 : Nat} {x : Nat → Value} {v1 v2 : Value} {z : Int} {b : Bool} {k : Nat} (h1 : (kIs (.bool b)).sem S0 x v1 w) (h2 : (kRow z).sem S0 x v2 w) (hn : z.natAbs < 1000000000 ^ k) (hk : k ≤ 1000) : Calls Tryz.prog 94 #[v1,v2] w (TellsZ w k (zOf z.natAbs b)):=by
 have e : v1 = .bool b:=h1
 subst e
 exact r2_mk b h2 hn hk
theorem r2_plus_nn {w : World} {v1 v2 : Value} {zx zy : Int} (hx : decide (zx < 0) = true) (hy : decide (zy < 0) = true) (h1 : Zr w v1 39 (zx)) (h2 : Zr w v2 39 (zy)) :
   Calls Tryz.prog 98 #[v1,v2] w (TellsZ w 40 (zOf (((((zx).natAbs + (zy).natAbs : Nat) : Int)).natAbs) true)):=by
 have U1:=Lib.hid h1.lt
 obtain ⟨y1,z1,rfl,H1⟩:=h1.op
 have U2:=Lib.hid h2.lt
 obtain ⟨y2,z2,rfl,H2⟩:=h2.op
 go_enter Tryz.func98,Tryz.ntmps98
 repeat apply wp_seq
 refine mf fun K HK=>?_
 go_wp2
 refine HK.out _ _ (then_n ?_)
 refine md (G:=fun W=>Code.wp _ _ _ _ W) ?_
 intro W_0 bb_0 K0 K1 K2
 have f1_0:=H1.out _ _ _ bb_0 K0
 have f2_0:=H2.out _ _ _ bb_0 K1
 have R_0:=ll K2
 clear K0 K1 K2
 refine ly (G:=fun a=>Code.wp _ _ _ a _) 46 ?_
 intro a_0 ha hN_0 hD_0
 have e2_0:=lu ha 2 w.heap.size
 have e3_0:=lu ha 3 (w.heap.size + 1)
 have e4_0:=lu ha 4 (w.heap.size + 1 + 1)
 repeat first | apply lw | apply lx
 refine lm bb_0 [lp w.heap.size 0,lq,lp (w.heap.size + 1) 0,lq,lq] [[],[0],[],[2],[1,3]] [7,8,9,10,11] [] [] ?_ ?_
 ·
   refine p01 e2_0 ?_; refine au (s:=true) f1_0 hx ?_; refine p01 e3_0 ?_; refine au (s:=true) f2_0 hy ?_; refine p20 ?_; exact ae rfl
 intro W_1 x a_1 hC hall ha hN_1 hD_1 bb_1
 have e2_1:=ab ha e2_0
 have e3_1:=ab ha e3_0
 have e4_1:=ab ha e4_0
 have f1_1:=hC.at0 f1_0
 have f2_1:=hC.at0 f2_0
 have R_1:=hC.holds R_0
 have e11_1:=ln ha hall 11 4
 repeat first | apply lw | apply lx
 refine wp_cond_true e11_1 ?_
 repeat first | apply lw | apply lx
 refine mg bb_1 R_1 [lp w.heap.size 0,lq,lp w.heap.size 1,kRow (zx),lp (w.heap.size + 1) 1,kRow (zy),kRR ((zx).natAbs) ((zy).natAbs),kRow ((((zx).natAbs + (zy).natAbs : Nat) : Int)),kZ 40 (zOf (((((zx).natAbs + (zy).natAbs : Nat) : Int)).natAbs) true),kResZ (w.heap.size + 1 + 1) 40 (zOf (((((zx).natAbs + (zy).natAbs : Nat) : Int)).natAbs) true)] [[],[0],[],[2],[],[4],[3,5],[6],[1,7],[8]] [12,13,14,15,16,17,18,19,20,999] [] [] ?_ ?_
 ·
   refine p01 e2_1 ?_; refine au (s:=true) (hG:=(by simp only [List.mem_singleton]; omega)) f1_1 hx ?_; refine p01 e2_1 ?_; refine aa rfl rfl (ax (hG:=(by simp only [List.mem_singleton]; omega)) f1_1 rfl rfl) ?_; refine p01 e3_1 ?_; refine aa rfl rfl (ax (hG:=(by simp only [List.mem_singleton]; omega)) f2_1 rfl rfl) ?_; refine aa rfl rfl (st_rows2 rfl rfl rfl) ?_; refine aa rfl rfl (ac rfl rfl fun hC h1=>tr rfl (r1_add (N:=40) h1 (two_lt U1.out U2.out) (by decide))) ?_; refine aa rfl rfl (ai rfl rfl rfl fun hC h1 h2=>tz (r2_mkB h1 h2 (two_lt U1.out U2.out) (by decide))) ?_; refine aa rfl rfl (ci R_1 e4_1 rfl rfl) ?_; exact ae rfl
 intro W x a1 hC hall ha hN1 hD1 bb1
 obtain ⟨cs,hg,hP⟩:=me hall 9
 have e1:=ab (t:=4) ha e4_1
 repeat first | apply lw | apply lx
 refine wp_ret ?_
 repeat (refine then_r ?_)
 exact co (t:=4) rfl hD1 e1 hg hP fun v hv=>⟨v,rfl,hv,bb1⟩
theorem r2_plus_np_ge {w : World} {v1 v2 : Value} {zx zy : Int} (hx : decide (zx < 0) = true) (hy : decide (zy < 0) = false) (hle : zy.natAbs ≤ zx.natAbs) (h1 : Zr w v1 39 (zx)) (h2 : Zr w v2 39 (zy)) :
   Calls Tryz.prog 98 #[v1,v2] w (TellsZ w 39 (zOf (((((zx).natAbs - (zy).natAbs : Nat) : Int)).natAbs) true)):=by
 have U1:=Lib.hid h1.lt
 obtain ⟨y1,z1,rfl,H1⟩:=h1.op
 have U2:=Lib.hid h2.lt
 obtain ⟨y2,z2,rfl,H2⟩:=h2.op
 go_enter Tryz.func98,Tryz.ntmps98
 repeat apply wp_seq
 refine mf fun K HK=>?_
 go_wp2
 refine HK.out _ _ (then_n ?_)
 refine md (G:=fun W=>Code.wp _ _ _ _ W) ?_
 intro W_0 bb_0 K0 K1 K2
 have f1_0:=H1.out _ _ _ bb_0 K0
 have f2_0:=H2.out _ _ _ bb_0 K1
 have R_0:=ll K2
 clear K0 K1 K2
 refine ly (G:=fun a=>Code.wp _ _ _ a _) 46 ?_
 intro a_0 ha hN_0 hD_0
 have e2_0:=lu ha 2 w.heap.size
 have e3_0:=lu ha 3 (w.heap.size + 1)
 have e4_0:=lu ha 4 (w.heap.size + 1 + 1)
 repeat first | apply lw | apply lx
 refine lm bb_0 [lp w.heap.size 0,lq,lp (w.heap.size + 1) 0,lr,lr] [[],[0],[],[2],[1,3]] [7,8,9,10,11] [] [] ?_ ?_
 ·
   refine p01 e2_0 ?_; refine au (s:=true) f1_0 hx ?_; refine p01 e3_0 ?_; refine au (s:=false) f2_0 hy ?_; refine p20 ?_; exact ae rfl
 intro W_1 x a_1 hC hall ha hN_1 hD_1 bb_1
 have e2_1:=ab ha e2_0
 have e3_1:=ab ha e3_0
 have e4_1:=ab ha e4_0
 have f1_1:=hC.at0 f1_0
 have f2_1:=hC.at0 f2_0
 have R_1:=hC.holds R_0
 have e11_1:=ln ha hall 11 4
 repeat first | apply lw | apply lx
 refine wp_cond_false e11_1 ?_
 repeat first | apply lw | apply lx
 refine lm bb_1 [lp w.heap.size 1,kRow (zx),lp (w.heap.size + 1) 1,kRow (zy),kRB ((((zx).natAbs - (zy).natAbs : Nat) : Int)) true,kRB ((((zx).natAbs - (zy).natAbs : Nat) : Int)) true,kRow ((((zx).natAbs - (zy).natAbs : Nat) : Int)),lq,kRow ((((zx).natAbs - (zy).natAbs : Nat) : Int)),lq] [[],[0],[],[2],[1,3],[4],[5],[5],[6],[7]] [22,23,24,25,26,21,27,28,5,6] [] [] ?_ ?_
 ·
   refine p01 e2_1 ?_; refine aa rfl rfl (ax f1_1 rfl rfl) ?_; refine p01 e3_1 ?_; refine aa rfl rfl (ax f2_1 rfl rfl) ?_; refine aa rfl rfl (ai rfl rfl rfl fun hC h1 h2=>r1_sub (N:=39) h1 h2 U1.out U2.out (by decide) rfl (decide_eq_true hle)) ?_; refine aa rfl rfl (bg rfl rfl) ?_; refine ap kh ?_; refine ap ki ?_; refine aa rfl rfl (fo rfl rfl) ?_; refine p10 ?_; exact ae rfl
 intro W_2 x a_2 hC hall ha hN_2 hD_2 bb_2
 have e2_2:=ab ha e2_1
 have e4_2:=ab ha e4_1
 have f1_2:=hC.at0 f1_1
 have R_2:=hC.holds R_1
 have e6_2:=ln ha hall 6 9
 obtain ⟨v5_2,hv⟩ : ∃ v,v = x 8:=⟨_,rfl⟩
 have e5_2:=(ak (t:=5) (i:=8) ha).trans hv.symm
 have z5_2 : Rr W_2 v5_2 ((((zx).natAbs - (zy).natAbs : Nat) : Int)).natAbs:=by rw [hv]; exact hall 8 (of_decide_eq_true (by kernel_rfl))
 clear hv
 repeat first | apply lw | apply lx
 refine lm bb_2 [lq] [[]] [29] [] [] ?_ ?_
 ·
   refine p01 e6_2 ?_; exact ae rfl
 intro W_3 x a_3 hC hall ha hN_3 hD_3 bb_3
 have e2_3:=ab ha e2_2
 have e4_3:=ab ha e4_2
 have e5_3:=ab ha e5_2
 have f1_3:=hC.at0 f1_2
 have R_3:=hC.holds R_2
 have z5_3:=hC.rr z5_2
 have e29_3:=ln ha hall 29 0
 repeat first | apply lw | apply lx
 refine wp_cond_true e29_3 ?_
 repeat first | apply lw | apply lx
 refine mg bb_3 R_3 [lp w.heap.size 0,lq,kRow ((((zx).natAbs - (zy).natAbs : Nat) : Int)),kZ 39 (zOf (((((zx).natAbs - (zy).natAbs : Nat) : Int)).natAbs) true),kResZ (w.heap.size + 1 + 1) 39 (zOf (((((zx).natAbs - (zy).natAbs : Nat) : Int)).natAbs) true)] [[],[0],[],[1,2],[3]] [30,31,32,33,999] [] [] ?_ ?_
 ·
   refine p01 e2_3 ?_; refine au (s:=true) (hG:=(by simp only [List.mem_singleton]; omega)) f1_3 hx ?_; refine aa rfl rfl (fg e5_3 z5_3 (fun w hC=>hC.rr z5_3) rfl) ?_; refine aa rfl rfl (ai rfl rfl rfl fun hC h1 h2=>tz (r2_mkB h1 h2 (less_lt U1.out) (by decide))) ?_; refine aa rfl rfl (ci R_3 e4_3 rfl rfl) ?_; exact ae rfl
 intro W x a1 hC hall ha hN1 hD1 bb1
 obtain ⟨cs,hg,hP⟩:=me hall 4
 have e1:=ab (t:=4) ha e4_3
 repeat first | apply lw | apply lx
 refine wp_ret ?_
 repeat (refine then_r ?_)
 exact co (t:=4) rfl hD1 e1 hg hP fun v hv=>⟨v,rfl,hv,bb1⟩
theorem r2_plus_np_lt {w : World} {v1 v2 : Value} {zx zy : Int} (hx : decide (zx < 0) = true) (hy : decide (zy < 0) = false) (hle : ¬ zy.natAbs ≤ zx.natAbs) (h1 : Zr w v1 39 (zx)) (h2 : Zr w v2 39 (zy)) :
   Calls Tryz.prog 98 #[v1,v2] w (TellsZ w 39 (zOf (((((zy).natAbs - (zx).natAbs : Nat) : Int)).natAbs) false)):=by
 have U1:=Lib.hid h1.lt
 obtain ⟨y1,z1,rfl,H1⟩:=h1.op
 have U2:=Lib.hid h2.lt
 obtain ⟨y2,z2,rfl,H2⟩:=h2.op
 go_enter Tryz.func98,Tryz.ntmps98
 repeat apply wp_seq
 refine mf fun K HK=>?_
 go_wp2
 refine HK.out _ _ (then_n ?_)
 refine md (G:=fun W=>Code.wp _ _ _ _ W) ?_
 intro W_0 bb_0 K0 K1 K2
 have f1_0:=H1.out _ _ _ bb_0 K0
 have f2_0:=H2.out _ _ _ bb_0 K1
 have R_0:=ll K2
 clear K0 K1 K2
 refine ly (G:=fun a=>Code.wp _ _ _ a _) 46 ?_
 intro a_0 ha hN_0 hD_0
 have e2_0:=lu ha 2 w.heap.size
 have e3_0:=lu ha 3 (w.heap.size + 1)
 have e4_0:=lu ha 4 (w.heap.size + 1 + 1)
 repeat first | apply lw | apply lx
 refine lm bb_0 [lp w.heap.size 0,lq,lp (w.heap.size + 1) 0,lr,lr] [[],[0],[],[2],[1,3]] [7,8,9,10,11] [] [] ?_ ?_
 ·
   refine p01 e2_0 ?_; refine au (s:=true) f1_0 hx ?_; refine p01 e3_0 ?_; refine au (s:=false) f2_0 hy ?_; refine p20 ?_; exact ae rfl
 intro W_1 x a_1 hC hall ha hN_1 hD_1 bb_1
 have e2_1:=ab ha e2_0
 have e3_1:=ab ha e3_0
 have e4_1:=ab ha e4_0
 have f1_1:=hC.at0 f1_0
 have f2_1:=hC.at0 f2_0
 have R_1:=hC.holds R_0
 have e11_1:=ln ha hall 11 4
 repeat first | apply lw | apply lx
 refine wp_cond_false e11_1 ?_
 repeat first | apply lw | apply lx
 refine lm bb_1 [lp w.heap.size 1,kRow (zx),lp (w.heap.size + 1) 1,kRow (zy),kRB ((((zx).natAbs - (zy).natAbs : Nat) : Int)) false,kRB ((((zx).natAbs - (zy).natAbs : Nat) : Int)) false,kRow ((((zx).natAbs - (zy).natAbs : Nat) : Int)),lr,kRow ((((zx).natAbs - (zy).natAbs : Nat) : Int)),lr] [[],[0],[],[2],[1,3],[4],[5],[5],[6],[7]] [22,23,24,25,26,21,27,28,5,6] [] [] ?_ ?_
 ·
   refine p01 e2_1 ?_; refine aa rfl rfl (ax f1_1 rfl rfl) ?_; refine p01 e3_1 ?_; refine aa rfl rfl (ax f2_1 rfl rfl) ?_; refine aa rfl rfl (ai rfl rfl rfl fun hC h1 h2=>r1_sub (N:=39) h1 h2 U1.out U2.out (by decide) rfl (decide_eq_false hle)) ?_; refine aa rfl rfl (bg rfl rfl) ?_; refine ap kh ?_; refine ap ki ?_; refine aa rfl rfl (fo rfl rfl) ?_; refine p10 ?_; exact ae rfl
 intro W_2 x a_2 hC hall ha hN_2 hD_2 bb_2
 have e2_2:=ab ha e2_1
 have e3_2:=ab ha e3_1
 have e4_2:=ab ha e4_1
 have f1_2:=hC.at0 f1_1
 have f2_2:=hC.at0 f2_1
 have R_2:=hC.holds R_1
 have e6_2:=ln ha hall 6 9
 obtain ⟨v5_2,hv⟩ : ∃ v,v = x 8:=⟨_,rfl⟩
 have e5_2:=(ak (t:=5) (i:=8) ha).trans hv.symm
 have z5_2 : Rr W_2 v5_2 ((((zx).natAbs - (zy).natAbs : Nat) : Int)).natAbs:=by rw [hv]; exact hall 8 (of_decide_eq_true (by kernel_rfl))
 clear hv
 repeat first | apply lw | apply lx
 refine lm bb_2 [lr] [[]] [29] [] [] ?_ ?_
 ·
   refine p01 e6_2 ?_; exact ae rfl
 intro W_3 x a_3 hC hall ha hN_3 hD_3 bb_3
 have e2_3:=ab ha e2_2
 have e3_3:=ab ha e3_2
 have e4_3:=ab ha e4_2
 have f1_3:=hC.at0 f1_2
 have f2_3:=hC.at0 f2_2
 have R_3:=hC.holds R_2
 have e29_3:=ln ha hall 29 0
 repeat first | apply lw | apply lx
 refine wp_cond_false e29_3 ?_
 repeat first | apply lw | apply lx
 refine lm bb_3 [lp (w.heap.size + 1) 1,kRow (zy),lp w.heap.size 1,kRow (zx),kRB ((((zy).natAbs - (zx).natAbs : Nat) : Int)) true,kRB ((((zy).natAbs - (zx).natAbs : Nat) : Int)) true,kRow ((((zy).natAbs - (zx).natAbs : Nat) : Int)),lq,kRow ((((zy).natAbs - (zx).natAbs : Nat) : Int))] [[],[0],[],[2],[1,3],[4],[5],[5],[6]] [35,36,37,38,39,34,40,41,5] [] [] ?_ ?_
 ·
   refine p01 e3_3 ?_; refine aa rfl rfl (ax f2_3 rfl rfl) ?_; refine p01 e2_3 ?_; refine aa rfl rfl (ax f1_3 rfl rfl) ?_; refine aa rfl rfl (ai rfl rfl rfl fun hC h1 h2=>r1_sub (N:=39) h1 h2 U2.out U1.out (by decide) rfl (decide_eq_true (by omega))) ?_; refine aa rfl rfl (bg rfl rfl) ?_; refine ap kh ?_; refine ap ki ?_; refine aa rfl rfl (fo rfl rfl) ?_; exact ae rfl
 intro W_4 x a_4 hC hall ha hN_4 hD_4 bb_4
 have e3_4:=ab ha e3_3
 have e4_4:=ab ha e4_3
 have f2_4:=hC.at0 f2_3
 have R_4:=hC.holds R_3
 obtain ⟨v5_4,hv⟩ : ∃ v,v = x 8:=⟨_,rfl⟩
 have e5_4:=(ak (t:=5) (i:=8) ha).trans hv.symm
 have z5_4 : Rr W_4 v5_4 ((((zy).natAbs - (zx).natAbs : Nat) : Int)).natAbs:=by rw [hv]; exact hall 8 (of_decide_eq_true (by kernel_rfl))
 clear hv
 repeat first | apply lw | apply lx
 refine mg bb_4 R_4 [lp (w.heap.size + 1) 0,lr,kRow ((((zy).natAbs - (zx).natAbs : Nat) : Int)),kZ 39 (zOf (((((zy).natAbs - (zx).natAbs : Nat) : Int)).natAbs) false),kResZ (w.heap.size + 1 + 1) 39 (zOf (((((zy).natAbs - (zx).natAbs : Nat) : Int)).natAbs) false)] [[],[0],[],[1,2],[3]] [42,43,44,45,999] [] [] ?_ ?_
 ·
   refine p01 e3_4 ?_; refine au (s:=false) (hG:=(by simp only [List.mem_singleton]; omega)) f2_4 hy ?_; refine aa rfl rfl (fg e5_4 z5_4 (fun w hC=>hC.rr z5_4) rfl) ?_; refine aa rfl rfl (ai rfl rfl rfl fun hC h1 h2=>tz (r2_mkB h1 h2 (less_lt U2.out) (by decide))) ?_; refine aa rfl rfl (ci R_4 e4_4 rfl rfl) ?_; exact ae rfl
 intro W x a1 hC hall ha hN1 hD1 bb1
 obtain ⟨cs,hg,hP⟩:=me hall 4
 have e1:=ab (t:=4) ha e4_4
 repeat first | apply lw | apply lx
 refine wp_ret ?_
 repeat (refine then_r ?_)
 exact co (t:=4) rfl hD1 e1 hg hP fun v hv=>⟨v,rfl,hv,bb1⟩
theorem r2_plus_pn_ge {w : World} {v1 v2 : Value} {zx zy : Int} (hx : decide (zx < 0) = false) (hy : decide (zy < 0) = true) (hle : zy.natAbs ≤ zx.natAbs) (h1 : Zr w v1 39 (zx)) (h2 : Zr w v2 39 (zy)) :
   Calls Tryz.prog 98 #[v1,v2] w (TellsZ w 39 (zOf (((((zx).natAbs - (zy).natAbs : Nat) : Int)).natAbs) false)):=by
 have U1:=Lib.hid h1.lt
 obtain ⟨y1,z1,rfl,H1⟩:=h1.op
 have U2:=Lib.hid h2.lt
 obtain ⟨y2,z2,rfl,H2⟩:=h2.op
 go_enter Tryz.func98,Tryz.ntmps98
 repeat apply wp_seq
 refine mf fun K HK=>?_
 go_wp2
 refine HK.out _ _ (then_n ?_)
 refine md (G:=fun W=>Code.wp _ _ _ _ W) ?_
 intro W_0 bb_0 K0 K1 K2
 have f1_0:=H1.out _ _ _ bb_0 K0
 have f2_0:=H2.out _ _ _ bb_0 K1
 have R_0:=ll K2
 clear K0 K1 K2
 refine ly (G:=fun a=>Code.wp _ _ _ a _) 46 ?_
 intro a_0 ha hN_0 hD_0
 have e2_0:=lu ha 2 w.heap.size
 have e3_0:=lu ha 3 (w.heap.size + 1)
 have e4_0:=lu ha 4 (w.heap.size + 1 + 1)
 repeat first | apply lw | apply lx
 refine lm bb_0 [lp w.heap.size 0,lr,lp (w.heap.size + 1) 0,lq,lr] [[],[0],[],[2],[1,3]] [7,8,9,10,11] [] [] ?_ ?_
 ·
   refine p01 e2_0 ?_; refine au (s:=false) f1_0 hx ?_; refine p01 e3_0 ?_; refine au (s:=true) f2_0 hy ?_; refine p20 ?_; exact ae rfl
 intro W_1 x a_1 hC hall ha hN_1 hD_1 bb_1
 have e2_1:=ab ha e2_0
 have e3_1:=ab ha e3_0
 have e4_1:=ab ha e4_0
 have f1_1:=hC.at0 f1_0
 have f2_1:=hC.at0 f2_0
 have R_1:=hC.holds R_0
 have e11_1:=ln ha hall 11 4
 repeat first | apply lw | apply lx
 refine wp_cond_false e11_1 ?_
 repeat first | apply lw | apply lx
 refine lm bb_1 [lp w.heap.size 1,kRow (zx),lp (w.heap.size + 1) 1,kRow (zy),kRB ((((zx).natAbs - (zy).natAbs : Nat) : Int)) true,kRB ((((zx).natAbs - (zy).natAbs : Nat) : Int)) true,kRow ((((zx).natAbs - (zy).natAbs : Nat) : Int)),lq,kRow ((((zx).natAbs - (zy).natAbs : Nat) : Int)),lq] [[],[0],[],[2],[1,3],[4],[5],[5],[6],[7]] [22,23,24,25,26,21,27,28,5,6] [] [] ?_ ?_
 ·
   refine p01 e2_1 ?_; refine aa rfl rfl (ax f1_1 rfl rfl) ?_; refine p01 e3_1 ?_; refine aa rfl rfl (ax f2_1 rfl rfl) ?_; refine aa rfl rfl (ai rfl rfl rfl fun hC h1 h2=>r1_sub (N:=39) h1 h2 U1.out U2.out (by decide) rfl (decide_eq_true hle)) ?_; refine aa rfl rfl (bg rfl rfl) ?_; refine ap kh ?_; refine ap ki ?_; refine aa rfl rfl (fo rfl rfl) ?_; refine p10 ?_; exact ae rfl
 intro W_2 x a_2 hC hall ha hN_2 hD_2 bb_2
 have e2_2:=ab ha e2_1
 have e4_2:=ab ha e4_1
 have f1_2:=hC.at0 f1_1
 have R_2:=hC.holds R_1
 have e6_2:=ln ha hall 6 9
 obtain ⟨v5_2,hv⟩ : ∃ v,v = x 8:=⟨_,rfl⟩
 have e5_2:=(ak (t:=5) (i:=8) ha).trans hv.symm
 have z5_2 : Rr W_2 v5_2 ((((zx).natAbs - (zy).natAbs : Nat) : Int)).natAbs:=by rw [hv]; exact hall 8 (of_decide_eq_true (by kernel_rfl))
 clear hv
 repeat first | apply lw | apply lx
 refine lm bb_2 [lq] [[]] [29] [] [] ?_ ?_
 ·
   refine p01 e6_2 ?_; exact ae rfl
 intro W_3 x a_3 hC hall ha hN_3 hD_3 bb_3
 have e2_3:=ab ha e2_2
 have e4_3:=ab ha e4_2
 have e5_3:=ab ha e5_2
 have f1_3:=hC.at0 f1_2
 have R_3:=hC.holds R_2
 have z5_3:=hC.rr z5_2
 have e29_3:=ln ha hall 29 0
 repeat first | apply lw | apply lx
 refine wp_cond_true e29_3 ?_
 repeat first | apply lw | apply lx
 refine mg bb_3 R_3 [lp w.heap.size 0,lr,kRow ((((zx).natAbs - (zy).natAbs : Nat) : Int)),kZ 39 (zOf (((((zx).natAbs - (zy).natAbs : Nat) : Int)).natAbs) false),kResZ (w.heap.size + 1 + 1) 39 (zOf (((((zx).natAbs - (zy).natAbs : Nat) : Int)).natAbs) false)] [[],[0],[],[1,2],[3]] [30,31,32,33,999] [] [] ?_ ?_
 ·
   refine p01 e2_3 ?_; refine au (s:=false) (hG:=(by simp only [List.mem_singleton]; omega)) f1_3 hx ?_; refine aa rfl rfl (fg e5_3 z5_3 (fun w hC=>hC.rr z5_3) rfl) ?_; refine aa rfl rfl (ai rfl rfl rfl fun hC h1 h2=>tz (r2_mkB h1 h2 (less_lt U1.out) (by decide))) ?_; refine aa rfl rfl (ci R_3 e4_3 rfl rfl) ?_; exact ae rfl
 intro W x a1 hC hall ha hN1 hD1 bb1
 obtain ⟨cs,hg,hP⟩:=me hall 4
 have e1:=ab (t:=4) ha e4_3
 repeat first | apply lw | apply lx
 refine wp_ret ?_
 repeat (refine then_r ?_)
 exact co (t:=4) rfl hD1 e1 hg hP fun v hv=>⟨v,rfl,hv,bb1⟩
theorem r2_plus_pn_lt {w : World} {v1 v2 : Value} {zx zy : Int} (hx : decide (zx < 0) = false) (hy : decide (zy < 0) = true) (hle : ¬ zy.natAbs ≤ zx.natAbs) (h1 : Zr w v1 39 (zx)) (h2 : Zr w v2 39 (zy)) :
   Calls Tryz.prog 98 #[v1,v2] w (TellsZ w 39 (zOf (((((zy).natAbs - (zx).natAbs : Nat) : Int)).natAbs) true)):=by
 have U1:=Lib.hid h1.lt
 obtain ⟨y1,z1,rfl,H1⟩:=h1.op
 have U2:=Lib.hid h2.lt
 obtain ⟨y2,z2,rfl,H2⟩:=h2.op
 go_enter Tryz.func98,Tryz.ntmps98
 repeat apply wp_seq
 refine mf fun K HK=>?_
 go_wp2
 refine HK.out _ _ (then_n ?_)
 refine md (G:=fun W=>Code.wp _ _ _ _ W) ?_
 intro W_0 bb_0 K0 K1 K2
 have f1_0:=H1.out _ _ _ bb_0 K0
 have f2_0:=H2.out _ _ _ bb_0 K1
 have R_0:=ll K2
 clear K0 K1 K2
 refine ly (G:=fun a=>Code.wp _ _ _ a _) 46 ?_
 intro a_0 ha hN_0 hD_0
 have e2_0:=lu ha 2 w.heap.size
 have e3_0:=lu ha 3 (w.heap.size + 1)
 have e4_0:=lu ha 4 (w.heap.size + 1 + 1)
 repeat first | apply lw | apply lx
 refine lm bb_0 [lp w.heap.size 0,lr,lp (w.heap.size + 1) 0,lq,lr] [[],[0],[],[2],[1,3]] [7,8,9,10,11] [] [] ?_ ?_
 ·
   refine p01 e2_0 ?_; refine au (s:=false) f1_0 hx ?_; refine p01 e3_0 ?_; refine au (s:=true) f2_0 hy ?_; refine p20 ?_; exact ae rfl
 intro W_1 x a_1 hC hall ha hN_1 hD_1 bb_1
 have e2_1:=ab ha e2_0
 have e3_1:=ab ha e3_0
 have e4_1:=ab ha e4_0
 have f1_1:=hC.at0 f1_0
 have f2_1:=hC.at0 f2_0
 have R_1:=hC.holds R_0
 have e11_1:=ln ha hall 11 4
 repeat first | apply lw | apply lx
 refine wp_cond_false e11_1 ?_
 repeat first | apply lw | apply lx
 refine lm bb_1 [lp w.heap.size 1,kRow (zx),lp (w.heap.size + 1) 1,kRow (zy),kRB ((((zx).natAbs - (zy).natAbs : Nat) : Int)) false,kRB ((((zx).natAbs - (zy).natAbs : Nat) : Int)) false,kRow ((((zx).natAbs - (zy).natAbs : Nat) : Int)),lr,kRow ((((zx).natAbs - (zy).natAbs : Nat) : Int)),lr] [[],[0],[],[2],[1,3],[4],[5],[5],[6],[7]] [22,23,24,25,26,21,27,28,5,6] [] [] ?_ ?_
 ·
   refine p01 e2_1 ?_; refine aa rfl rfl (ax f1_1 rfl rfl) ?_; refine p01 e3_1 ?_; refine aa rfl rfl (ax f2_1 rfl rfl) ?_; refine aa rfl rfl (ai rfl rfl rfl fun hC h1 h2=>r1_sub (N:=39) h1 h2 U1.out U2.out (by decide) rfl (decide_eq_false hle)) ?_; refine aa rfl rfl (bg rfl rfl) ?_; refine ap kh ?_; refine ap ki ?_; refine aa rfl rfl (fo rfl rfl) ?_; refine p10 ?_; exact ae rfl
 intro W_2 x a_2 hC hall ha hN_2 hD_2 bb_2
 have e2_2:=ab ha e2_1
 have e3_2:=ab ha e3_1
 have e4_2:=ab ha e4_1
 have f1_2:=hC.at0 f1_1
 have f2_2:=hC.at0 f2_1
 have R_2:=hC.holds R_1
 have e6_2:=ln ha hall 6 9
 obtain ⟨v5_2,hv⟩ : ∃ v,v = x 8:=⟨_,rfl⟩
 have e5_2:=(ak (t:=5) (i:=8) ha).trans hv.symm
 have z5_2 : Rr W_2 v5_2 ((((zx).natAbs - (zy).natAbs : Nat) : Int)).natAbs:=by rw [hv]; exact hall 8 (of_decide_eq_true (by kernel_rfl))
 clear hv
 repeat first | apply lw | apply lx
 refine lm bb_2 [lr] [[]] [29] [] [] ?_ ?_
 ·
   refine p01 e6_2 ?_; exact ae rfl
 intro W_3 x a_3 hC hall ha hN_3 hD_3 bb_3
 have e2_3:=ab ha e2_2
 have e3_3:=ab ha e3_2
 have e4_3:=ab ha e4_2
 have f1_3:=hC.at0 f1_2
 have f2_3:=hC.at0 f2_2
 have R_3:=hC.holds R_2
 have e29_3:=ln ha hall 29 0
 repeat first | apply lw | apply lx
 refine wp_cond_false e29_3 ?_
 repeat first | apply lw | apply lx
 refine lm bb_3 [lp (w.heap.size + 1) 1,kRow (zy),lp w.heap.size 1,kRow (zx),kRB ((((zy).natAbs - (zx).natAbs : Nat) : Int)) true,kRB ((((zy).natAbs - (zx).natAbs : Nat) : Int)) true,kRow ((((zy).natAbs - (zx).natAbs : Nat) : Int)),lq,kRow ((((zy).natAbs - (zx).natAbs : Nat) : Int))] [[],[0],[],[2],[1,3],[4],[5],[5],[6]] [35,36,37,38,39,34,40,41,5] [] [] ?_ ?_
 ·
   refine p01 e3_3 ?_; refine aa rfl rfl (ax f2_3 rfl rfl) ?_; refine p01 e2_3 ?_; refine aa rfl rfl (ax f1_3 rfl rfl) ?_; refine aa rfl rfl (ai rfl rfl rfl fun hC h1 h2=>r1_sub (N:=39) h1 h2 U2.out U1.out (by decide) rfl (decide_eq_true (by omega))) ?_; refine aa rfl rfl (bg rfl rfl) ?_; refine ap kh ?_; refine ap ki ?_; refine aa rfl rfl (fo rfl rfl) ?_; exact ae rfl
 intro W_4 x a_4 hC hall ha hN_4 hD_4 bb_4
 have e3_4:=ab ha e3_3
 have e4_4:=ab ha e4_3
 have f2_4:=hC.at0 f2_3
 have R_4:=hC.holds R_3
 obtain ⟨v5_4,hv⟩ : ∃ v,v = x 8:=⟨_,rfl⟩
 have e5_4:=(ak (t:=5) (i:=8) ha).trans hv.symm
 have z5_4 : Rr W_4 v5_4 ((((zy).natAbs - (zx).natAbs : Nat) : Int)).natAbs:=by rw [hv]; exact hall 8 (of_decide_eq_true (by kernel_rfl))
 clear hv
 repeat first | apply lw | apply lx
 refine mg bb_4 R_4 [lp (w.heap.size + 1) 0,lq,kRow ((((zy).natAbs - (zx).natAbs : Nat) : Int)),kZ 39 (zOf (((((zy).natAbs - (zx).natAbs : Nat) : Int)).natAbs) true),kResZ (w.heap.size + 1 + 1) 39 (zOf (((((zy).natAbs - (zx).natAbs : Nat) : Int)).natAbs) true)] [[],[0],[],[1,2],[3]] [42,43,44,45,999] [] [] ?_ ?_
 ·
   refine p01 e3_4 ?_; refine au (s:=true) (hG:=(by simp only [List.mem_singleton]; omega)) f2_4 hy ?_; refine aa rfl rfl (fg e5_4 z5_4 (fun w hC=>hC.rr z5_4) rfl) ?_; refine aa rfl rfl (ai rfl rfl rfl fun hC h1 h2=>tz (r2_mkB h1 h2 (less_lt U2.out) (by decide))) ?_; refine aa rfl rfl (ci R_4 e4_4 rfl rfl) ?_; exact ae rfl
 intro W x a1 hC hall ha hN1 hD1 bb1
 obtain ⟨cs,hg,hP⟩:=me hall 4
 have e1:=ab (t:=4) ha e4_4
 repeat first | apply lw | apply lx
 refine wp_ret ?_
 repeat (refine then_r ?_)
 exact co (t:=4) rfl hD1 e1 hg hP fun v hv=>⟨v,rfl,hv,bb1⟩
theorem r2_plus_pp {w : World} {v1 v2 : Value} {zx zy : Int} (hx : decide (zx < 0) = false) (hy : decide (zy < 0) = false) (h1 : Zr w v1 39 (zx)) (h2 : Zr w v2 39 (zy)) :
   Calls Tryz.prog 98 #[v1,v2] w (TellsZ w 40 (zOf (((((zx).natAbs + (zy).natAbs : Nat) : Int)).natAbs) false)):=by
 have U1:=Lib.hid h1.lt
 obtain ⟨y1,z1,rfl,H1⟩:=h1.op
 have U2:=Lib.hid h2.lt
 obtain ⟨y2,z2,rfl,H2⟩:=h2.op
 go_enter Tryz.func98,Tryz.ntmps98
 repeat apply wp_seq
 refine mf fun K HK=>?_
 go_wp2
 refine HK.out _ _ (then_n ?_)
 refine md (G:=fun W=>Code.wp _ _ _ _ W) ?_
 intro W_0 bb_0 K0 K1 K2
 have f1_0:=H1.out _ _ _ bb_0 K0
 have f2_0:=H2.out _ _ _ bb_0 K1
 have R_0:=ll K2
 clear K0 K1 K2
 refine ly (G:=fun a=>Code.wp _ _ _ a _) 46 ?_
 intro a_0 ha hN_0 hD_0
 have e2_0:=lu ha 2 w.heap.size
 have e3_0:=lu ha 3 (w.heap.size + 1)
 have e4_0:=lu ha 4 (w.heap.size + 1 + 1)
 repeat first | apply lw | apply lx
 refine lm bb_0 [lp w.heap.size 0,lr,lp (w.heap.size + 1) 0,lr,lq] [[],[0],[],[2],[1,3]] [7,8,9,10,11] [] [] ?_ ?_
 ·
   refine p01 e2_0 ?_; refine au (s:=false) f1_0 hx ?_; refine p01 e3_0 ?_; refine au (s:=false) f2_0 hy ?_; refine p20 ?_; exact ae rfl
 intro W_1 x a_1 hC hall ha hN_1 hD_1 bb_1
 have e2_1:=ab ha e2_0
 have e3_1:=ab ha e3_0
 have e4_1:=ab ha e4_0
 have f1_1:=hC.at0 f1_0
 have f2_1:=hC.at0 f2_0
 have R_1:=hC.holds R_0
 have e11_1:=ln ha hall 11 4
 repeat first | apply lw | apply lx
 refine wp_cond_true e11_1 ?_
 repeat first | apply lw | apply lx
 refine mg bb_1 R_1 [lp w.heap.size 0,lr,lp w.heap.size 1,kRow (zx),lp (w.heap.size + 1) 1,kRow (zy),kRR ((zx).natAbs) ((zy).natAbs),kRow ((((zx).natAbs + (zy).natAbs : Nat) : Int)),kZ 40 (zOf (((((zx).natAbs + (zy).natAbs : Nat) : Int)).natAbs) false),kResZ (w.heap.size + 1 + 1) 40 (zOf (((((zx).natAbs + (zy).natAbs : Nat) : Int)).natAbs) false)] [[],[0],[],[2],[],[4],[3,5],[6],[1,7],[8]] [12,13,14,15,16,17,18,19,20,999] [] [] ?_ ?_
 ·
   refine p01 e2_1 ?_; refine au (s:=false) (hG:=(by simp only [List.mem_singleton]; omega)) f1_1 hx ?_; refine p01 e2_1 ?_; refine aa rfl rfl (ax (hG:=(by simp only [List.mem_singleton]; omega)) f1_1 rfl rfl) ?_; refine p01 e3_1 ?_; refine aa rfl rfl (ax (hG:=(by simp only [List.mem_singleton]; omega)) f2_1 rfl rfl) ?_; refine aa rfl rfl (st_rows2 rfl rfl rfl) ?_; refine aa rfl rfl (ac rfl rfl fun hC h1=>tr rfl (r1_add (N:=40) h1 (two_lt U1.out U2.out) (by decide))) ?_; refine aa rfl rfl (ai rfl rfl rfl fun hC h1 h2=>tz (r2_mkB h1 h2 (two_lt U1.out U2.out) (by decide))) ?_; refine aa rfl rfl (ci R_1 e4_1 rfl rfl) ?_; exact ae rfl
 intro W x a1 hC hall ha hN1 hD1 bb1
 obtain ⟨cs,hg,hP⟩:=me hall 9
 have e1:=ab (t:=4) ha e4_1
 repeat first | apply lw | apply lx
 refine wp_ret ?_
 repeat (refine then_r ?_)
 exact co (t:=4) rfl hD1 e1 hg hP fun v hv=>⟨v,rfl,hv,bb1⟩
theorem gf {w : World} {j k : Nat} {z z' : Int} {P : Program} {F : FuncId} {vs : Array Value} (h : Calls P F vs w (TellsZ w j z)) (hj : j ≤ k) (e : z = z') : Calls P F vs w (TellsZ w k z'):=by
 subst e
 exact h.mono fun _ _ ⟨v,e,hz,hb⟩=>⟨v,e,hz.mono hj,hb⟩
theorem r2_plus {w : World} {v1 v2 : Value} {x y : Int} (h1 : Zr w v1 39 x) (h2 : Zr w v2 39 y) : Calls Tryz.prog 98 #[v1,v2] w (TellsZ w 40 (x + y)):=by
 by_cases hx : x < 0 <;> by_cases hy : y < 0
 · exact gf (r2_plus_nn (decide_eq_true hx) (decide_eq_true hy) h1 h2) (by decide) (by simp only [zOf,Int.natAbs_natCast,if_true]; omega)
 · by_cases hle : y.natAbs ≤ x.natAbs
   · exact gf (r2_plus_np_ge (decide_eq_true hx) (decide_eq_false hy) hle h1 h2) (by decide) (by simp only [zOf,Int.natAbs_natCast,if_true]; omega)
   · exact gf (r2_plus_np_lt (decide_eq_true hx) (decide_eq_false hy) hle h1 h2) (by decide) (by simp only [zOf,Int.natAbs_natCast,Bool.false_eq_true,if_false]; omega)
 · by_cases hle : y.natAbs ≤ x.natAbs
   · exact gf (r2_plus_pn_ge (decide_eq_false hx) (decide_eq_true hy) hle h1 h2) (by decide) (by simp only [zOf,Int.natAbs_natCast,Bool.false_eq_true,if_false]; omega)
   · exact gf (r2_plus_pn_lt (decide_eq_false hx) (decide_eq_true hy) hle h1 h2) (by decide) (by simp only [zOf,Int.natAbs_natCast,if_true]; omega)
 · exact gf (r2_plus_pp (decide_eq_false hx) (decide_eq_false hy) h1 h2) (by decide) (by simp only [zOf,Int.natAbs_natCast,Bool.false_eq_true,if_false]; omega)
theorem r2_sub39 {w : World} {v1 v2 : Value} {zx zy : Int} (h1 : Zr w v1 39 (zx)) (h2 : Zr w v2 39 (zy)) :
   Calls Tryz.prog 97 #[v1,v2] w (TellsZ w 40 ((zx) + (-(zy)))):=by
 obtain ⟨y1,z1,rfl,H1⟩:=h1.op
 obtain ⟨y2,z2,rfl,H2⟩:=h2.op
 go_enter Tryz.func97,Tryz.ntmps97
 repeat apply wp_seq
 refine mf fun K HK=>?_
 go_wp2
 refine HK.out _ _ (then_n ?_)
 refine md (G:=fun W=>Code.wp _ _ _ _ W) ?_
 intro W_0 bb_0 K0 K1 K2
 have f1_0:=H1.out _ _ _ bb_0 K0
 have f2_0:=H2.out _ _ _ bb_0 K1
 have R_0:=ll K2
 clear K0 K1 K2
 refine ly (G:=fun a=>Code.wp _ _ _ a _) 10 ?_
 intro a_0 ha hN_0 hD_0
 have e2_0:=lu ha 2 w.heap.size
 have e3_0:=lu ha 3 (w.heap.size + 1)
 have e4_0:=lu ha 4 (w.heap.size + 1 + 1)
 repeat first | apply lw | apply lx
 refine mg bb_0 R_0 [kZ 39 (zx),kZ 39 (zx),kZ 39 (zy),kZ 39 (-(zy)),kZ 40 ((zx) + (-(zy))),kResZ (w.heap.size + 1 + 1) 40 ((zx) + (-(zy)))] [[],[0],[],[2],[1,3],[4]] [5,6,7,8,9,999] [] [] ?_ ?_
 ·
   refine aj (hG:=(by simp only [List.mem_singleton]; omega)) f1_0 e2_0 ?_; refine aa rfl rfl (ac rfl rfl fun hC h1=>tz (r2_norm ((rr h1).zc (by decide)) (by decide))) ?_; refine aj (hG:=(by simp only [List.mem_singleton]; omega)) f2_0 e3_0 ?_; refine aa rfl rfl (ac rfl rfl fun hC h1=>tz (r2_neg (rr h1) (by decide))) ?_; refine aa rfl rfl (ai rfl rfl rfl fun hC h1 h2=>tz (r2_plus ((rr h1).mono (by decide)) ((rr h2).mono (by decide)))) ?_; refine aa rfl rfl (ci R_0 e4_0 rfl rfl) ?_; exact ae rfl
 intro W x a1 hC hall ha hN1 hD1 bb1
 obtain ⟨cs,hg,hP⟩:=me hall 5
 have e1:=ab (t:=4) ha e4_0
 repeat first | apply lw | apply lx
 refine wp_ret ?_
 repeat (refine then_r ?_)
 exact co (t:=4) rfl hD1 e1 hg hP fun v hv=>⟨v,rfl,hv,bb1⟩
theorem r2_sub {w : World} {v1 v2 : Value} {x y : Int} (h1 : Zr w v1 39 x) (h2 : Zr w v2 39 y) : Calls Tryz.prog 97 #[v1,v2] w (TellsZ w 40 (x - y)):=gf (r2_sub39 h1 h2) (by decide) (by omega)
theorem jy {id : Nat} {Q : Exit → Act → World → Prop} {a : Act} {w : World} (h : Q .normal a w) : Exit.inBlock id Q .normal a w:=h
theorem iy {next : Act → World → Prop} {id : Nat} {Q : Exit → Act → World → Prop} {a : Act} {w : World} (h : Q (.exit id) a w) : Exit.then next Q (.exit id) a w:=h
theorem ig {id : Nat} {Q : Exit → Act → World → Prop} {a : Act} {w : World} (h : Q .normal a w) : Exit.inBlock id Q (.exit id) a w:=by
 show (if id = id then Q .normal a w else _)
 rw [if_pos rfl]; exact h
theorem fm {P : Program} {ops : Array Oper} {Q : Exit → Act → World → Prop} {i : Nat} {rest : List Nat} {o : Oper} {a : Act} {w : World} {v : Value} (ho : ops[i]? = some o) (hg : o.guard = none) (h : (execOp a.eval o).run P w = .ok (.value v) w) (hk : wpOps P ops Q rest (a.put o.dst v) w) : wpOps P ops Q (i :: rest) a w:=by
 rw [wpOps_cons]
 unfold wpOp
 rw [ho]
 have hw : Region.wanted o (yielded ops a.tmps) = true:=by simp [Region.wanted,hg]
 show if Region.wanted o _ = true then _ else _
 rw [if_pos hw]
 left
 unfold Oper.wp
 rw [h]
 exact hk
theorem lg {P : Program} {id : Nat} {Q : Exit → Act → World → Prop} {a : Act} {w : World} {A B I N : Nat} {n m : Int} {E E2 T1 T2 T3 : TypeId} {p1 p2 p3 : String} {f1 f2 f3 : Array Edge}    (hI : a.eval (.tmp I) = .int .i64 n) (hadd : ∀ w, (binOp .add E (.int .i64 n) (.int .i64 1)).run P w = .ok (.int .i64 m) w)
   (hend : ∀ x : Nat → Value,x 2 = .int .i64 m → Q .normal (putE x a [(0,some A),(1,some B),(2,some I)]) w) (hN : a.tmps.size = N:=by assumption) (hA : decide (A < N) = true:=by kernel_rfl) (hB : decide (B < N) = true:=by kernel_rfl) :
   (Code.region id #[{ dst:=some A,op:=.move (.tmp I),type:=T1,pos:=p1,after:=f1,guard:=none },{ dst:=some B,op:=.binOp .add E (.tmp A) (.const (.int .i64 1)) E2,type:=T2,pos:=p2,after:=f2,guard:=none },{ dst:=some I,op:=.assign (.tmp B),type:=T3,pos:=p3,after:=f3,guard:=none }] false).wp P Q a w:=by
 refine wp_region ?_
 have e : List.range (#[({ dst:=some A,op:=.move (.tmp I),type:=T1,pos:=p1,after:=f1,guard:=none } : Oper),{ dst:=some B,op:=.binOp .add E (.tmp A) (.const (.int .i64 1)) E2,type:=T2,pos:=p2,after:=f2,guard:=none },{ dst:=some I,op:=.assign (.tmp B),type:=T3,pos:=p3,after:=f3,guard:=none }]).size = [0,1,2]:=rfl
 rw [e]
 refine fm (v:=.int .i64 n) rfl rfl ?_ ?_
 · show (pure (Next.value (a.eval (.tmp I))) : Sem Next).run P w = _
   rw [hI]; rfl
 refine fm (v:=.int .i64 m) rfl rfl ?_ ?_
 · have e1 : (a.put (some A) (.int .i64 n)).eval (.tmp A) = .int .i64 n:=fh _ _ _ (by rw [hN]; exact of_decide_eq_true hA)
   show (((do eqGuard .add E (.tmp A) (.const (.int .i64 1)) ((a.put (some A) (.int .i64 n)).eval (.tmp A)) (.int .i64 1); binOp .add E ((a.put (some A) (.int .i64 n)).eval (.tmp A)) (.int .i64 1)) : Sem Value) >>= fun v=>pure (Next.value v)).run P w = _
   rw [e1]
   have e2 : ((do eqGuard .add E (.tmp A) (.const (.int .i64 1)) (.int .i64 n) (.int .i64 1); binOp .add E (.int .i64 n) (.int .i64 1)) : Sem Value).run P w = .ok (.int .i64 m) w:=by
     rw [bm (v:=()) (w':=w) rfl]; exact hadd w
   rw [bm e2]; rfl
 refine fm (v:=.int .i64 m) rfl rfl ?_ ?_
 · have e1 : ((a.put (some A) (.int .i64 n)).put (some B) (.int .i64 m)).eval (.tmp B) = .int .i64 m:=fh _ _ _ (by rw [ip,hN]; exact of_decide_eq_true hB)
   show (pure (Next.value (((a.put (some A) (.int .i64 n)).put (some B) (.int .i64 m)).eval (.tmp B))) : Sem Next).run P w = _
   rw [e1]; rfl
 exact hend (fun i=>if i = 0 then .int .i64 n else .int .i64 m) rfl
theorem wp_set {P : Program} {id : Nat} {Q : Exit → Act → World → Prop} {a : Act} {w : World} {I : Nat} {v : Value} {T1 : TypeId} {p1 : String} {f1 : Array Edge}
   (hend : ∀ x : Nat → Value,x 0 = v → Q .normal (putE x a [(0,some I)]) w) :
   (Code.region id #[{ dst:=some I,op:=.assign (.const v),type:=T1,pos:=p1,after:=f1,guard:=none }] false).wp P Q a w:=by
 refine wp_region ?_
 have e : List.range (#[({ dst:=some I,op:=.assign (.const v),type:=T1,pos:=p1,after:=f1,guard:=none } : Oper)]).size = [0]:=rfl
 rw [e]
 refine fm (v:=v) rfl rfl rfl ?_
 exact hend (fun _=>v) rfl
theorem lh {id : Nat} {Q : Exit → Act → World → Prop} {a : Act} {w : World} {A B C D I S N : Nat} {n : Int} {b : Option Addr} {m c : Nat} {U E : TypeId} {T1 T2 T3 T4 : TypeId} {p1 p2 p3 p4 : String} {f1 f2 f3 f4 : Array Edge}        (hI : a.eval (.tmp I) = .int .i64 n) (hS : a.eval (.tmp S) = .slice b m c)
   (hlen : ∀ w,(Builtin.len_ #[U] T3 #[.slice b m c]).run Tryz.prog w = .ok (.int .i64 (m : Int)) w)
   (hless : ∀ w,(binOp .lss E (.int .i64 n) (.int .i64 (m : Int))).run Tryz.prog w = .ok (.bool (decide (n < (m : Int)))) w)
   (hend : ∀ x : Nat → Value,x 3 = .bool (decide (n < (m : Int))) → Q .normal (putE x a [(0,some A),(1,some B),(2,some C),(3,some D)]) w) (hN : a.tmps.size = N:=by assumption) (hA : decide (A < N) = true:=by kernel_rfl) (hB : decide (B < N) = true:=by kernel_rfl) (hC : decide (C < N) = true:=by kernel_rfl) (hAB : decide (A = B) = false:=by kernel_rfl) (hAC : decide (A = C) = false:=by kernel_rfl) (hSA : decide (S = A) = false:=by kernel_rfl) :
   (Code.region id #[{ dst:=some A,op:=.move (.tmp I),type:=T1,pos:=p1,after:=f1,guard:=none },{ dst:=some B,op:=.move (.tmp S),type:=T2,pos:=p2,after:=f2,guard:=none },{ dst:=some C,op:=.call { callee:=.builtin .len,args:=#[.tmp B],argTypes:=#[U] },type:=T3,pos:=p3,after:=f3,guard:=none },{ dst:=some D,op:=.binOp .lss E (.tmp A) (.tmp C) E,type:=T4,pos:=p4,after:=f4,guard:=none }] false).wp Tryz.prog Q a w:=by
 refine wp_region ?_
 have e : List.range (#[({ dst:=some A,op:=.move (.tmp I),type:=T1,pos:=p1,after:=f1,guard:=none } : Oper),{ dst:=some B,op:=.move (.tmp S),type:=T2,pos:=p2,after:=f2,guard:=none },{ dst:=some C,op:=.call { callee:=.builtin .len,args:=#[.tmp B],argTypes:=#[U] },type:=T3,pos:=p3,after:=f3,guard:=none },{ dst:=some D,op:=.binOp .lss E (.tmp A) (.tmp C) E,type:=T4,pos:=p4,after:=f4,guard:=none }]).size = [0,1,2,3]:=rfl
 rw [e]
 refine fm (v:=.int .i64 n) rfl rfl ?_ ?_
 · show (pure (Next.value (a.eval (.tmp I))) : Sem Next).run _ w = _
   rw [hI]; rfl
 have nSA:=of_decide_eq_false hSA
 refine fm (v:=.slice b m c) rfl rfl ?_ ?_
 · have e1 : (a.put (some A) (.int .i64 n)).eval (.tmp S) = .slice b m c:=(put_eval_ne a _ (fun h=>nSA (by injection h with h; exact h.symm))).trans hS
   show (pure (Next.value ((a.put (some A) (.int .i64 n)).eval (.tmp S))) : Sem Next).run _ w = _
   rw [e1]; rfl
 refine fm (v:=.int .i64 (m : Int)) rfl rfl ?_ ?_
 · have e1 : ((a.put (some A) (.int .i64 n)).put (some B) (.slice b m c)).eval (.tmp B) = .slice b m c:=fh _ _ _ (by rw [ip,hN]; exact of_decide_eq_true hB); have e2 : ((#[.tmp B] : Array Operand).map ((a.put (some A) (.int .i64 n)).put (some B) (.slice b m c)).eval) = #[.slice b m c]:=by simp [e1]
   have h2:=hlen w
   show Sem.run _ (execOp (((a.put (some A) (.int .i64 n)).put (some B) (.slice b m c))).eval { dst:=some C,op:=.call { callee:=.builtin .len,args:=#[.tmp B],argTypes:=#[U] },type:=T3,pos:=p3,after:=f3,guard:=none }) w = _
   simp only [execOp,resolve,invoke,builtin,Sem.run_bind,Sem.run_pure,Result.andThen_ok,e2,h2]
 refine fm (v:=.bool (decide (n < (m : Int)))) rfl rfl ?_ ?_
 · have nAB:=of_decide_eq_false hAB; have nAC:=of_decide_eq_false hAC; have e1 : (((a.put (some A) (.int .i64 n)).put (some B) (.slice b m c)).put (some C) (.int .i64 (m : Int))).eval (.tmp C) = .int .i64 (m : Int):=fh _ _ _ (by rw [ip,ip,hN]; exact of_decide_eq_true hC)
   have e0 : (((a.put (some A) (.int .i64 n)).put (some B) (.slice b m c)).put (some C) (.int .i64 (m : Int))).eval (.tmp A) = .int .i64 n:=by
     rw [put_eval_ne _ _ (fun h=>nAC (by injection h with h; exact h.symm)),put_eval_ne _ _ (fun h=>nAB (by injection h with h; exact h.symm))]; exact fh _ _ _ (by rw [hN]; exact of_decide_eq_true hA)
   show (((do eqGuard .lss E (.tmp A) (.tmp C) ((((a.put (some A) (.int .i64 n)).put (some B) (.slice b m c)).put (some C) (.int .i64 (m : Int))).eval (.tmp A)) ((((a.put (some A) (.int .i64 n)).put (some B) (.slice b m c)).put (some C) (.int .i64 (m : Int))).eval (.tmp C)); binOp .lss E ((((a.put (some A) (.int .i64 n)).put (some B) (.slice b m c)).put (some C) (.int .i64 (m : Int))).eval (.tmp A)) ((((a.put (some A) (.int .i64 n)).put (some B) (.slice b m c)).put (some C) (.int .i64 (m : Int))).eval (.tmp C))) : Sem Value) >>= fun v=>pure (Next.value v)).run _ w = _
   rw [e0,e1]
   have e2 : ((do eqGuard .lss E (.tmp A) (.tmp C) (.int .i64 n) (.int .i64 (m : Int)); binOp .lss E (.int .i64 n) (.int .i64 (m : Int))) : Sem Value).run Tryz.prog w = .ok (.bool (decide (n < (m : Int)))) w:=by
     rw [bm (v:=()) (w':=w) rfl]; exact hless w
   rw [bm e2]; rfl
 exact hend (fun i=>if i = 0 then .int .i64 n else if i = 1 then .slice b m c else if i = 2 then .int .i64 (m : Int) else .bool (decide (n < (m : Int)))) rfl
theorem less_run (n m : Int) : ∀ w,(binOp .lss 3 (.int .i64 n) (.int .i64 m)).run Tryz.prog w = .ok (.bool (decide (n < m))) w:=fun _=>by kernel_rfl
theorem add_run (n m : Nat) (h : n + m < 9223372036854775808) : ∀ w,(binOp .add 3 (.int .i64 (n : Int)) (.int .i64 (m : Int))).run Tryz.prog w = .ok (.int .i64 ((n + m : Nat) : Int)) w:=fun w=>by
 go_simp
 rw [IntKind.wrap_i64]; omega
def reachK (es : List (List (Nat × Option Tmp))) : Nat → List Nat → List Nat
 | 0,l=>l
 | k + 1,l=>reachK es k (l ++ (l.flatMap fun i=>(es.getD i []).map (·.1)).filter fun i=>!l.contains i)
theorem reachK_all {es : List (List (Nat × Option Tmp))} {L : Nat → Bool} (n : Nat) (hn : ∀ i, i < n → ∀ p ∈ es.getD i [], p.1 < n) (hL : ∀ i, i < n → L i = true → ∀ p ∈ es.getD i [], L p.1 = true) : ∀ (k : Nat) (l : List Nat), (∀ i ∈ l, i < n ∧ L i = true) → ∀ i ∈ reachK es k l, L i = true
 | 0,_,h=>fun i hi=>(h i hi).2
 | k + 1,l,h=>by
   refine reachK_all n hn hL k _ fun i hi=>?_; rcases List.mem_append.1 hi with hi | hi
   · exact h i hi
   · obtain ⟨j,hj,hij⟩:=List.mem_flatMap.1 (List.mem_filter.1 hi).1; obtain ⟨p,hp,rfl⟩:=List.mem_map.1 hij; exact ⟨hn j (h j hj).1 p hp,hL j (h j hj).1 (h j hj).2 p hp⟩
theorem keep_not {es : List (List (Nat × Option Tmp))} {n s j : Nat} {L : Nat → Bool} (h : (reachK es 12 [s]).contains j = true) (hs : s < n) (hn : ∀ i,i < n → ∀ p ∈ es.getD i [],p.1 < n) (hL : ∀ i,i < n → L i = true → ∀ p ∈ es.getD i [],L p.1 = true) (hj : L j = false) : L s = false:=by
 cases e : L s with
 | false=>rfl
 | true =>
   have:=reachK_all n hn hL 12 [s] (fun i hi=>by rw [List.mem_singleton.1 hi]; exact ⟨hs,e⟩) j (by simpa using h); rw [hj] at this; cases this
theorem gc {P : Program} {id : Nat} {draw : Bool} {ops : Array Oper} {Q : Exit → Act → World → Prop} {a0 : Act} {W0 : World} {N : Nat} (hN : a0.tmps.size = N) (B g : Nat) {cs : Array Value} (hg : Holds_ W0 g cs) (hBg : B ≤ g) (s : Nat) (js : List Nat) (ks : List PK) (es : List (List (Nat × Option Tmp))) (all : List (Nat × Option Tmp)) (bs : List (Nat × Bool)) (sk : List Nat) (hm : P.follows .mixedOrders = true) (hchk : growOK ops (fun i => !sk.contains i) es all N = true) (hk : codesOK ks es = true) (hgu : guardOK ops bs sk = true) (hbs : bs.map (fun p => at_ ks p.1) = bs.map fun p => kIs (.bool p.2)) (hsk : sk.map (at_ ks) = sk.map fun _ => kIs undef)
   (hb : blks ks = [g]) (hsg : (at_ ks s).blk = some g) (hsk0 : sk = []) (hsn : decide (s < ops.size) = true) (hjs : js.all (fun j=>(reachK es 12 [s]).contains j) = true) (hB0 : B ≤ W0.heap.size) (hs : PkFromL P ops es sk B W0 g ks a0 js 0) (hend : ∀ w' x,Reg B W0 [g] w' → (∀ i,i < ops.size → (at_ ks i).sem W0.heap.size x (x i) w') → Q .normal (putE x a0 all) w') : (Code.region id ops draw).wp P Q a0 W0:=by
 subst hN
 have hn : (blks ks).Nodup:=by rw [hb]; exact List.nodup_cons.2 ⟨by simp,List.nodup_nil⟩
 have hops:=hchk
 unfold growOK at hops
 simp only [Bool.and_eq_true,decide_eq_true_eq] at hops
 have hlt : ∀ i,i < ops.size → ∀ p ∈ es.getD i [],p.1 < ops.size:=fun i hi p hp=>by
   have h:=List.all_eq_true.1 hops.2 i (List.mem_range.2 hi); rw [Array.getElem?_eq_getElem hi] at h; simp only [Bool.and_eq_true] at h; have:=List.all_eq_true.1 h.1.2 p hp; simp only [Bool.and_eq_true,decide_eq_true_eq] at this; exact this.1.2
 refine wp_region_pkE B ks es all bs sk hm hchk hk hgu hbs hsk hn ?_ hB0 ?_ (fun L w=>(L s = false → w.heap[g]? = W0.heap[g]?) ∧ ∀ i,i < ops.size → sk.contains i = false → L i = true → ∀ p ∈ es.getD i [],L p.1 = true) ?_ ?_ ?_ ?_
 · rw [hb]; intro g' hg'; rw [List.mem_singleton.1 hg']; exact hBg
 · rw [hb]; intro g' hg'; rw [List.mem_singleton.1 hg']; exact ⟨_,hg⟩
 · intro W' hW'; refine ⟨fun _=>?_,fun i hi _ h=>absurd (of_decide_eq_true h) (by omega)⟩; rcases hW' with rfl | rfl <;> rfl
 · intro i hil L x v w w' hE hR hi hd hmv; refine ⟨fun hL=>?_,fun k hk1 hk2 hk3 p hp=>?_⟩
   · have hne : s ≠ i:=fun h=>by rw [h,dm] at hL; cases hL
     rw [ct _ _ hne] at hL; have hw:=hE.1 hL; have hgw : g < w.heap.size:=Nat.lt_of_lt_of_le hg.lt hR.below.size; refine Eq.trans ?_ hw
     cases e : at_ ks i with
     | p f k1 k2=>rw [e] at hmv; exact hmv.block g hgw
     | fresh n=>rw [e] at hmv; exact hmv.1.block g hgw
     | list n f k1 k2=>rw [e] at hmv; exact hmv.1.block g hgw
     | same e1=>rw [e] at hmv; exact hmv.block g hgw
     | cell g' f k1 k2 =>
       rw [e] at hmv; refine hmv.other g fun h=>hne (blk_inj hn (i:=s) (j:=i) (g:=g) hsg ?_); rw [e,h]; rfl
     | put n f k1 k2 =>
       rw [e] at hmv; obtain ⟨g',_,hg',hst⟩:=hmv; refine hst.other g fun h=>?_; have:=hg.lt; omega
   · by_cases e : k = i
     · subst e
       by_cases e2 : p.1 = k
       · rw [e2,dm]
       · rw [ct _ _ e2]; exact hd hk2 p hp
     · rw [ct _ _ e] at hk3
       by_cases e2 : p.1 = i
       · rw [e2,dm]
       · rw [ct _ _ e2]; exact hE.2 k hk1 hk2 hk3 p hp
 · intro i o ho hsi L hi w x hC; rw [hb] at hC; exact hs i o (Nat.zero_le _) ho hsi w x ⟨hC.1,fun hj=>hC.2.1 (keep_not (List.all_eq_true.1 hjs i (by simpa using hj)) (of_decide_eq_true hsn) hlt (fun k hk h p hp=>hC.2.2 k hk (by rw [hsk0]; rfl) h p hp) hi)⟩
 · rw [hb]; exact hend
theorem Wk9 {P : Program} {id : Nat} {draw : Bool} {ops : Array Oper} {next : Act → World → Prop} {Q : Exit → Act → World → Prop} {a0 : Act} {w W0 : World} {N g : Nat} {cs : Array Value} (bb : Below w.heap.size w W0) (hg : Holds_ W0 g cs) (s : Nat) (js : List Nat) (ks : List PK) (el : List (List Nat)) (sl : List Nat) (bs : List (Nat × Bool)) (sk : List Nat) (me : PkFromL P ops (Ez9 sl el) sk w.heap.size W0 g ks a0 js 0) (hend : ∀ w' x a1, Reg w.heap.size W0 [g] w' → (∀ i, i < ops.size → (at_ ks i).sem W0.heap.size x (x i) w') → a1 = putE x a0 (Az9 0 sl) → a1.tmps.size = N → a1.defers = [] → Below w.heap.size w w' → next a1 w')
   (hN : a0.tmps.size = N:=by assumption) (hD : a0.defers = []:=by assumption) (hBg : w.heap.size ≤ g:=by omega) (hm : P.follows .mixedOrders = true:=by kernel_rfl) (hchk : growOK ops (fun i=>!sk.contains i) (Ez9 sl el) (Az9 0 sl) N = true:=by kernel_rfl) (hk : codesOK ks (Ez9 sl el) = true:=by kernel_rfl) (hgu : guardOK ops bs sk = true:=by kernel_rfl) (hbs : bs.map (fun p=>at_ ks p.1) = bs.map fun p=>kIs (.bool p.2):=by kernel_rfl) (hsk : sk.map (at_ ks) = sk.map fun _=>kIs undef:=by kernel_rfl) (hb : blks ks = [g]:=by kernel_rfl) (hsg : (at_ ks s).blk = some g:=by exact rfl) (hsk0 : sk = []:=by exact rfl) (hsn : decide (s < ops.size) = true:=by kernel_rfl) (hjs : js.all (fun j=>(reachK (Ez9 sl el) 12 [s]).contains j) = true:=by kernel_rfl) : (Code.region id ops draw).wp P (Exit.then next Q) a0 W0 :=
 gc hN w.heap.size g hg hBg s js ks (Ez9 sl el) (Az9 0 sl) bs sk hm hchk hk hgu hbs hsk hb hsg hsk0 hsn hjs bb.size me fun w' x h1 h2=>then_n (hend w' x _ h1 h2 rfl (size_behind rfl hN) (defers_behind rfl hD) (bb.trans h1.below))
def qsum (l : List (Nat × Int)) : Int:=(l.map (·.2)).foldl (· + ·) 0
def qprod (l : List (Nat × Int)) : Int:=(l.map (·.2)).foldl (· * ·) 1
theorem qsum_take {l : List (Nat × Int)} {i : Nat} {q : Nat × Int} (hq : l[i]? = some q) : qsum (l.take (i + 1)) = qsum (l.take i) + q.2:=by
 unfold qsum
 rw [List.take_add_one,hq]
 simp
theorem qprod_take {l : List (Nat × Int)} {i : Nat} {q : Nat × Int} (hq : l[i]? = some q) : qprod (l.take (i + 1)) = qprod (l.take i) * q.2:=by
 unfold qprod
 rw [List.take_add_one,hq]
 simp
theorem Zr.tight {W : World} {v : Value} {j k : Nat} {z : Int} (h : Zr W v j z) (hz : z.natAbs < 1000000000 ^ k) : Zr W v k z:=by
 obtain ⟨A,l,c,e,hr,_⟩:=h
 exact ⟨A,l,c,e,hr,hz⟩
theorem LocR.tight {W : World} {g j k : Nat} {z : Int} (h : LocR W g j z) (hz : z.natAbs < 1000000000 ^ k) : LocR W g k z:=by
 obtain ⟨A,l,c,hh,hr⟩:=h
 exact ⟨A,l,c,hh,hr.tight hz⟩
theorem LocR.up {W : World} {g j k : Nat} {z : Int} (h : LocR W g j z) (hk : j ≤ k) : LocR W g k z:=by
 obtain ⟨A,l,c,hh,hr⟩:=h
 exact ⟨A,l,c,hh,hr.mono hk⟩
theorem zero_loc {W : World} {g : Nat} {l : List (Nat × Int)} (h : LocR W g 1 0) : LocR W g 39 (qsum (l.take 0)):=h.up (by decide)
theorem one_loc {W : World} {g : Nat} {l : List (Nat × Int)} (h : LocR W g 1 1) : LocR W g 39 (qprod (l.take 0)):=h.up (by decide)
theorem res_locR {S0 : Nat} {x : Nat → Value} {v : Value} {w : World} {g k : Nat} {z : Int} (h : (kResZ g k z).sem S0 x v w) : LocR w g k z:=by
 obtain ⟨cs,hg,A,l,c,e,hr⟩:=h
 subst e
 exact ⟨A,l,c,hg,hr⟩
theorem Reg.zrsG {B : Nat} {W0 w : World} {G : List Nat} (h : Reg B W0 G w) {g : Nat} (hg : g ∉ G) {l : List (Nat × Int)} (hl : ZRs W0 g l) : ZRs w g l:=fun j q hj=>by
 obtain ⟨A,n,c,h1,h2,A',n',c',e,hr,hz⟩:=hl j q hj
 exact ⟨A,n,c,((h.cell (cell_lt h1) hg _).1).trans h1,((h.cell (cell_lt h2) hg _).1).trans h2,A',n',c',e,h.rr hr,hz⟩
theorem run_loadInt {w : World} {g o : Nat} {u v : Value} (h0 : w.cell? ⟨g,o,none⟩ = some u) (h1 : w.cell? ⟨g,o + 1,none⟩ = some v) : (Instr.loadAt 24 (.pointer (some ⟨g,o,none⟩))).run Tryz.prog w = .ok (.agg #[u,v]) w:=by go_simp
theorem run_idxI {w : World} {g i n : Nat} (h : i < n) : (Instr.indexAt 68 (.slice (some ⟨g,0,none⟩) n n) (.int .i64 (i : Int))).run Tryz.prog w = .ok (.pointer (some ⟨g,i * 2,none⟩)) w:=by
 have h1 : (0 : Int) ≤ (i : Int) ∧ (i : Int) < (n : Int):=by omega
 go_simp
theorem len_runI (b : Option Addr) (m c : Nat) (T : TypeId) : ∀ w,(Builtin.len_ #[ 68 ] T #[.slice b m c]).run Tryz.prog w = .ok (.int .i64 (m : Int)) w:=fun _=>by kernel_rfl
section
variable {G : List Nat} {C : World → Prop} {S0 B : Nat} {ks : List PK} {a0 : Act} {i : Nat} {N : Nat} {W0 : World} {T : TypeId} {pos : String} {af : Array Edge} {gu : Option (Nat × Bool)}
theorem st_loadIG {d t j g n k : Nat} {z : Int} {l : List (Nat × Int)} (hl : ZRs W0 g l) (hn : l[n]? = some (k,z)) (hG : g ∉ G)    (hj : at_ ks j = kIs (.pointer (some ⟨g,n * 2,none⟩))) (hi : at_ ks i = kZ k z) (hN : a0.tmps.size = N:=by assumption) (hd : decide (d < N) = true:=by kernel_rfl) (ht : decide (t < N) = true:=by kernel_rfl) :
   PkStep Tryz.prog (Reg B W0 G) S0 ks a0 i { dst:=some d,op:=.load 24 (.tmp t),type:=T,pos:=pos,after:=af,guard:=gu } [(j,some t)]:=by
 intro w x hC
 refine ay _ fun hdeps K hK=>?_
 have g1:=hdeps (j,some t) (by simp)
 rw [hj] at g1
 have e1 : (putE x a0 [(j,some t)]).eval (.tmp t) = x j:=putE_new _ _ (by rw [hN]; exact of_decide_eq_true ht) (by simp [slotAt])
 obtain ⟨A,m,c,h1,h2,hz⟩:=(hC.zrsG hG hl) n (k,z) hn
 refine cb (w':=w) rfl (by rw [az,hN]) hd (ex_load (e1.trans g1) (run_loadInt h1 h2)) (hK _ _ ?_ ?_)
 · rw [hi]; exact Below.refl _ _
 · rw [hi]; exact hz
theorem ii {d t g k : Nat} {z : Int} (hl : AtR W0 g 0 k z) (hp : a0.eval (.tmp t) = .pointer (some ⟨g,0,none⟩))   (hi : at_ ks i = kZ k z) (hN : a0.tmps.size = N:=by assumption) (hd : decide (d < N) = true:=by kernel_rfl) :
   PkStep Tryz.prog (fun w=>Reg B W0 [g] w ∧ w.heap[g]? = W0.heap[g]?) S0 ks a0 i { dst:=some d,op:=.load 24 (.tmp t),type:=T,pos:=pos,after:=af,guard:=gu } []:=by
 intro w x hC K hK
 obtain ⟨A,m,c,h1,h2,hz⟩:=iu hC hl
 refine cb (w':=w) rfl hN hd (ex_load hp (run_loadInt h1 h2)) (hK _ _ ?_ ?_)
 · rw [hi]; exact Below.refl _ _
 · rw [hi]; exact hz
theorem st_idxI {d t1 j1 t2 j2 g k n : Nat} (hk : k < n)      (h1 : at_ ks j1 = kIs (.slice (some ⟨g,0,none⟩) n n)) (h2 : at_ ks j2 = kIs (.int .i64 (k : Int))) (hi : at_ ks i = kIs (.pointer (some ⟨g,k * 2,none⟩))) (hN : a0.tmps.size = N:=by assumption) (hd : decide (d < N) = true:=by kernel_rfl) (ht1 : decide (t1 < N) = true:=by kernel_rfl) (ht2 : decide (t2 < N) = true:=by kernel_rfl) (hne : decide (t1 = t2) = false:=by kernel_rfl) :
   PkStep Tryz.prog C S0 ks a0 i { dst:=some d,op:=.indexAddr 68 (.tmp t1) (.tmp t2),type:=T,pos:=pos,after:=af,guard:=gu } [(j1,some t1),(j2,some t2)]:=by
 intro w x hC
 refine ay _ fun hdeps K hK=>?_
 have g1:=hdeps (j1,some t1) (by simp)
 rw [h1] at g1
 have g2:=hdeps (j2,some t2) (by simp)
 rw [h2] at g2
 have n12:=of_decide_eq_false hne
 have e1 : (putE x a0 [(j1,some t1),(j2,some t2)]).eval (.tmp t1) = x j1:=putE_new _ _ (by rw [hN]; exact of_decide_eq_true ht1) (by simp [slotAt,Ne.symm n12])
 have e2 : (putE x a0 [(j1,some t1),(j2,some t2)]).eval (.tmp t2) = x j2:=putE_new _ _ (by rw [hN]; exact of_decide_eq_true ht2) (by simp [slotAt])
 refine cb (v:=.pointer (some ⟨g,k * 2,none⟩)) (w':=w) rfl (by rw [az,hN]) hd ?_ (hK _ _ ?_ ?_)
 · show Sem.run _ (Instr.indexAt 68 ((putE x a0 [(j1,some t1),(j2,some t2)]).eval (.tmp t1)) ((putE x a0 [(j1,some t1),(j2,some t2)]).eval (.tmp t2)) >>= fun v=>pure (Next.value v)) w = _
   rw [e1.trans g1,e2.trans g2,bm (run_idxI hk)]; rfl
 · rw [hi]; exact Below.refl _ _
 · rw [hi]; rfl
theorem st_loadKS {d t j g k : Nat} {z : Int} (hl : AtR W0 g 0 k z)    (hj : at_ ks j = kIs (.pointer (some ⟨g,0,none⟩))) (hi : at_ ks i = kIs (.bool (decide (z < 0)))) (hN : a0.tmps.size = N:=by assumption) (hd : decide (d < N) = true:=by kernel_rfl) (ht : decide (t < N) = true:=by kernel_rfl) :
   PkStep Tryz.prog (fun w=>Reg B W0 [g] w ∧ w.heap[g]? = W0.heap[g]?) S0 ks a0 i { dst:=some d,op:=.load 4 (.tmp t),type:=T,pos:=pos,after:=af,guard:=gu } [(j,some t)]:=by
 intro w x hC
 refine ay _ fun hdeps K hK=>?_
 have g1:=hdeps (j,some t) (by simp)
 rw [hj] at g1
 have e1 : (putE x a0 [(j,some t)]).eval (.tmp t) = x j:=putE_new _ _ (by rw [hN]; exact of_decide_eq_true ht) (by simp [slotAt])
 obtain ⟨A,m,c,h1,h2,hz⟩:=iu hC hl
 refine cb (w':=w) rfl (by rw [az,hN]) hd (ex_load (e1.trans g1) (run_loadS h1)) (hK _ _ ?_ ?_)
 · rw [hi]; exact Below.refl _ _
 · rw [hi]; rfl
theorem st_loadKRow {d t j g k : Nat} {z : Int} (hl : AtR W0 g 0 k z)    (hj : at_ ks j = kIs (.pointer (some ⟨g,1,none⟩))) (hi : at_ ks i = kRow z) (hN : a0.tmps.size = N:=by assumption) (hd : decide (d < N) = true:=by kernel_rfl) (ht : decide (t < N) = true:=by kernel_rfl) :
   PkStep Tryz.prog (fun w=>Reg B W0 [g] w ∧ w.heap[g]? = W0.heap[g]?) S0 ks a0 i { dst:=some d,op:=.load 22 (.tmp t),type:=T,pos:=pos,after:=af,guard:=gu } [(j,some t)]:=by
 intro w x hC
 refine ay _ fun hdeps K hK=>?_
 have g1:=hdeps (j,some t) (by simp)
 rw [hj] at g1
 have e1 : (putE x a0 [(j,some t)]).eval (.tmp t) = x j:=putE_new _ _ (by rw [hN]; exact of_decide_eq_true ht) (by simp [slotAt])
 obtain ⟨A,m,c,h1,h2,A',m',c',e,hr,_⟩:=iu hC hl
 injection e with e; injection e with e; injection e with _ e; injection e with e _; injection e with q1 q2 q3
 subst q1; subst q2; subst q3
 refine cb (w':=w) rfl (by rw [az,hN]) hd (ex_load (e1.trans g1) (run_loadRow h2)) (hK _ _ ?_ ?_)
 · rw [hi]; exact Below.refl _ _
 · rw [hi]; exact hr
end
theorem zOf_mul (x y : Int) : zOf (x.natAbs * y.natAbs) (decide (x < 0) != decide (y < 0)) = x * y:=by
 unfold zOf
 have e:=Int.natAbs_mul x y
 have hx : x < 0 ∨ 0 ≤ x:=by omega
 have hy : y < 0 ∨ 0 ≤ y:=by omega
 rcases hx with hx | hx <;> rcases hy with hy | hy
 · have h:=Int.mul_pos_of_neg_of_neg hx hy; simp [hx,hy]; rw [← Int.natCast_mul,← e]; omega
 · have h:=Int.mul_nonpos_of_nonpos_of_nonneg (Int.le_of_lt hx) hy; have hy' : ¬ y < 0:=by omega
   simp [hx,hy']; rw [← Int.natCast_mul,← e]; omega
 · have h:=Int.mul_nonpos_of_nonneg_of_nonpos hx (Int.le_of_lt hy); have hx' : ¬ x < 0:=by omega
   simp [hx',hy]; rw [← Int.natCast_mul,← e]; omega
 · have h:=Int.mul_nonneg hx hy; have hx' : ¬ x < 0:=by omega
   have hy' : ¬ y < 0:=by omega
   simp [hx',hy']; rw [← Int.natCast_mul,← e]; omega
theorem r2_addL {w : World} {v : Value} {l : List (Nat × Int)} (h : ∃ g,v = .slice (some ⟨g,0,none⟩) l.length l.length ∧ g < w.heap.size ∧ ZRs w g l) (hk : ∀ q ∈ l,q.1 ≤ 39) (hlen : l.length ≤ 100000) (hacc : ∀ i,i ≤ l.length → (qsum (l.take i)).natAbs < 1000000000 ^ 39) :
   Calls Tryz.prog 75 #[v] w (TellsZ w 39 (qsum l)):=by
 obtain ⟨g2,rfl,hg2,hl2⟩:=h
 go_enter Tryz.func75,Tryz.ntmps75
 repeat apply wp_seq
 refine mf fun K HK=>?_
 go_wp2
 refine HK.out _ _ (then_n ?_)
 refine mb (G:=fun W=>Code.wp _ _ _ _ W) ?_
 intro W_0 bb_0 K0
 have R_0:=ll K0
 have LL_0:=hl2.below bb_0
 clear K0 hl2
 refine ly (G:=fun a=>Code.wp _ _ _ a _) 20 ?_
 intro a_0 ha hN_0 hD_0
 have e0_0 : a_0.eval (.tmp 0) = (.slice (some ⟨g2,0,none⟩) l.length l.length):=ma ha
 have e2_0:=lu ha 2 w.heap.size
 repeat first | apply lw | apply lx
 refine lm bb_0 [kZ 1 (0),PK.fresh 2,kPutZ 1 1 (0)] [[],[],[1,0]] [5,3,999] [] [] ?_ ?_
 · refine aa rfl rfl (aq [.int .i64 (0)] rfl rfl fun hC=>tz (r2_of (0) (by decide) (by decide) (by decide))) ?_; refine ar ?_; refine bf ?_; exact ae rfl
 intro W_1 x a_1 hC hall ha hN_1 hD_1 bb_1
 obtain ⟨g3,hx,hge,hl3⟩:=bh (me hall 2)
 have d3:=Nat.lt_of_lt_of_le R_0.lt hge
 have e0_1:=ab ha e0_0
 have e2_1:=ab ha e2_0
 have e3_1:=(ak (t:=3) (i:=1) ha).trans (hx)
 have R_1:=hC.holds R_0
 have LL_1:=hC.zrs LL_0
 clear hx hge hC hall
 have X_1:=hl3
 clear hl3
 repeat first | apply lw | apply lx
 refine wp_set fun x hx=>?_
 refine then_n ?_
 obtain ⟨a_2,ha⟩ : ∃ a,a = putE x a_1 [(0,some 4)]:=⟨_,rfl⟩
 rw [← ha]
 have hN_2:=size_behind ha hN_1
 have hD_2:=defers_behind ha hD_1
 have e0_2:=ab ha e0_1
 have e2_2:=ab ha e2_1
 have e3_2:=ab ha e3_1
 have e4_2:=(ak (t:=4) (i:=0) ha).trans (hx)
 have bb_2:=bb_1
 have R_2:=R_1
 have LL_2:=LL_1
 have X_2:=X_1
 clear hx
 repeat first | apply lw | apply lx
 refine wp_block ?_
 refine wp_loop (fun a W=>a.tmps.size = 20 ∧ a.defers = [] ∧ a.eval (.tmp 0) = (.slice (some ⟨g2,0,none⟩) l.length l.length) ∧ a.eval (.tmp 2) = (.pointer (some ⟨w.heap.size,0,none⟩)) ∧ a.eval (.tmp 3) = .pointer (some ⟨g3,0,none⟩) ∧ Below w.heap.size w W ∧ Holds_ W w.heap.size #[Value.bool false,Value.slice none 0 0] ∧ ZRs W g2 l ∧ ∃ i : Nat,i ≤ l.length ∧ a.eval (.tmp 4) = .int .i64 (i : Int) ∧ LocR W g3 39 (qsum (l.take i))) (fun a _=>l.length - (intOf (a.eval (.tmp 4))).toNat) ?_ ?_
 · exact ⟨hN_2,hD_2,e0_2,e2_2,e3_2,bb_2,R_2,LL_2,0,Nat.zero_le _,e4_2,zero_loc X_2⟩
 clear hN_2 hD_2 e0_2 e2_2 e3_2 e4_2 bb_2 R_2 LL_2 X_2
 rintro a_10 W_10 ⟨hN_10,hD_10,e0_10,e2_10,e3_10,bb_10,R_10,LL_10,i,hi7,e4_10,X_10⟩
 have hm : intOf (a_10.eval (.tmp 4)) = (i : Int):=by rw [e4_10]; rfl
 rw [hm]
 clear hm
 repeat first | apply lw | apply lx
 refine lh e4_10 e0_10 (len_runI _ _ _ _) (less_run _ _) fun x hx=>?_
 refine then_n ?_
 obtain ⟨a_11,ha⟩ : ∃ a,a = putE x a_10 [(0,some 6),(1,some 7),(2,some 8),(3,some 9)]:=⟨_,rfl⟩
 rw [← ha]
 have hN_11:=size_behind ha hN_10
 have hD_11:=defers_behind ha hD_10
 have e0_11:=ab ha e0_10
 have e2_11:=ab ha e2_10
 have e3_11:=ab ha e3_10
 have e4_11:=ab ha e4_10
 have e9_11:=(ak (t:=9) (i:=3) ha).trans (hx)
 have bb_11:=bb_10
 have R_11:=R_10
 have LL_11:=LL_10
 have X_11:=X_10
 clear hx
 by_cases hi : i < l.length
 ·
   have hc : decide ((i : Int) < (l.length : Int)) = true:=decide_eq_true (by omega); rw [hc] at e9_11; clear hc; refine wp_cond_true e9_11 ?_; refine wp_skip ?_; refine then_n ?_
   repeat first | apply lw | apply lx
   refine wp_block ?_
   repeat first | apply lw | apply lx
   obtain ⟨q,hq⟩ : ∃ q,l[i]? = some q:=⟨l[i],List.getElem?_eq_getElem hi⟩
   have hqk:=hk q (List.mem_of_getElem? hq); obtain ⟨u3,v3,X3⟩ : ∃ u v,Holds_ W_10 g3 #[u,v]:=by obtain ⟨A,m,c,hh,_⟩:=X_11; exact ⟨_,_,hh⟩
   have dg2 : g2 ≠ g3:=by omega
   refine ce w.heap.size g3 X3 (by omega) 7 [0] [kZ 39 (qsum (l.take i)),kIs ((.slice (some ⟨g2,0,none⟩) l.length l.length)),kIs (.int .i64 (i : Int)),kIs (.pointer (some ⟨g2,i * 2,none⟩)),kZ q.1 q.2,kZ q.1 q.2,kZ 40 (qsum (l.take i) + q.2),kResZ g3 40 (qsum (l.take i) + q.2)] [ [],[],[],[(1,some 13),(2,some 14)],[(3,some 15)],[(4,some 16)],[(0,some 12),(5,some 17)],[(6,some 18)] ] [(0,some 12),(1,some 13),(2,some 14),(3,some 15),(4,some 16),(5,some 17),(6,some 18),(7,none)] [] [] rfl bb_11.size ?_ ?_
   ·
     refine bj rfl rfl rfl ?_ ?_
     · exact ii X_11.atR e3_11 rfl
     refine ah rfl rfl (bq [] [(0,(.slice (some ⟨g2,0,none⟩) l.length l.length))] ((.slice (some ⟨g2,0,none⟩) l.length l.length)) rfl (old1 e0_11)) ?_; refine ah rfl rfl (bq [] [(4,(.int .i64 (i : Int)))] ((.int .i64 (i : Int))) rfl (old1 e4_11)) ?_; refine ah rfl rfl (st_idxI hi rfl rfl rfl) ?_; refine ah rfl rfl (st_loadIG LL_11 hq (by simp only [List.mem_singleton]; omega) rfl rfl) ?_; refine ah rfl rfl (ac rfl rfl fun hC h1=>tz (r2_norm ((rr h1).zc (by omega)) (by omega))) ?_; refine ah rfl rfl (ai rfl rfl rfl fun hC h1 h2=>tz (r2_plus (rr h1) ((rr h2).mono hqk))) ?_; refine ah rfl rfl (ci X3 e3_11 rfl rfl) ?_; exact cn rfl
   intro W_20 x hC hall; have hres:=show (kResZ g3 40 (qsum (l.take i) + q.2)).sem _ _ _ _ from hall 7 (of_decide_eq_true (by kernel_rfl))
   have X2 : LocR W_20 g3 39 (qsum (l.take (i + 1))):=by rw [qsum_take hq]; exact (res_locR hres).tight (by rw [← qsum_take hq]; exact hacc (i + 1) hi)
   obtain ⟨a_12,ha⟩ : ∃ a,a = putE x a_11 [(0,some 12),(1,some 13),(2,some 14),(3,some 15),(4,some 16),(5,some 17),(6,some 18),(7,none)]:=⟨_,rfl⟩
   rw [← ha]; have hN_12:=size_behind ha hN_11; have hD_12:=defers_behind ha hD_11; have e0_12:=ab ha e0_11; have e2_12:=ab ha e2_11; have e3_12:=ab ha e3_11; have e4_12:=ab ha e4_11; have bb_12:=bb_11.trans hC.below; have R_12:=hC.holdsG (by simp only [List.mem_singleton]; omega) R_11; have LL_12:=hC.zrsG (by simp only [List.mem_singleton]; omega) LL_11; have X_12:=X2; clear hres X2 hC hall X3; refine jy ?_; refine then_n ?_; refine lg (n:=(i : Int)) (m:=((i + 1 : Nat) : Int)) e4_12 (add_run i 1 (by omega)) fun x hx=>?_
   obtain ⟨a_13,ha⟩ : ∃ a,a = putE x a_12 [(0,some 10),(1,some 11),(2,some 4)]:=⟨_,rfl⟩
   rw [← ha]; have hN_13:=size_behind ha hN_12; have hD_13:=defers_behind ha hD_12; have e0_13:=ab ha e0_12; have e2_13:=ab ha e2_12; have e3_13:=ab ha e3_12; have e4_13:=(ak (t:=4) (i:=2) ha).trans (hx); have bb_13:=bb_12; have R_13:=R_12; have LL_13:=LL_12; have X_13:=X_12; refine then_n ⟨⟨hN_13,hD_13,e0_13,e2_13,e3_13,bb_13,R_13,LL_13,i + 1,by omega,e4_13,X_13⟩,?_⟩; rw [show intOf (a_13.eval (.tmp 4)) = ((i + 1 : Nat) : Int) by rw [e4_13]; rfl]; omega
 ·
   have hc : decide ((i : Int) < (l.length : Int)) = false:=decide_eq_false (by omega); rw [hc] at e9_11; clear hc; refine wp_cond_false e9_11 ?_; refine wp_exit ?_; refine iy ?_; refine iy ?_; refine ig ?_; refine then_n ?_; obtain rfl : i = l.length:=by omega
   rw [List.take_length] at X_11
   repeat first | apply lw | apply lx
   refine mg bb_11 R_11 [kZ 39 (qsum l),kResZ (w.heap.size) 39 (qsum l)] [[],[0]] [19,999] [] [] ?_ ?_
   · refine aa rfl rfl (ku (hG:=(by simp only [List.mem_singleton]; omega)) X_11.atR e3_11 rfl) ?_; refine aa rfl rfl (ci R_11 e2_11 rfl rfl) ?_; exact ae rfl
   intro W x a1 hC hall ha hN1 hD1 bb1; obtain ⟨cs,hg,hP⟩:=me hall 1; have e1:=ab (t:=2) ha e2_11
   repeat first | apply lw | apply lx
   refine wp_ret ?_
   repeat (refine then_r ?_)
   exact co (t:=2) rfl hD1 e1 hg hP fun v hv=>⟨v,rfl,hv,bb1⟩
theorem r2_mulL {w : World} {v : Value} {l : List (Nat × Int)} (h : ∃ g,v = .slice (some ⟨g,0,none⟩) l.length l.length ∧ g < w.heap.size ∧ ZRs w g l) (hk : ∀ q ∈ l,q.1 ≤ 39) (hlen : l.length ≤ 100000) (hacc : ∀ i,i ≤ l.length → (qprod (l.take i)).natAbs < 1000000000 ^ 39) :
   Calls Tryz.prog 86 #[v] w (TellsZ w 39 (qprod l)):=by
 obtain ⟨g2,rfl,hg2,hl2⟩:=h
 go_enter Tryz.func86,Tryz.ntmps86
 repeat apply wp_seq
 refine mf fun K HK=>?_
 go_wp2
 refine HK.out _ _ (then_n ?_)
 refine mb (G:=fun W=>Code.wp _ _ _ _ W) ?_
 intro W_0 bb_0 K0
 have R_0:=ll K0
 have LL_0:=hl2.below bb_0
 clear K0 hl2
 refine ly (G:=fun a=>Code.wp _ _ _ a _) 31 ?_
 intro a_0 ha hN_0 hD_0
 have e0_0 : a_0.eval (.tmp 0) = (.slice (some ⟨g2,0,none⟩) l.length l.length):=ma ha
 have e2_0:=lu ha 2 w.heap.size
 repeat first | apply lw | apply lx
 refine lm bb_0 [kZ 1 (1),PK.fresh 2,kPutZ 1 1 (1)] [[],[],[1,0]] [6,3,999] [] [] ?_ ?_
 · refine aa rfl rfl (aq [.int .i64 (1)] rfl rfl fun hC=>tz (r2_of (1) (by decide) (by decide) (by decide))) ?_; refine ar ?_; refine bf ?_; exact ae rfl
 intro W_1 x a_1 hC hall ha hN_1 hD_1 bb_1
 obtain ⟨g3,hx,hge,hl3⟩:=bh (me hall 2)
 have d3:=Nat.lt_of_lt_of_le R_0.lt hge
 have e0_1:=ab ha e0_0
 have e2_1:=ab ha e2_0
 have e3_1:=(ak (t:=3) (i:=1) ha).trans (hx)
 have R_1:=hC.holds R_0
 have LL_1:=hC.zrs LL_0
 clear hx hge hC hall
 have X_1:=hl3
 clear hl3
 repeat first | apply lw | apply lx
 refine wp_set fun x hx=>?_
 refine then_n ?_
 obtain ⟨a_2,ha⟩ : ∃ a,a = putE x a_1 [(0,some 4)]:=⟨_,rfl⟩
 rw [← ha]
 have hN_2:=size_behind ha hN_1
 have hD_2:=defers_behind ha hD_1
 have e0_2:=ab ha e0_1
 have e2_2:=ab ha e2_1
 have e3_2:=ab ha e3_1
 have e4_2:=(ak (t:=4) (i:=0) ha).trans (hx)
 have bb_2:=bb_1
 have R_2:=R_1
 have LL_2:=LL_1
 have X_2:=X_1
 clear hx
 repeat first | apply lw | apply lx
 refine wp_block ?_
 refine wp_loop (fun a W=>a.tmps.size = 31 ∧ a.defers = [] ∧ a.eval (.tmp 0) = (.slice (some ⟨g2,0,none⟩) l.length l.length) ∧ a.eval (.tmp 2) = (.pointer (some ⟨w.heap.size,0,none⟩)) ∧ a.eval (.tmp 3) = .pointer (some ⟨g3,0,none⟩) ∧ Below w.heap.size w W ∧ Holds_ W w.heap.size #[Value.bool false,Value.slice none 0 0] ∧ ZRs W g2 l ∧ ∃ i : Nat,i ≤ l.length ∧ a.eval (.tmp 4) = .int .i64 (i : Int) ∧ LocR W g3 39 (qprod (l.take i))) (fun a _=>l.length - (intOf (a.eval (.tmp 4))).toNat) ?_ ?_
 · exact ⟨hN_2,hD_2,e0_2,e2_2,e3_2,bb_2,R_2,LL_2,0,Nat.zero_le _,e4_2,one_loc X_2⟩
 clear hN_2 hD_2 e0_2 e2_2 e3_2 e4_2 bb_2 R_2 LL_2 X_2
 rintro a_10 W_10 ⟨hN_10,hD_10,e0_10,e2_10,e3_10,bb_10,R_10,LL_10,i,hi7,e4_10,X_10⟩
 have hm : intOf (a_10.eval (.tmp 4)) = (i : Int):=by rw [e4_10]; rfl
 rw [hm]
 clear hm
 repeat first | apply lw | apply lx
 refine lh e4_10 e0_10 (len_runI _ _ _ _) (less_run _ _) fun x hx=>?_
 refine then_n ?_
 obtain ⟨a_11,ha⟩ : ∃ a,a = putE x a_10 [(0,some 7),(1,some 8),(2,some 9),(3,some 10)]:=⟨_,rfl⟩
 rw [← ha]
 have hN_11:=size_behind ha hN_10
 have hD_11:=defers_behind ha hD_10
 have e0_11:=ab ha e0_10
 have e2_11:=ab ha e2_10
 have e3_11:=ab ha e3_10
 have e4_11:=ab ha e4_10
 have e10_11:=(ak (t:=10) (i:=3) ha).trans (hx)
 have bb_11:=bb_10
 have R_11:=R_10
 have LL_11:=LL_10
 have X_11:=X_10
 clear hx
 by_cases hi : i < l.length
 ·
   have hc : decide ((i : Int) < (l.length : Int)) = true:=decide_eq_true (by omega); rw [hc] at e10_11; clear hc; refine wp_cond_true e10_11 ?_; refine wp_skip ?_; refine then_n ?_
   repeat first | apply lw | apply lx
   refine wp_block ?_
   repeat first | apply lw | apply lx
   obtain ⟨q,hq⟩ : ∃ q,l[i]? = some q:=⟨l[i],List.getElem?_eq_getElem hi⟩
   have hqk:=hk q (List.mem_of_getElem? hq); refine lm bb_11 [kIs ((.slice (some ⟨g2,0,none⟩) l.length l.length)),kIs (.int .i64 (i : Int)),kIs (.pointer (some ⟨g2,i * 2,none⟩)),kZ q.1 q.2,kZ q.1 q.2,PK.fresh 2,kPutZ 5 q.1 q.2] [[],[],[0,1],[2],[3],[],[5,4]] [13,14,15,16,17,5,999] [] [] ?_ ?_
   ·
     refine p01 e0_11 ?_; refine p01 e4_11 ?_; refine aa rfl rfl (st_idxI hi rfl rfl rfl) ?_; refine aa rfl rfl (st_loadIG LL_11 hq (by simp) rfl rfl) ?_; refine aa rfl rfl (ac rfl rfl fun hC h1=>tz (r2_norm ((rr h1).zc (by omega)) (by omega))) ?_; refine ar ?_; refine bf ?_; exact ae rfl
   intro W_15 x a_12 hC hall ha hN_12 hD_12 bb_12; obtain ⟨g5,hx,hge,hl5⟩:=bh (me hall 6); obtain ⟨u3,v3,X3⟩ : ∃ u v,Holds_ W_15 g3 #[u,v]:=by obtain ⟨A,m,c,hh,_⟩:=hC.locR X_11; exact ⟨_,_,hh⟩
   have d5 : g3 < g5:=by obtain ⟨A,m,c,hh,_⟩:=X_11; exact Nat.lt_of_lt_of_le hh.lt hge
   have e0_12:=ab ha e0_11; have e2_12:=ab ha e2_11; have e3_12:=ab ha e3_11; have e4_12:=ab ha e4_11; have e5_12:=(ak (t:=5) (i:=5) ha).trans (hx); have R_12:=hC.holds R_11; have LL_12:=hC.zrs LL_11; have X_12:=hC.locR X_11; have Y_12:=hl5; clear hx hge hC hall hl5
   repeat first | apply lw | apply lx
   have hb39 : (((qprod (l.take i))).natAbs * (q.2).natAbs) < 1000000000 ^ 39:=by have:=hacc (i + 1) hi; rw [qprod_take hq,Int.natAbs_mul] at this; exact this
   have hbA : ((qprod (l.take i))).natAbs < 1000000000 ^ 39:=hacc i hi7; have hbq : (q.2).natAbs < 1000000000 ^ 39:=by obtain ⟨A,m,c,_,A',m',c',_,_,hh⟩:=Y_12; exact Nat.lt_of_lt_of_le hh (pow_le hqk)
   refine gc hN_12 w.heap.size g3 X3 (by omega) 12 [1, 6] [kIs (.pointer (some ⟨g3, 0, none⟩)), kIs (.bool (decide ((qprod (l.take i)) < 0))), kIs (.pointer (some ⟨g5, 0, none⟩)), kIs (.bool (decide (q.2 < 0))), kIs (.bool (decide ((qprod (l.take i)) < 0) != decide (q.2 < 0))), kIs (.pointer (some ⟨g3, 1, none⟩)), kRow (qprod (l.take i)), kIs (.pointer (some ⟨g5, 1, none⟩)), kRow q.2, kRR ((qprod (l.take i))).natAbs (q.2).natAbs, kRow ((((qprod (l.take i))).natAbs * (q.2).natAbs : Nat) : Int), kZ 39 (zOf (((qprod (l.take i))).natAbs * (q.2).natAbs) (decide ((qprod (l.take i)) < 0) != decide (q.2 < 0))), kResZ g3 39 (zOf (((qprod (l.take i))).natAbs * (q.2).natAbs) (decide ((qprod (l.take i)) < 0) != decide (q.2 < 0)))]
     [ [],[(0,some 18)],[],[(2,some 20)],[(1,some 19),(3,some 21)],[],[(5,some 23)],[],[(7,some 25)],[(6,some 24),(8,some 26)],[(9,some 27)],[(4,some 22),(10,some 28)],[(11,some 29)] ] [(0,some 18),(1,some 19),(2,some 20),(3,some 21),(4,some 22),(5,some 23),(6,some 24),(7,some 25),(8,some 26),(9,some 27),(10,some 28),(11,some 29),(12,none)] [] [] (by kernel_rfl) (by kernel_rfl) (by kernel_rfl) (by kernel_rfl) (by kernel_rfl) (by kernel_rfl) (by kernel_rfl) rfl rfl (by kernel_rfl) (by kernel_rfl) bb_12.size ?_ ?_
   ·
     refine ah rfl rfl (bq [] [(3,.pointer (some ⟨g3,0,none⟩))] (.pointer (some ⟨g3,0,none⟩)) rfl (old1 e3_12)) ?_; refine bj rfl rfl rfl ?_ ?_
     · exact st_loadKS X_12.atR rfl rfl
     refine ah rfl rfl (bq [] [(5,.pointer (some ⟨g5,0,none⟩))] (.pointer (some ⟨g5,0,none⟩)) rfl (old1 e5_12)) ?_; refine ah rfl rfl (st_loadS (s:=decide (q.2 < 0)) (hG:=(by simp only [List.mem_singleton]; omega)) Y_12.atR rfl rfl rfl) ?_; refine ah rfl rfl (bq [.bool (decide ((qprod (l.take i)) < 0)),.bool (decide (q.2 < 0))] [] (.bool (decide ((qprod (l.take i)) < 0) != decide (q.2 < 0))) rfl old0) ?_; refine ah rfl rfl (bq [] [(3,.pointer (some ⟨g3,0,none⟩))] (.pointer (some ⟨g3,1,none⟩)) rfl (old1 e3_12)) ?_; refine bj rfl rfl rfl ?_ ?_
     · exact st_loadKRow X_12.atR rfl rfl
     refine ah rfl rfl (bq [] [(5,.pointer (some ⟨g5,0,none⟩))] (.pointer (some ⟨g5,1,none⟩)) rfl (old1 e5_12)) ?_; refine ah rfl rfl (ax (hG:=(by simp only [List.mem_singleton]; omega)) Y_12.atR rfl rfl) ?_; refine ah rfl rfl (st_rows2 rfl rfl rfl) ?_; refine ah rfl rfl (ac rfl rfl fun hC h1=>tr rfl (r1_mul (N:=39) (M:=39) h1 hbA hbq hb39 (by decide) (by decide) (by decide))) ?_; refine ah rfl rfl (ai rfl rfl rfl fun hC h1 h2=>tz (r2_mkB h1 h2 hb39 (by decide))) ?_; refine ah rfl rfl (ci X3 e3_12 rfl rfl) ?_; exact cn rfl
   intro W_20 x hC hall; have hres:=show (kResZ g3 39 (zOf (((qprod (l.take i))).natAbs * (q.2).natAbs) (decide ((qprod (l.take i)) < 0) != decide (q.2 < 0)))).sem _ _ _ _ from hall 12 (of_decide_eq_true (by kernel_rfl))
   have X2 : LocR W_20 g3 39 (qprod (l.take (i + 1))):=by have h:=res_locR hres; rw [zOf_mul,← qprod_take hq] at h; exact h
   obtain ⟨a_13,ha⟩ : ∃ a,a = putE x a_12 [(0,some 18),(1,some 19),(2,some 20),(3,some 21),(4,some 22),(5,some 23),(6,some 24),(7,some 25),(8,some 26),(9,some 27),(10,some 28),(11,some 29),(12,none)]:=⟨_,rfl⟩
   rw [← ha]; have hN_13:=size_behind ha hN_12; have hD_13:=defers_behind ha hD_12; have e0_13:=ab ha e0_12; have e2_13:=ab ha e2_12; have e3_13:=ab ha e3_12; have e4_13:=ab ha e4_12; have bb_13:=bb_12.trans hC.below; have R_13:=hC.holdsG (by simp only [List.mem_singleton]; omega) R_12; have LL_13:=hC.zrsG (by simp only [List.mem_singleton]; omega) LL_12; have X_13:=X2; clear hres X2 hC hall X3 Y_12; refine jy ?_; refine then_n ?_; refine lg (n:=(i : Int)) (m:=((i + 1 : Nat) : Int)) e4_13 (add_run i 1 (by omega)) fun x hx=>?_
   obtain ⟨a_14,ha⟩ : ∃ a,a = putE x a_13 [(0,some 11),(1,some 12),(2,some 4)]:=⟨_,rfl⟩
   rw [← ha]; have hN_14:=size_behind ha hN_13; have hD_14:=defers_behind ha hD_13; have e0_14:=ab ha e0_13; have e2_14:=ab ha e2_13; have e3_14:=ab ha e3_13; have e4_14:=(ak (t:=4) (i:=2) ha).trans (hx); have bb_14:=bb_13; have R_14:=R_13; have LL_14:=LL_13; have X_14:=X_13; refine then_n ⟨⟨hN_14,hD_14,e0_14,e2_14,e3_14,bb_14,R_14,LL_14,i + 1,by omega,e4_14,X_14⟩,?_⟩; rw [show intOf (a_14.eval (.tmp 4)) = ((i + 1 : Nat) : Int) by rw [e4_14]; rfl]; omega
 ·
   have hc : decide ((i : Int) < (l.length : Int)) = false:=decide_eq_false (by omega); rw [hc] at e10_11; clear hc; refine wp_cond_false e10_11 ?_; refine wp_exit ?_; refine iy ?_; refine iy ?_; refine ig ?_; refine then_n ?_; obtain rfl : i = l.length:=by omega
   rw [List.take_length] at X_11
   repeat first | apply lw | apply lx
   refine mg bb_11 R_11 [kZ 39 (qprod l),kResZ (w.heap.size) 39 (qprod l)] [[],[0]] [30,999] [] [] ?_ ?_
   · refine aa rfl rfl (ku (hG:=(by simp only [List.mem_singleton]; omega)) X_11.atR e3_11 rfl) ?_; refine aa rfl rfl (ci R_11 e2_11 rfl rfl) ?_; exact ae rfl
   intro W x a1 hC hall ha hN1 hD1 bb1; obtain ⟨cs,hg,hP⟩:=me hall 1; have e1:=ab (t:=2) ha e2_11
   repeat first | apply lw | apply lx
   refine wp_ret ?_
   repeat (refine then_r ?_)
   exact co (t:=2) rfl hD1 e1 hg hP fun v hv=>⟨v,rfl,hv,bb1⟩
def TellsDM (w : World) (q r : Int) (e : Ending) (w' : World) : Prop:=∃ v v',e = .returned (.tuple #[v,v',.int .i64 (0)]) ∧ Zr w' v 40 q ∧ Zr w' v' 40 r ∧ Below w.heap.size w w'
def Mul2 (a b : Int) : Prop:=a.natAbs < 1000000000 ^ 39 ∧ (a * b).natAbs < 1000000000 ^ 39
theorem r2_mul2 {w : World} {v : Value} {S0 : Nat} {x : Nat → Value} {j k : Nat} {a b : Int} (h : (kZRs [(j,a),(k,b)]).sem S0 x v w) (hm : Mul2 a b) (hj : j ≤ 39:=by decide) (hk : k ≤ 39:=by decide) : Calls Tryz.prog 86 #[v] w (TellsZ w 39 (a * b)):=by
 obtain ⟨g,e,_,h2,h3⟩:=h
 have h:=r2_mulL (l:=[(j,a),(k,b)]) ⟨g,e,h2,h3⟩ (fun q hq=>by
   rcases List.mem_cons.1 hq with h | h
   · rw [h]; exact hj
   · rw [List.mem_singleton.1 h]; exact hk) (by simp) (fun i hi=>by
   have hi2 : i ≤ 2:=hi; have h3 : i = 0 ∨ i = 1 ∨ i = 2:=by omega
   rcases h3 with rfl | rfl | rfl
   · exact (by decide : (1 : Int).natAbs < 1000000000 ^ 39)
   · simpa [qprod] using hm.1
   · simpa [qprod] using hm.2)
 simpa [qprod] using h
theorem loc_lt {W : World} {g k : Nat} {z : Int} (h : LocR W g k z) : g < W.heap.size:=by
 obtain ⟨A,m,c,hh,_⟩:=h
 exact hh.lt
theorem locG {B : Nat} {W0 w : World} {G : List Nat} (h : Reg B W0 G w) {g k : Nat} {z : Int} (hg : g ∉ G) (hl : LocR W0 g k z) : LocR w g k z:=by
 obtain ⟨A,m,c,hh,A',m',c',e,hr,hz⟩:=hl
 exact ⟨A,m,c,h.holdsG hg hh,A',m',c',e,h.rr hr,hz⟩
def kLen (z : Int) : PK:=.p (fun v _=>∃ k : Nat,v = .int .i64 (k : Int) ∧ (k = 0 ↔ z = 0)) (fun _ _ _ h _=>h) (fun _ _ _ _ h _=>h)
def kRRB (a b : Int) : PK:=.p (fun v w=>∃ u u',v = .tuple #[u,u',.bool true] ∧ Rr w u a.natAbs ∧ Rr w u' b.natAbs) (fun _ _ _ ⟨u,u',h1,h2,h3⟩ hb=>⟨u,u',h1,h2.below hb,h3.below hb⟩) (fun _ _ _ _ ⟨u,u',h1,h2,h3⟩ hs=>⟨u,u',h1,hs.rr h2,hs.rr h3⟩)
theorem ext_d0 {S0 : Nat} {a b : Int} : ∀ w x v,(kRRB a b).sem S0 x v w → ∃ vs u,v = .tuple vs ∧ vs[0]? = some u ∧ (kRow a).move S0 x u w w ∧ (kRow a).sem S0 x u w:=fun _ _ _ ⟨u,_,h1,h2,_⟩=>⟨_,u,h1,rfl,Below.refl _ _,h2⟩
theorem ext_d1 {S0 : Nat} {a b : Int} : ∀ w x v,(kRRB a b).sem S0 x v w → ∃ vs u,v = .tuple vs ∧ vs[1]? = some u ∧ (kRow b).move S0 x u w w ∧ (kRow b).sem S0 x u w:=fun _ _ _ ⟨_,u,h1,_,h2⟩=>⟨_,u,h1,rfl,Below.refl _ _,h2⟩
theorem ext_d2 {S0 : Nat} {a b : Int} : ∀ w x v,(kRRB a b).sem S0 x v w → ∃ vs u,v = .tuple vs ∧ vs[2]? = some u ∧ (kIs (.bool true)).move S0 x u w w ∧ (kIs (.bool true)).sem S0 x u w:=fun _ _ _ ⟨_,_,h1,_,_⟩=>⟨_,_,h1,rfl,Below.refl _ _,rfl⟩
theorem r1_div {w : World} {v1 v2 : Value} {n1 n2 N : Nat} (h1 : Rr w v1 n1) (h2 : Rr w v2 n2) (hn1 : n1 < 1000000000 ^ N) (hn2 : n2 < 1000000000 ^ N) (hN : N ≤ 1000) (h0 : 0 < n2) {S0 : Nat} {x : Nat → Value} : Calls Tryz.prog 96 #[v1,v2] w (Told (kRRB ((n1 / n2 : Nat) : Int) ((n1 % n2 : Nat) : Int)) S0 x w):=by
 obtain ⟨A1,k1,c1,rfl⟩:=h1.shape
 obtain ⟨A2,k2,c2,rfl⟩:=h2.shape
 exact (vr_div h1 h2 hn1 hn2 hN h0).mono fun e w' ⟨A,k,c,B,j,d,he,hq,hr,hb⟩=>⟨_,he,hb,_,_,rfl,hq,hr⟩
theorem run_lenRow {w : World} {A : Option Addr} {l c : Nat} (T : TypeId) : (Builtin.len_ #[ 22 ] T #[.slice A l c]).run Tryz.prog w = .ok (.int .i64 (l : Int)) w:=by kernel_rfl
section
variable {G : List Nat} {C : World → Prop} {S0 B : Nat} {ks : List PK} {a0 : Act} {i : Nat} {N : Nat} {W0 : World} {T : TypeId} {pos : String} {af : Array Edge} {gu : Option (Nat × Bool)}
theorem go {d t j : Nat} {z : Int}    (hj : at_ ks j = kRow z) (hi : at_ ks i = kLen z) (hN : a0.tmps.size = N:=by assumption) (hd : decide (d < N) = true:=by kernel_rfl) (ht : decide (t < N) = true:=by kernel_rfl) :
   PkStep Tryz.prog C S0 ks a0 i { dst:=some d,op:=.call { callee:=.builtin .len,args:=#[.tmp t],argTypes:=#[ 22 ] },type:=T,pos:=pos,after:=af,guard:=gu } [(j,some t)]:=by
 intro w x hC
 refine ay _ fun hdeps K hK=>?_
 have g1:=hdeps (j,some t) (by simp)
 rw [hj] at g1
 have g1' : Rr w (x j) z.natAbs:=g1
 obtain ⟨A,l,c,hx⟩:=g1'.shape
 rw [hx] at g1'
 have hk:=(rr_len g1').1
 have e1 : (putE x a0 [(j,some t)]).eval (.tmp t) = x j:=putE_new _ _ (by rw [hN]; exact of_decide_eq_true ht) (by simp [slotAt])
 refine cb (v:=.int .i64 (l : Int)) (w':=w) rfl (by rw [az,hN]) hd ?_ (hK _ _ ?_ ?_)
 · have e2 : ((#[.tmp t] : Array Operand).map (putE x a0 [(j,some t)]).eval) = #[.slice A l c]:=by simp only [List.map_toArray,List.map_cons,List.map_nil,e1,hx]
   have h2:=run_lenRow (w:=w) (A:=A) (l:=l) (c:=c) T; simp only [execOp,resolve,invoke,builtin,Sem.run_bind,Sem.run_pure,Result.andThen_ok,e2,h2]
 · rw [hi]; exact Below.refl _ _
 · rw [hi]; exact ⟨l,rfl,by rw [hk]; omega⟩
theorem len_eq (k : Nat) : ∀ w,(binOp .eql 3 (.int .i64 (k : Int)) (.int .i64 0)).run Tryz.prog w = .ok (.bool (decide ((k : Int) = 0))) w:=fun _=>by kernel_rfl
theorem len_gt (k : Nat) : ∀ w,(binOp .gtr 3 (.int .i64 (k : Int)) (.int .i64 0)).run Tryz.prog w = .ok (.bool (decide (0 < (k : Int)))) w:=fun _=>by kernel_rfl
theorem st_len0 {d t j : Nat} {z : Int} {b : Bool} (hb : decide (z = 0) = b)    (hj : at_ ks j = kLen z) (hi : at_ ks i = kIs (.bool b)) (hN : a0.tmps.size = N:=by assumption) (hd : decide (d < N) = true:=by kernel_rfl) (ht : decide (t < N) = true:=by kernel_rfl) :
   PkStep Tryz.prog C S0 ks a0 i { dst:=some d,op:=.binOp .eql 3 (.tmp t) (.const (.int .i64 0)) 3,type:=T,pos:=pos,after:=af,guard:=gu } [(j,some t)]:=by
 intro w x hC
 refine ay _ fun hdeps K hK=>?_
 have g1:=hdeps (j,some t) (by simp)
 rw [hj] at g1
 obtain ⟨k,hx,hk⟩:=(show ∃ k : Nat,x j = .int .i64 (k : Int) ∧ (k = 0 ↔ z = 0) from g1)
 have e1 : (putE x a0 [(j,some t)]).eval (.tmp t) = x j:=putE_new _ _ (by rw [hN]; exact of_decide_eq_true ht) (by simp [slotAt])
 have e3 : decide ((k : Int) = 0) = b:=by rw [← hb]; exact decide_eq_decide.2 (by omega)
 refine cb (v:=.bool b) (w':=w) rfl (by rw [az,hN]) hd ?_ (hK _ _ ?_ ?_)
 · show (((do eqGuard .eql 3 (.tmp t) (.const (.int .i64 0)) ((putE x a0 [(j,some t)]).eval (.tmp t)) (.int .i64 0); binOp .eql 3 ((putE x a0 [(j,some t)]).eval (.tmp t)) (.int .i64 0)) : Sem Value) >>= fun v=>pure (Next.value v)).run _ w = _
   rw [e1,hx]
   have e2 : ((do eqGuard .eql 3 (.tmp t) (.const (.int .i64 0)) (.int .i64 (k : Int)) (.int .i64 0); binOp .eql 3 (.int .i64 (k : Int)) (.int .i64 0)) : Sem Value).run Tryz.prog w = .ok (.bool b) w:=by
     rw [bm (v:=()) (w':=w) rfl,len_eq,e3]
   rw [bm e2]; rfl
 · rw [hi]; exact Below.refl _ _
 · rw [hi]; rfl
theorem st_lenG {d t j : Nat} {z : Int} {b : Bool} (hb : decide (z ≠ 0) = b)    (hj : at_ ks j = kLen z) (hi : at_ ks i = kIs (.bool b)) (hN : a0.tmps.size = N:=by assumption) (hd : decide (d < N) = true:=by kernel_rfl) (ht : decide (t < N) = true:=by kernel_rfl) :
   PkStep Tryz.prog C S0 ks a0 i { dst:=some d,op:=.binOp .gtr 3 (.tmp t) (.const (.int .i64 0)) 3,type:=T,pos:=pos,after:=af,guard:=gu } [(j,some t)]:=by
 intro w x hC
 refine ay _ fun hdeps K hK=>?_
 have g1:=hdeps (j,some t) (by simp)
 rw [hj] at g1
 obtain ⟨k,hx,hk⟩:=(show ∃ k : Nat,x j = .int .i64 (k : Int) ∧ (k = 0 ↔ z = 0) from g1)
 have e1 : (putE x a0 [(j,some t)]).eval (.tmp t) = x j:=putE_new _ _ (by rw [hN]; exact of_decide_eq_true ht) (by simp [slotAt])
 have e3 : decide (0 < (k : Int)) = b:=by rw [← hb]; exact decide_eq_decide.2 (by omega)
 refine cb (v:=.bool b) (w':=w) rfl (by rw [az,hN]) hd ?_ (hK _ _ ?_ ?_)
 · show (((do eqGuard .gtr 3 (.tmp t) (.const (.int .i64 0)) ((putE x a0 [(j,some t)]).eval (.tmp t)) (.int .i64 0); binOp .gtr 3 ((putE x a0 [(j,some t)]).eval (.tmp t)) (.int .i64 0)) : Sem Value) >>= fun v=>pure (Next.value v)).run _ w = _
   rw [e1,hx]
   have e2 : ((do eqGuard .gtr 3 (.tmp t) (.const (.int .i64 0)) (.int .i64 (k : Int)) (.int .i64 0); binOp .gtr 3 (.int .i64 (k : Int)) (.int .i64 0)) : Sem Value).run Tryz.prog w = .ok (.bool b) w:=by
     rw [bm (v:=()) (w':=w) rfl,len_gt,e3]
   rw [bm e2]; rfl
 · rw [hi]; exact Below.refl _ _
 · rw [hi]; rfl
end
theorem li {fn : Func} {R : Ending → World → Prop} {a : Act} {w : World} {t t' u g g' k k' : Nat} {x y : Int} {V : Value} (hres : fn.results = #[.cell t 24,.cell t' 24,.tmp u]) (hd : a.defers = []) (hp : a.eval (.tmp t) = .pointer (some ⟨g,0,none⟩)) (hp2 : a.eval (.tmp t') = .pointer (some ⟨g',0,none⟩)) (hu : a.eval (.tmp u) = V) (h1 : LocR w g k x) (h2 : LocR w g' k' y) (hR : ∀ v v',Zr w v k x → Zr w v' k' y → R (.returned (.tuple #[v,v',V])) w) : bodyPost Tryz.prog fn R .ret a w:=by
 obtain ⟨A,l,c,hg,h⟩:=h1
 obtain ⟨A',l',c',hg',h'⟩:=h2
 obtain ⟨m1,m2,_,_⟩:=hg.two'
 obtain ⟨m3,m4,_,_⟩:=hg'.two'
 refine bodyPost_ret (v:=.tuple #[.agg #[.bool (decide (x < 0)),.slice A l c],.agg #[.bool (decide (y < 0)),.slice A' l' c'],V]) ?_ hd (hR _ _ h h')
 have hp' : a.tmps[t]?.getD undef = .pointer (some ⟨g,0,none⟩):=by
   rw [← Array.getD_eq_getD_getElem?]; exact hp
 have hp2' : a.tmps[t']?.getD undef = .pointer (some ⟨g',0,none⟩):=by
   rw [← Array.getD_eq_getD_getElem?]; exact hp2
 have hu' : a.tmps[u]?.getD undef = V:=by
   rw [← Array.getD_eq_getD_getElem?]; exact hu
 simp [results,hres,go_sem,hp',hp2',hu',m1,m2,m3,m4]
theorem r2_div_A {w : World} {v1 v2 : Value} {x y : Int} (hy : ¬ y = 0) (hq19 : (((x.natAbs / y.natAbs : Nat) : Int)).natAbs < 1000000000 ^ 19) (hm39 : Mul2 (zOf (x.natAbs / y.natAbs) (decide (x < 0) != decide (y < 0))) y) (hr19 : ((x - (zOf (x.natAbs / y.natAbs) (decide (x < 0) != decide (y < 0))) * y)).natAbs < 1000000000 ^ 19) (hr0 : decide ((x - (zOf (x.natAbs / y.natAbs) (decide (x < 0) != decide (y < 0))) * y) ≠ 0) = false) (h1 : Zr w v1 19 x) (h2 : Zr w v2 19 y) :
   Calls Tryz.prog 58 #[v1,v2] w (TellsDM w (zOf (x.natAbs / y.natAbs) (decide (x < 0) != decide (y < 0))) (x - (zOf (x.natAbs / y.natAbs) (decide (x < 0) != decide (y < 0))) * y)):=by
 obtain ⟨qq,hqq⟩ : ∃ u,u = (zOf (x.natAbs / y.natAbs) (decide (x < 0) != decide (y < 0))):=⟨_,rfl⟩
 obtain ⟨rr_,hrr⟩ : ∃ u,u = (x - (zOf (x.natAbs / y.natAbs) (decide (x < 0) != decide (y < 0))) * y):=⟨_,rfl⟩
 rw [← hrr,← hqq]
 have HQ:=Lib.hid (And.intro hqq hrr)
 clear hqq hrr
 obtain ⟨A1,l1,c1,rfl,r1,u1⟩:=h1
 obtain ⟨b1,hb1⟩ : ∃ s,s = decide (x < 0):=⟨_,rfl⟩
 have H1:=Lib.hid (show _ ∧ _ ∧ _ from ⟨hb1,r1,u1⟩)
 obtain ⟨A2,l2,c2,rfl,r2,u2⟩:=h2
 obtain ⟨b2,hb2⟩ : ∃ s,s = decide (y < 0):=⟨_,rfl⟩
 have H2:=Lib.hid (show _ ∧ _ ∧ _ from ⟨hb2,r2,u2⟩)
 show Calls _ _ #[.agg #[.bool (decide (x < 0)),.slice A1 l1 c1],.agg #[.bool (decide (y < 0)),.slice A2 l2 c2]] _ _
 rw [← hb1,← hb2]
 clear hb1 r1 u1 hb2 r2 u2
 go_enter Tryz.func58,Tryz.ntmps58
 repeat apply wp_seq
 refine mf fun K HK=>?_
 go_wp2
 refine HK.out _ _ (then_n ?_)
 obtain ⟨W_0,hW⟩ : ∃ W,W = (((w.alloc (Obj.cells #[Value.bool b1,Value.slice A1 l1 c1] 24)).alloc (Obj.cells #[Value.bool b2,Value.slice A2 l2 c2] 24)).alloc (Obj.cells #[Value.bool false,Value.slice none 0 0] 24)).alloc (Obj.cells #[Value.bool false,Value.slice none 0 0] 24):=⟨_,rfl⟩
 have bb_0 : Below w.heap.size w W_0:=by rw [hW]; exact bal (bal (bal (bal (Below.refl _ _) _) _) _) _
 have K0 : W_0.heap[w.heap.size]? = some (Obj.cells #[Value.bool b1,Value.slice A1 l1 c1] 24):=by rw [hW]; rw [Below.heap_alloc _ _ _ (by simp <;> omega)]; rw [Below.heap_alloc _ _ _ (by simp <;> omega)]; rw [Below.heap_alloc _ _ _ (by simp <;> omega)]; exact new_at (by simp)
 have K1 : W_0.heap[w.heap.size + 1]? = some (Obj.cells #[Value.bool b2,Value.slice A2 l2 c2] 24):=by rw [hW]; rw [Below.heap_alloc _ _ _ (by simp <;> omega)]; rw [Below.heap_alloc _ _ _ (by simp <;> omega)]; exact new_at (by simp)
 have K2 : W_0.heap[w.heap.size + 1 + 1]? = some (Obj.cells #[Value.bool false,Value.slice none 0 0] 24):=by rw [hW]; rw [Below.heap_alloc _ _ _ (by simp <;> omega)]; exact new_at (by simp)
 have K3 : W_0.heap[w.heap.size + 1 + 1 + 1]? = some (Obj.cells #[Value.bool false,Value.slice none 0 0] 24):=by rw [hW]; exact new_at (by simp)
 rw [← hW]
 obtain ⟨m1,n1,_,_⟩:=cell_of_two K0
 have f1_0 : AtR W_0 (w.heap.size) 0 19 x:=⟨A1,l1,c1,by rw [← H1.out.1]; exact m1,n1,A1,l1,c1,rfl,H1.out.2.1.below bb_0,H1.out.2.2⟩
 obtain ⟨m2,n2,_,_⟩:=cell_of_two K1
 have f2_0 : AtR W_0 (w.heap.size + 1) 0 19 y:=⟨A2,l2,c2,by rw [← H2.out.1]; exact m2,n2,A2,l2,c2,rfl,H2.out.2.1.below bb_0,H2.out.2.2⟩
 have R4_0:=ll K2
 have R5_0:=ll K3
 clear hW K0 K1 K2 K3 m1 n1 m2 n2
 refine ly (G:=fun a=>Code.wp _ _ _ a _) 65 ?_
 intro a_0 ha hN_0 hD_0
 have e2_0:=lu ha 2 w.heap.size
 have e3_0:=lu ha 3 (w.heap.size + 1)
 have e4_0:=lu ha 4 (w.heap.size + 1 + 1)
 have e5_0:=lu ha 5 (w.heap.size + 1 + 1 + 1)
 repeat first | apply lw | apply lx
 refine lm bb_0 [kZ 19 x,kZ 19 x,kZ 19 y,kZ 19 y,PK.fresh 2,PK.fresh 2,kPutZ 4 19 x,kPutZ 5 19 y] [[],[0],[],[2],[],[],[4,1],[5,3]] [14,15,16,17,7,8,999,999] [] [] ?_ ?_
 ·
   refine aj f1_0 e2_0 ?_; refine aa rfl rfl (ac rfl rfl fun hC h1=>tz (r2_norm ((rr h1).zc (by decide)) (by decide))) ?_; refine aj f2_0 e3_0 ?_; refine aa rfl rfl (ac rfl rfl fun hC h1=>tz (r2_norm ((rr h1).zc (by decide)) (by decide))) ?_; refine ar ?_; refine ar ?_; refine bf ?_; refine bf ?_; exact ae rfl
 intro W_1 z a_1 hC hall ha hN_1 hD_1 bb_1
 obtain ⟨g7,hx7,hge7,hl7⟩:=bh (me hall 6)
 obtain ⟨g8,hx8,hge8,hl8⟩:=bh (me hall 7)
 have d7:=Nat.lt_of_lt_of_le R5_0.lt hge7
 have d8:=Nat.lt_of_lt_of_le R5_0.lt hge8
 have e4_1:=ab ha e4_0
 have e5_1:=ab ha e5_0
 have e7_1:=(ak (t:=7) (i:=4) ha).trans (hx7)
 have e8_1:=(ak (t:=8) (i:=5) ha).trans (hx8)
 have R4_1:=hC.holds R4_0
 have R5_1:=hC.holds R5_0
 have x7_1:=hl7
 have x8_1:=hl8
 clear hx7 hx8 hge7 hge8 hl7 hl8 hC hall
 repeat first | apply lw | apply lx
 refine lm bb_1 [lp g8 1,kRow y,kLen y,lr] [[],[0],[1],[2]] [18,19,20,21] [] [] ?_ ?_
 ·
   refine p01 e8_1 ?_; refine aa rfl rfl (ax x8_1.atR rfl rfl) ?_; refine aa rfl rfl (go rfl rfl) ?_; refine aa rfl rfl (st_len0 (decide_eq_false hy) rfl rfl) ?_; exact ae rfl
 intro W_2 z a_2 hC hall ha hN_2 hD_2 bb_2
 have e4_2:=ab ha e4_1
 have e5_2:=ab ha e5_1
 have e7_2:=ab ha e7_1
 have e8_2:=ab ha e8_1
 have e21_2:=ln ha hall 21 3
 have R4_2:=hC.holds R4_1
 have R5_2:=hC.holds R5_1
 have x7_2:=hC.locR x7_1
 have x8_2:=hC.locR x8_1
 clear hC hall
 refine wp_cond_false e21_2 ?_
 refine wp_skip ?_
 refine then_n ?_
 clear e21_2
 repeat first | apply lw | apply lx
 refine lm bb_2 [lp g7 1,kRow x,lp g8 1,kRow y,kRRB ((x.natAbs / y.natAbs : Nat) : Int) ((x.natAbs % y.natAbs : Nat) : Int),kRRB ((x.natAbs / y.natAbs : Nat) : Int) ((x.natAbs % y.natAbs : Nat) : Int),kRow ((x.natAbs / y.natAbs : Nat) : Int),kRow ((x.natAbs % y.natAbs : Nat) : Int),lq,kRow ((x.natAbs / y.natAbs : Nat) : Int),kRow ((x.natAbs % y.natAbs : Nat) : Int),lq] [[],[0],[],[2],[1,3],[4],[5],[5],[5],[6],[7],[8]] [25,26,27,28,29,24,30,31,32,9,10,11] [] [] ?_ ?_
 ·
   refine p01 e7_2 ?_; refine aa rfl rfl (ax x7_2.atR rfl rfl) ?_; refine p01 e8_2 ?_; refine aa rfl rfl (ax x8_2.atR rfl rfl) ?_; refine aa rfl rfl (ai rfl rfl rfl fun hC h1 h2=>r1_div (N:=19) h1 h2 H1.out.2.2 H2.out.2.2 (by decide) (Int.natAbs_pos.2 hy)) ?_; refine aa rfl rfl (bg rfl rfl) ?_; refine ap ext_d0 ?_; refine ap ext_d1 ?_; refine ap ext_d2 ?_; refine aa rfl rfl (fo rfl rfl) ?_; refine aa rfl rfl (fo rfl rfl) ?_; refine p10 ?_; exact ae rfl
 intro W_3 z a_3 hC hall ha hN_3 hD_3 bb_3
 obtain ⟨v9,hv9⟩ : ∃ v,v = z 9:=⟨_,rfl⟩
 have e4_3:=ab ha e4_2
 have e5_3:=ab ha e5_2
 have e7_3:=ab ha e7_2
 have e8_3:=ab ha e8_2
 have e9_3:=(ak (t:=9) (i:=9) ha).trans (hv9.symm)
 have R4_3:=hC.holds R4_2
 have R5_3:=hC.holds R5_2
 have x7_3:=hC.locR x7_2
 have x8_3:=hC.locR x8_2
 have z9_3 : Rr W_3 v9 (((x.natAbs / y.natAbs : Nat) : Int)).natAbs:=by rw [hv9]; exact hall 9 (of_decide_eq_true (by kernel_rfl))
 clear hC hall hv9
 repeat first | apply lw | apply lx
 refine lm bb_3 [lp g7 0,kIs (.bool (decide (x < 0))),lp g8 0,kIs (.bool (decide (y < 0))),kIs (.bool (decide (x < 0) != decide (y < 0))),kRow ((x.natAbs / y.natAbs : Nat) : Int),kZ 19 (zOf (x.natAbs / y.natAbs) (decide (x < 0) != decide (y < 0))),PK.fresh 2,kPutZ 7 19 (zOf (x.natAbs / y.natAbs) (decide (x < 0) != decide (y < 0)))] [[],[0],[],[2],[1,3],[],[4,5],[],[7,6]] [33,34,35,36,37,38,39,12,999] [] [] ?_ ?_
 ·
   refine p01 e7_3 ?_; refine au (s:=decide (x < 0)) x7_3.atR rfl ?_; refine p01 e8_3 ?_; refine au (s:=decide (y < 0)) x8_3.atR rfl ?_; refine p20 ?_; refine aa rfl rfl (fg e9_3 z9_3 (fun w hC=>hC.rr z9_3) rfl) ?_; refine aa rfl rfl (ai rfl rfl rfl fun hC h1 h2=>tz (r2_mkB h1 h2 hq19 (by decide))) ?_; refine ar ?_; refine bf ?_; exact ae rfl
 intro W_4 z a_4 hC hall ha hN_4 hD_4 bb_4
 obtain ⟨g12,hx,hge,hl⟩:=bh (me hall 8)
 have d12 : w.heap.size + 1 + 1 + 1 < g12 ∧ g7 < g12 ∧ g8 < g12:=⟨Nat.lt_of_lt_of_le R5_3.lt hge,Nat.lt_of_lt_of_le (loc_lt x7_3) hge,Nat.lt_of_lt_of_le (loc_lt x8_3) hge⟩
 have e4_4:=ab ha e4_3
 have e5_4:=ab ha e5_3
 have e7_4:=ab ha e7_3
 have e8_4:=ab ha e8_3
 have e12_4:=(ak (t:=12) (i:=7) ha).trans (hx)
 have R4_4:=hC.holds R4_3
 have R5_4:=hC.holds R5_3
 have x7_4:=hC.locR x7_3
 have x8_4:=hC.locR x8_3
 have x12_4:=hl
 clear hx hge hl hC hall
 repeat first | apply lw | apply lx
 refine lm bb_4 [kZ 19 x,kZ 19 (zOf (x.natAbs / y.natAbs) (decide (x < 0) != decide (y < 0))),kZ 19 y,kZRs [(19,(zOf (x.natAbs / y.natAbs) (decide (x < 0) != decide (y < 0)))),(19,y)],kZ 39 ((zOf (x.natAbs / y.natAbs) (decide (x < 0) != decide (y < 0))) * y),kZ 40 (x - (zOf (x.natAbs / y.natAbs) (decide (x < 0) != decide (y < 0))) * y),PK.fresh 2,kPutZ 6 40 (x - (zOf (x.natAbs / y.natAbs) (decide (x < 0) != decide (y < 0))) * y)] [[],[],[],[1,2],[3],[0,4],[],[6,5]] [40,41,42,43,44,45,13,999] [] [] ?_ ?_
 ·
   refine aj x7_4.atR e7_4 ?_; refine aj x12_4.atR e12_4 ?_; refine aj x8_4.atR e8_4 ?_; refine aa rfl rfl (eu rfl rfl rfl) ?_; refine aa rfl rfl (ac rfl rfl fun hC h1=>tz (r2_mul2 h1 hm39)) ?_; refine aa rfl rfl (ai rfl rfl rfl fun hC h1 h2=>tz (r2_sub ((rr h1).mono (by decide)) (rr h2))) ?_; refine ar ?_; refine bf ?_; exact ae rfl
 intro W_5 z a_5 hC hall ha hN_5 hD_5 bb_5
 obtain ⟨g13,hx,hge,hl⟩:=bh (me hall 7)
 have d13 : w.heap.size + 1 + 1 + 1 < g13 ∧ g7 < g13 ∧ g8 < g13 ∧ g12 < g13:=⟨Nat.lt_of_lt_of_le R5_4.lt hge,Nat.lt_of_lt_of_le (loc_lt x7_4) hge,Nat.lt_of_lt_of_le (loc_lt x8_4) hge,Nat.lt_of_lt_of_le (loc_lt x12_4) hge⟩
 have e4_5:=ab ha e4_4
 have e5_5:=ab ha e5_4
 have e12_5:=ab ha e12_4
 have e13_5:=(ak (t:=13) (i:=6) ha).trans (hx)
 have R4_5:=hC.holds R4_4
 have R5_5:=hC.holds R5_4
 have x12_5:=hC.locR x12_4
 have x13_5 : LocR W_5 g13 19 (x - (zOf (x.natAbs / y.natAbs) (decide (x < 0) != decide (y < 0))) * y):=hl.tight hr19
 clear hx hge hl hC hall
 repeat first | apply lw | apply lx
 refine lm bb_5 [lp g13 1,kRow (x - (zOf (x.natAbs / y.natAbs) (decide (x < 0) != decide (y < 0))) * y),kLen (x - (zOf (x.natAbs / y.natAbs) (decide (x < 0) != decide (y < 0))) * y),lr,lr,ls,ls,ls,ls,ls,lr] [[],[0],[1],[2],[3],[],[5],[],[7],[6,8],[4,9]] [46,47,48,49,50,51,52,53,54,55,56] [(4,false)] [5,6,7,8,9] ?_ ?_
 ·
   refine p01 e13_5 ?_; refine aa rfl rfl (ax x13_5.atR rfl rfl) ?_; refine aa rfl rfl (go rfl rfl) ?_; refine aa rfl rfl (st_lenG hr0 rfl rfl) ?_; refine p10 ?_; refine am rfl ?_; refine am rfl ?_; refine am rfl ?_; refine am rfl ?_; refine am rfl ?_; refine p20 ?_; exact ae rfl
 intro W_6 z a_6 hC hall ha hN_6 hD_6 bb_6
 have e4_6:=ab ha e4_5
 have e5_6:=ab ha e5_5
 have e12_6:=ab ha e12_5
 have e13_6:=ab ha e13_5
 have e56_6:=ln ha hall 56 10
 have R4_6:=hC.holds R4_5
 have R5_6:=hC.holds R5_5
 have x12_6:=hC.locR x12_5
 have x13_6:=hC.locR x13_5
 clear hC hall
 refine wp_cond_false e56_6 ?_
 clear e56_6
 refine wp_skip ?_
 refine then_n ?_
 repeat first | apply lw | apply lx
 refine cd (hchk:=(by rw [hN_6]; kernel_rfl)) w.heap.size [kZ 19 (zOf (x.natAbs / y.natAbs) (decide (x < 0) != decide (y < 0))),kZ 19 (x - (zOf (x.natAbs / y.natAbs) (decide (x < 0) != decide (y < 0))) * y),kResZ (w.heap.size + 1 + 1) 19 (zOf (x.natAbs / y.natAbs) (decide (x < 0) != decide (y < 0))),kResZ (w.heap.size + 1 + 1 + 1) 19 (x - (zOf (x.natAbs / y.natAbs) (decide (x < 0) != decide (y < 0))) * y),kIs (.int .i64 (0))] [ [],[],[(0,some 63)],[(1,some 64)],[] ] [(0,some 63),(1,some 64),(2,none),(3,none),(4,some 6)] [] [] (show [w.heap.size + 1 + 1,w.heap.size + 1 + 1 + 1].Nodup by simp) (show ∀ g ∈ [w.heap.size + 1 + 1,w.heap.size + 1 + 1 + 1],w.heap.size ≤ g by simp; omega) bb_6.size ?_ ?_ ?_
 · intro g hg; have hg2 : g ∈ [w.heap.size + 1 + 1,w.heap.size + 1 + 1 + 1]:=hg; have hg' : g = w.heap.size + 1 + 1 ∨ g = w.heap.size + 1 + 1 + 1:=by simpa using hg2
   rcases hg' with rfl | rfl
   · exact ⟨_,R4_6⟩
   · exact ⟨_,R5_6⟩
 · show PkFrom _ _ _ _ (Reg _ _ [w.heap.size + 1 + 1,w.heap.size + 1 + 1 + 1]) _ _ _ _
   refine aj (hG:=(by simp only [List.mem_cons,List.not_mem_nil,or_false]; omega)) x12_6.atR e12_6 ?_; refine aj (hG:=(by simp only [List.mem_cons,List.not_mem_nil,or_false]; omega)) x13_6.atR e13_6 ?_; refine aa rfl rfl (ci R4_6 e4_6 rfl rfl) ?_; refine aa rfl rfl (ci R5_6 e5_6 rfl rfl) ?_; refine p00 ?_; exact ae rfl
 intro W_9 z hC hall
 refine then_n ?_
 have hC' : Reg w.heap.size W_6 [w.heap.size + 1 + 1,w.heap.size + 1 + 1 + 1] W_9:=hC
 obtain ⟨a1,ha⟩ : ∃ a,a = putE z a_6 [(0,some 63),(1,some 64),(2,none),(3,none),(4,some 6)]:=⟨_,rfl⟩
 rw [← ha]
 have hD1:=defers_behind ha hD_6
 have bb1:=bb_6.trans hC'.below
 have q1:=res_locR (show (kResZ (w.heap.size + 1 + 1) 19 (zOf (x.natAbs / y.natAbs) (decide (x < 0) != decide (y < 0)))).sem _ _ _ _ from hall 2 (of_decide_eq_true (by kernel_rfl)))
 have q2:=res_locR (show (kResZ (w.heap.size + 1 + 1 + 1) 19 (x - (zOf (x.natAbs / y.natAbs) (decide (x < 0) != decide (y < 0))) * y)).sem _ _ _ _ from hall 3 (of_decide_eq_true (by kernel_rfl)))
 have i4:=ab (t:=4) ha e4_6
 have i5:=ab (t:=5) ha e5_6
 have i6:=ln ha hall 6 4
 repeat first | apply lw | apply lx
 refine wp_ret ?_
 repeat (refine then_r ?_)
 exact li (t:=4) (t':=5) (u:=6) rfl hD1 i4 i5 i6 q1 q2 fun v v' hv hv'=>⟨v,v',rfl,by rw [HQ.out.1]; exact hv.mono (show 19 ≤ 40 by decide),by rw [HQ.out.2]; exact hv'.mono (show 19 ≤ 40 by decide),bb1⟩
theorem r2_div_B {w : World} {v1 v2 : Value} {x y : Int} (hy : ¬ y = 0) (hq19 : (((x.natAbs / y.natAbs : Nat) : Int)).natAbs < 1000000000 ^ 19) (hm39 : Mul2 (zOf (x.natAbs / y.natAbs) (decide (x < 0) != decide (y < 0))) y) (hr19 : ((x - (zOf (x.natAbs / y.natAbs) (decide (x < 0) != decide (y < 0))) * y)).natAbs < 1000000000 ^ 19) (hr0 : decide ((x - (zOf (x.natAbs / y.natAbs) (decide (x < 0) != decide (y < 0))) * y) ≠ 0) = true) (hs : (decide ((x - (zOf (x.natAbs / y.natAbs) (decide (x < 0) != decide (y < 0))) * y) < 0) != decide (y < 0)) = false) (h1 : Zr w v1 19 x) (h2 : Zr w v2 19 y) :
   Calls Tryz.prog 58 #[v1,v2] w (TellsDM w (zOf (x.natAbs / y.natAbs) (decide (x < 0) != decide (y < 0))) (x - (zOf (x.natAbs / y.natAbs) (decide (x < 0) != decide (y < 0))) * y)):=by
 obtain ⟨qq,hqq⟩ : ∃ u,u = (zOf (x.natAbs / y.natAbs) (decide (x < 0) != decide (y < 0))):=⟨_,rfl⟩
 obtain ⟨rr_,hrr⟩ : ∃ u,u = (x - (zOf (x.natAbs / y.natAbs) (decide (x < 0) != decide (y < 0))) * y):=⟨_,rfl⟩
 rw [← hrr,← hqq]
 have HQ:=Lib.hid (And.intro hqq hrr)
 clear hqq hrr
 obtain ⟨A1,l1,c1,rfl,r1,u1⟩:=h1
 obtain ⟨b1,hb1⟩ : ∃ s,s = decide (x < 0):=⟨_,rfl⟩
 have H1:=Lib.hid (show _ ∧ _ ∧ _ from ⟨hb1,r1,u1⟩)
 obtain ⟨A2,l2,c2,rfl,r2,u2⟩:=h2
 obtain ⟨b2,hb2⟩ : ∃ s,s = decide (y < 0):=⟨_,rfl⟩
 have H2:=Lib.hid (show _ ∧ _ ∧ _ from ⟨hb2,r2,u2⟩)
 show Calls _ _ #[.agg #[.bool (decide (x < 0)),.slice A1 l1 c1],.agg #[.bool (decide (y < 0)),.slice A2 l2 c2]] _ _
 rw [← hb1,← hb2]
 clear hb1 r1 u1 hb2 r2 u2
 go_enter Tryz.func58,Tryz.ntmps58
 repeat apply wp_seq
 refine mf fun K HK=>?_
 go_wp2
 refine HK.out _ _ (then_n ?_)
 obtain ⟨W_0,hW⟩ : ∃ W,W = (((w.alloc (Obj.cells #[Value.bool b1,Value.slice A1 l1 c1] 24)).alloc (Obj.cells #[Value.bool b2,Value.slice A2 l2 c2] 24)).alloc (Obj.cells #[Value.bool false,Value.slice none 0 0] 24)).alloc (Obj.cells #[Value.bool false,Value.slice none 0 0] 24):=⟨_,rfl⟩
 have bb_0 : Below w.heap.size w W_0:=by rw [hW]; exact bal (bal (bal (bal (Below.refl _ _) _) _) _) _
 have K0 : W_0.heap[w.heap.size]? = some (Obj.cells #[Value.bool b1,Value.slice A1 l1 c1] 24):=by rw [hW]; rw [Below.heap_alloc _ _ _ (by simp <;> omega)]; rw [Below.heap_alloc _ _ _ (by simp <;> omega)]; rw [Below.heap_alloc _ _ _ (by simp <;> omega)]; exact new_at (by simp)
 have K1 : W_0.heap[w.heap.size + 1]? = some (Obj.cells #[Value.bool b2,Value.slice A2 l2 c2] 24):=by rw [hW]; rw [Below.heap_alloc _ _ _ (by simp <;> omega)]; rw [Below.heap_alloc _ _ _ (by simp <;> omega)]; exact new_at (by simp)
 have K2 : W_0.heap[w.heap.size + 1 + 1]? = some (Obj.cells #[Value.bool false,Value.slice none 0 0] 24):=by rw [hW]; rw [Below.heap_alloc _ _ _ (by simp <;> omega)]; exact new_at (by simp)
 have K3 : W_0.heap[w.heap.size + 1 + 1 + 1]? = some (Obj.cells #[Value.bool false,Value.slice none 0 0] 24):=by rw [hW]; exact new_at (by simp)
 rw [← hW]
 obtain ⟨m1,n1,_,_⟩:=cell_of_two K0
 have f1_0 : AtR W_0 (w.heap.size) 0 19 x:=⟨A1,l1,c1,by rw [← H1.out.1]; exact m1,n1,A1,l1,c1,rfl,H1.out.2.1.below bb_0,H1.out.2.2⟩
 obtain ⟨m2,n2,_,_⟩:=cell_of_two K1
 have f2_0 : AtR W_0 (w.heap.size + 1) 0 19 y:=⟨A2,l2,c2,by rw [← H2.out.1]; exact m2,n2,A2,l2,c2,rfl,H2.out.2.1.below bb_0,H2.out.2.2⟩
 have R4_0:=ll K2
 have R5_0:=ll K3
 clear hW K0 K1 K2 K3 m1 n1 m2 n2
 refine ly (G:=fun a=>Code.wp _ _ _ a _) 65 ?_
 intro a_0 ha hN_0 hD_0
 have e2_0:=lu ha 2 w.heap.size
 have e3_0:=lu ha 3 (w.heap.size + 1)
 have e4_0:=lu ha 4 (w.heap.size + 1 + 1)
 have e5_0:=lu ha 5 (w.heap.size + 1 + 1 + 1)
 repeat first | apply lw | apply lx
 refine lm bb_0 [kZ 19 x,kZ 19 x,kZ 19 y,kZ 19 y,PK.fresh 2,PK.fresh 2,kPutZ 4 19 x,kPutZ 5 19 y] [[],[0],[],[2],[],[],[4,1],[5,3]] [14,15,16,17,7,8,999,999] [] [] ?_ ?_
 ·
   refine aj f1_0 e2_0 ?_; refine aa rfl rfl (ac rfl rfl fun hC h1=>tz (r2_norm ((rr h1).zc (by decide)) (by decide))) ?_; refine aj f2_0 e3_0 ?_; refine aa rfl rfl (ac rfl rfl fun hC h1=>tz (r2_norm ((rr h1).zc (by decide)) (by decide))) ?_; refine ar ?_; refine ar ?_; refine bf ?_; refine bf ?_; exact ae rfl
 intro W_1 z a_1 hC hall ha hN_1 hD_1 bb_1
 obtain ⟨g7,hx7,hge7,hl7⟩:=bh (me hall 6)
 obtain ⟨g8,hx8,hge8,hl8⟩:=bh (me hall 7)
 have d7:=Nat.lt_of_lt_of_le R5_0.lt hge7
 have d8:=Nat.lt_of_lt_of_le R5_0.lt hge8
 have e4_1:=ab ha e4_0
 have e5_1:=ab ha e5_0
 have e7_1:=(ak (t:=7) (i:=4) ha).trans (hx7)
 have e8_1:=(ak (t:=8) (i:=5) ha).trans (hx8)
 have R4_1:=hC.holds R4_0
 have R5_1:=hC.holds R5_0
 have x7_1:=hl7
 have x8_1:=hl8
 clear hx7 hx8 hge7 hge8 hl7 hl8 hC hall
 repeat first | apply lw | apply lx
 refine lm bb_1 [lp g8 1,kRow y,kLen y,lr] [[],[0],[1],[2]] [18,19,20,21] [] [] ?_ ?_
 ·
   refine p01 e8_1 ?_; refine aa rfl rfl (ax x8_1.atR rfl rfl) ?_; refine aa rfl rfl (go rfl rfl) ?_; refine aa rfl rfl (st_len0 (decide_eq_false hy) rfl rfl) ?_; exact ae rfl
 intro W_2 z a_2 hC hall ha hN_2 hD_2 bb_2
 have e4_2:=ab ha e4_1
 have e5_2:=ab ha e5_1
 have e7_2:=ab ha e7_1
 have e8_2:=ab ha e8_1
 have e21_2:=ln ha hall 21 3
 have R4_2:=hC.holds R4_1
 have R5_2:=hC.holds R5_1
 have x7_2:=hC.locR x7_1
 have x8_2:=hC.locR x8_1
 clear hC hall
 refine wp_cond_false e21_2 ?_
 refine wp_skip ?_
 refine then_n ?_
 clear e21_2
 repeat first | apply lw | apply lx
 refine lm bb_2 [lp g7 1,kRow x,lp g8 1,kRow y,kRRB ((x.natAbs / y.natAbs : Nat) : Int) ((x.natAbs % y.natAbs : Nat) : Int),kRRB ((x.natAbs / y.natAbs : Nat) : Int) ((x.natAbs % y.natAbs : Nat) : Int),kRow ((x.natAbs / y.natAbs : Nat) : Int),kRow ((x.natAbs % y.natAbs : Nat) : Int),lq,kRow ((x.natAbs / y.natAbs : Nat) : Int),kRow ((x.natAbs % y.natAbs : Nat) : Int),lq] [[],[0],[],[2],[1,3],[4],[5],[5],[5],[6],[7],[8]] [25,26,27,28,29,24,30,31,32,9,10,11] [] [] ?_ ?_
 ·
   refine p01 e7_2 ?_; refine aa rfl rfl (ax x7_2.atR rfl rfl) ?_; refine p01 e8_2 ?_; refine aa rfl rfl (ax x8_2.atR rfl rfl) ?_; refine aa rfl rfl (ai rfl rfl rfl fun hC h1 h2=>r1_div (N:=19) h1 h2 H1.out.2.2 H2.out.2.2 (by decide) (Int.natAbs_pos.2 hy)) ?_; refine aa rfl rfl (bg rfl rfl) ?_; refine ap ext_d0 ?_; refine ap ext_d1 ?_; refine ap ext_d2 ?_; refine aa rfl rfl (fo rfl rfl) ?_; refine aa rfl rfl (fo rfl rfl) ?_; refine p10 ?_; exact ae rfl
 intro W_3 z a_3 hC hall ha hN_3 hD_3 bb_3
 obtain ⟨v9,hv9⟩ : ∃ v,v = z 9:=⟨_,rfl⟩
 have e4_3:=ab ha e4_2
 have e5_3:=ab ha e5_2
 have e7_3:=ab ha e7_2
 have e8_3:=ab ha e8_2
 have e9_3:=(ak (t:=9) (i:=9) ha).trans (hv9.symm)
 have R4_3:=hC.holds R4_2
 have R5_3:=hC.holds R5_2
 have x7_3:=hC.locR x7_2
 have x8_3:=hC.locR x8_2
 have z9_3 : Rr W_3 v9 (((x.natAbs / y.natAbs : Nat) : Int)).natAbs:=by rw [hv9]; exact hall 9 (of_decide_eq_true (by kernel_rfl))
 clear hC hall hv9
 repeat first | apply lw | apply lx
 refine lm bb_3 [lp g7 0,kIs (.bool (decide (x < 0))),lp g8 0,kIs (.bool (decide (y < 0))),kIs (.bool (decide (x < 0) != decide (y < 0))),kRow ((x.natAbs / y.natAbs : Nat) : Int),kZ 19 (zOf (x.natAbs / y.natAbs) (decide (x < 0) != decide (y < 0))),PK.fresh 2,kPutZ 7 19 (zOf (x.natAbs / y.natAbs) (decide (x < 0) != decide (y < 0)))] [[],[0],[],[2],[1,3],[],[4,5],[],[7,6]] [33,34,35,36,37,38,39,12,999] [] [] ?_ ?_
 ·
   refine p01 e7_3 ?_; refine au (s:=decide (x < 0)) x7_3.atR rfl ?_; refine p01 e8_3 ?_; refine au (s:=decide (y < 0)) x8_3.atR rfl ?_; refine p20 ?_; refine aa rfl rfl (fg e9_3 z9_3 (fun w hC=>hC.rr z9_3) rfl) ?_; refine aa rfl rfl (ai rfl rfl rfl fun hC h1 h2=>tz (r2_mkB h1 h2 hq19 (by decide))) ?_; refine ar ?_; refine bf ?_; exact ae rfl
 intro W_4 z a_4 hC hall ha hN_4 hD_4 bb_4
 obtain ⟨g12,hx,hge,hl⟩:=bh (me hall 8)
 have d12 : w.heap.size + 1 + 1 + 1 < g12 ∧ g7 < g12 ∧ g8 < g12:=⟨Nat.lt_of_lt_of_le R5_3.lt hge,Nat.lt_of_lt_of_le (loc_lt x7_3) hge,Nat.lt_of_lt_of_le (loc_lt x8_3) hge⟩
 have e4_4:=ab ha e4_3
 have e5_4:=ab ha e5_3
 have e7_4:=ab ha e7_3
 have e8_4:=ab ha e8_3
 have e12_4:=(ak (t:=12) (i:=7) ha).trans (hx)
 have R4_4:=hC.holds R4_3
 have R5_4:=hC.holds R5_3
 have x7_4:=hC.locR x7_3
 have x8_4:=hC.locR x8_3
 have x12_4:=hl
 clear hx hge hl hC hall
 repeat first | apply lw | apply lx
 refine lm bb_4 [kZ 19 x,kZ 19 (zOf (x.natAbs / y.natAbs) (decide (x < 0) != decide (y < 0))),kZ 19 y,kZRs [(19,(zOf (x.natAbs / y.natAbs) (decide (x < 0) != decide (y < 0)))),(19,y)],kZ 39 ((zOf (x.natAbs / y.natAbs) (decide (x < 0) != decide (y < 0))) * y),kZ 40 (x - (zOf (x.natAbs / y.natAbs) (decide (x < 0) != decide (y < 0))) * y),PK.fresh 2,kPutZ 6 40 (x - (zOf (x.natAbs / y.natAbs) (decide (x < 0) != decide (y < 0))) * y)] [[],[],[],[1,2],[3],[0,4],[],[6,5]] [40,41,42,43,44,45,13,999] [] [] ?_ ?_
 ·
   refine aj x7_4.atR e7_4 ?_; refine aj x12_4.atR e12_4 ?_; refine aj x8_4.atR e8_4 ?_; refine aa rfl rfl (eu rfl rfl rfl) ?_; refine aa rfl rfl (ac rfl rfl fun hC h1=>tz (r2_mul2 h1 hm39)) ?_; refine aa rfl rfl (ai rfl rfl rfl fun hC h1 h2=>tz (r2_sub ((rr h1).mono (by decide)) (rr h2))) ?_; refine ar ?_; refine bf ?_; exact ae rfl
 intro W_5 z a_5 hC hall ha hN_5 hD_5 bb_5
 obtain ⟨g13,hx,hge,hl⟩:=bh (me hall 7)
 have d13 : w.heap.size + 1 + 1 + 1 < g13 ∧ g7 < g13 ∧ g8 < g13 ∧ g12 < g13:=⟨Nat.lt_of_lt_of_le R5_4.lt hge,Nat.lt_of_lt_of_le (loc_lt x7_4) hge,Nat.lt_of_lt_of_le (loc_lt x8_4) hge,Nat.lt_of_lt_of_le (loc_lt x12_4) hge⟩
 have e4_5:=ab ha e4_4
 have e5_5:=ab ha e5_4
 have e8_5:=ab ha e8_4
 have e12_5:=ab ha e12_4
 have e13_5:=(ak (t:=13) (i:=6) ha).trans (hx)
 have R4_5:=hC.holds R4_4
 have R5_5:=hC.holds R5_4
 have x8_5:=hC.locR x8_4
 have x12_5:=hC.locR x12_4
 have x13_5 : LocR W_5 g13 19 (x - (zOf (x.natAbs / y.natAbs) (decide (x < 0) != decide (y < 0))) * y):=hl.tight hr19
 clear hx hge hl hC hall
 repeat first | apply lw | apply lx
 refine lm bb_5 [lp g13 1,kRow (x - (zOf (x.natAbs / y.natAbs) (decide (x < 0) != decide (y < 0))) * y),kLen (x - (zOf (x.natAbs / y.natAbs) (decide (x < 0) != decide (y < 0))) * y),lq,lq,lp g13 0,kIs (.bool (decide ((x - (zOf (x.natAbs / y.natAbs) (decide (x < 0) != decide (y < 0))) * y) < 0))),lp g8 0,kIs (.bool (decide (y < 0))),lr,lr] [[],[0],[1],[2],[3],[],[5],[],[7],[6,8],[4,9]] [46,47,48,49,50,51,52,53,54,55,56] [(4,true)] [] ?_ ?_
 ·
   refine p01 e13_5 ?_; refine aa rfl rfl (ax x13_5.atR rfl rfl) ?_; refine aa rfl rfl (go rfl rfl) ?_; refine aa rfl rfl (st_lenG hr0 rfl rfl) ?_; refine p10 ?_; refine p01 e13_5 ?_; refine au (s:=decide ((x - (zOf (x.natAbs / y.natAbs) (decide (x < 0) != decide (y < 0))) * y) < 0)) x13_5.atR rfl ?_; refine p01 e8_5 ?_; refine au (s:=decide (y < 0)) x8_5.atR rfl ?_; refine aa rfl rfl (ck [.bool (decide ((x - (zOf (x.natAbs / y.natAbs) (decide (x < 0) != decide (y < 0))) * y) < 0)),.bool (decide (y < 0))] [] (.bool (decide ((x - (zOf (x.natAbs / y.natAbs) (decide (x < 0) != decide (y < 0))) * y) < 0) != decide (y < 0))) (.bool false) (congrArg Value.bool hs) rfl old0) ?_; refine p20 ?_; exact ae rfl
 intro W_6 z a_6 hC hall ha hN_6 hD_6 bb_6
 have e4_6:=ab ha e4_5
 have e5_6:=ab ha e5_5
 have e12_6:=ab ha e12_5
 have e13_6:=ab ha e13_5
 have e56_6:=ln ha hall 56 10
 have R4_6:=hC.holds R4_5
 have R5_6:=hC.holds R5_5
 have x12_6:=hC.locR x12_5
 have x13_6:=hC.locR x13_5
 clear hC hall
 refine wp_cond_false e56_6 ?_
 clear e56_6
 refine wp_skip ?_
 refine then_n ?_
 repeat first | apply lw | apply lx
 refine cd (hchk:=(by rw [hN_6]; kernel_rfl)) w.heap.size [kZ 19 (zOf (x.natAbs / y.natAbs) (decide (x < 0) != decide (y < 0))),kZ 19 (x - (zOf (x.natAbs / y.natAbs) (decide (x < 0) != decide (y < 0))) * y),kResZ (w.heap.size + 1 + 1) 19 (zOf (x.natAbs / y.natAbs) (decide (x < 0) != decide (y < 0))),kResZ (w.heap.size + 1 + 1 + 1) 19 (x - (zOf (x.natAbs / y.natAbs) (decide (x < 0) != decide (y < 0))) * y),kIs (.int .i64 (0))] [ [],[],[(0,some 63)],[(1,some 64)],[] ] [(0,some 63),(1,some 64),(2,none),(3,none),(4,some 6)] [] [] (show [w.heap.size + 1 + 1,w.heap.size + 1 + 1 + 1].Nodup by simp) (show ∀ g ∈ [w.heap.size + 1 + 1,w.heap.size + 1 + 1 + 1],w.heap.size ≤ g by simp; omega) bb_6.size ?_ ?_ ?_
 · intro g hg; have hg2 : g ∈ [w.heap.size + 1 + 1,w.heap.size + 1 + 1 + 1]:=hg; have hg' : g = w.heap.size + 1 + 1 ∨ g = w.heap.size + 1 + 1 + 1:=by simpa using hg2
   rcases hg' with rfl | rfl
   · exact ⟨_,R4_6⟩
   · exact ⟨_,R5_6⟩
 · show PkFrom _ _ _ _ (Reg _ _ [w.heap.size + 1 + 1,w.heap.size + 1 + 1 + 1]) _ _ _ _
   refine aj (hG:=(by simp only [List.mem_cons,List.not_mem_nil,or_false]; omega)) x12_6.atR e12_6 ?_; refine aj (hG:=(by simp only [List.mem_cons,List.not_mem_nil,or_false]; omega)) x13_6.atR e13_6 ?_; refine aa rfl rfl (ci R4_6 e4_6 rfl rfl) ?_; refine aa rfl rfl (ci R5_6 e5_6 rfl rfl) ?_; refine p00 ?_; exact ae rfl
 intro W_9 z hC hall
 refine then_n ?_
 have hC' : Reg w.heap.size W_6 [w.heap.size + 1 + 1,w.heap.size + 1 + 1 + 1] W_9:=hC
 obtain ⟨a1,ha⟩ : ∃ a,a = putE z a_6 [(0,some 63),(1,some 64),(2,none),(3,none),(4,some 6)]:=⟨_,rfl⟩
 rw [← ha]
 have hD1:=defers_behind ha hD_6
 have bb1:=bb_6.trans hC'.below
 have q1:=res_locR (show (kResZ (w.heap.size + 1 + 1) 19 (zOf (x.natAbs / y.natAbs) (decide (x < 0) != decide (y < 0)))).sem _ _ _ _ from hall 2 (of_decide_eq_true (by kernel_rfl)))
 have q2:=res_locR (show (kResZ (w.heap.size + 1 + 1 + 1) 19 (x - (zOf (x.natAbs / y.natAbs) (decide (x < 0) != decide (y < 0))) * y)).sem _ _ _ _ from hall 3 (of_decide_eq_true (by kernel_rfl)))
 have i4:=ab (t:=4) ha e4_6
 have i5:=ab (t:=5) ha e5_6
 have i6:=ln ha hall 6 4
 repeat first | apply lw | apply lx
 refine wp_ret ?_
 repeat (refine then_r ?_)
 exact li (t:=4) (t':=5) (u:=6) rfl hD1 i4 i5 i6 q1 q2 fun v v' hv hv'=>⟨v,v',rfl,by rw [HQ.out.1]; exact hv.mono (show 19 ≤ 40 by decide),by rw [HQ.out.2]; exact hv'.mono (show 19 ≤ 40 by decide),bb1⟩
theorem r2_div_C {w : World} {v1 v2 : Value} {x y : Int} (hy : ¬ y = 0) (hq19 : (((x.natAbs / y.natAbs : Nat) : Int)).natAbs < 1000000000 ^ 19) (hm39 : Mul2 (zOf (x.natAbs / y.natAbs) (decide (x < 0) != decide (y < 0))) y) (hr19 : ((x - (zOf (x.natAbs / y.natAbs) (decide (x < 0) != decide (y < 0))) * y)).natAbs < 1000000000 ^ 19) (hr0 : decide ((x - (zOf (x.natAbs / y.natAbs) (decide (x < 0) != decide (y < 0))) * y) ≠ 0) = true) (hs : (decide ((x - (zOf (x.natAbs / y.natAbs) (decide (x < 0) != decide (y < 0))) * y) < 0) != decide (y < 0)) = true) (h1 : Zr w v1 19 x) (h2 : Zr w v2 19 y) :
   Calls Tryz.prog 58 #[v1,v2] w (TellsDM w ((zOf (x.natAbs / y.natAbs) (decide (x < 0) != decide (y < 0))) - 1) ((x - (zOf (x.natAbs / y.natAbs) (decide (x < 0) != decide (y < 0))) * y) + y)):=by
 obtain ⟨qq,hqq⟩ : ∃ u,u = ((zOf (x.natAbs / y.natAbs) (decide (x < 0) != decide (y < 0))) - 1):=⟨_,rfl⟩
 obtain ⟨rr_,hrr⟩ : ∃ u,u = ((x - (zOf (x.natAbs / y.natAbs) (decide (x < 0) != decide (y < 0))) * y) + y):=⟨_,rfl⟩
 rw [← hrr,← hqq]
 have HQ:=Lib.hid (And.intro hqq hrr)
 clear hqq hrr
 obtain ⟨A1,l1,c1,rfl,r1,u1⟩:=h1
 obtain ⟨b1,hb1⟩ : ∃ s,s = decide (x < 0):=⟨_,rfl⟩
 have H1:=Lib.hid (show _ ∧ _ ∧ _ from ⟨hb1,r1,u1⟩)
 obtain ⟨A2,l2,c2,rfl,r2,u2⟩:=h2
 obtain ⟨b2,hb2⟩ : ∃ s,s = decide (y < 0):=⟨_,rfl⟩
 have H2:=Lib.hid (show _ ∧ _ ∧ _ from ⟨hb2,r2,u2⟩)
 show Calls _ _ #[.agg #[.bool (decide (x < 0)),.slice A1 l1 c1],.agg #[.bool (decide (y < 0)),.slice A2 l2 c2]] _ _
 rw [← hb1,← hb2]
 clear hb1 r1 u1 hb2 r2 u2
 go_enter Tryz.func58,Tryz.ntmps58
 repeat apply wp_seq
 refine mf fun K HK=>?_
 go_wp2
 refine HK.out _ _ (then_n ?_)
 obtain ⟨W_0,hW⟩ : ∃ W,W = (((w.alloc (Obj.cells #[Value.bool b1,Value.slice A1 l1 c1] 24)).alloc (Obj.cells #[Value.bool b2,Value.slice A2 l2 c2] 24)).alloc (Obj.cells #[Value.bool false,Value.slice none 0 0] 24)).alloc (Obj.cells #[Value.bool false,Value.slice none 0 0] 24):=⟨_,rfl⟩
 have bb_0 : Below w.heap.size w W_0:=by rw [hW]; exact bal (bal (bal (bal (Below.refl _ _) _) _) _) _
 have K0 : W_0.heap[w.heap.size]? = some (Obj.cells #[Value.bool b1,Value.slice A1 l1 c1] 24):=by rw [hW]; rw [Below.heap_alloc _ _ _ (by simp <;> omega)]; rw [Below.heap_alloc _ _ _ (by simp <;> omega)]; rw [Below.heap_alloc _ _ _ (by simp <;> omega)]; exact new_at (by simp)
 have K1 : W_0.heap[w.heap.size + 1]? = some (Obj.cells #[Value.bool b2,Value.slice A2 l2 c2] 24):=by rw [hW]; rw [Below.heap_alloc _ _ _ (by simp <;> omega)]; rw [Below.heap_alloc _ _ _ (by simp <;> omega)]; exact new_at (by simp)
 have K2 : W_0.heap[w.heap.size + 1 + 1]? = some (Obj.cells #[Value.bool false,Value.slice none 0 0] 24):=by rw [hW]; rw [Below.heap_alloc _ _ _ (by simp <;> omega)]; exact new_at (by simp)
 have K3 : W_0.heap[w.heap.size + 1 + 1 + 1]? = some (Obj.cells #[Value.bool false,Value.slice none 0 0] 24):=by rw [hW]; exact new_at (by simp)
 rw [← hW]
 obtain ⟨m1,n1,_,_⟩:=cell_of_two K0
 have f1_0 : AtR W_0 (w.heap.size) 0 19 x:=⟨A1,l1,c1,by rw [← H1.out.1]; exact m1,n1,A1,l1,c1,rfl,H1.out.2.1.below bb_0,H1.out.2.2⟩
 obtain ⟨m2,n2,_,_⟩:=cell_of_two K1
 have f2_0 : AtR W_0 (w.heap.size + 1) 0 19 y:=⟨A2,l2,c2,by rw [← H2.out.1]; exact m2,n2,A2,l2,c2,rfl,H2.out.2.1.below bb_0,H2.out.2.2⟩
 have R4_0:=ll K2
 have R5_0:=ll K3
 clear hW K0 K1 K2 K3 m1 n1 m2 n2
 refine ly (G:=fun a=>Code.wp _ _ _ a _) 65 ?_
 intro a_0 ha hN_0 hD_0
 have e2_0:=lu ha 2 w.heap.size
 have e3_0:=lu ha 3 (w.heap.size + 1)
 have e4_0:=lu ha 4 (w.heap.size + 1 + 1)
 have e5_0:=lu ha 5 (w.heap.size + 1 + 1 + 1)
 repeat first | apply lw | apply lx
 refine lm bb_0 [kZ 19 x,kZ 19 x,kZ 19 y,kZ 19 y,PK.fresh 2,PK.fresh 2,kPutZ 4 19 x,kPutZ 5 19 y] [[],[0],[],[2],[],[],[4,1],[5,3]] [14,15,16,17,7,8,999,999] [] [] ?_ ?_
 ·
   refine aj f1_0 e2_0 ?_; refine aa rfl rfl (ac rfl rfl fun hC h1=>tz (r2_norm ((rr h1).zc (by decide)) (by decide))) ?_; refine aj f2_0 e3_0 ?_; refine aa rfl rfl (ac rfl rfl fun hC h1=>tz (r2_norm ((rr h1).zc (by decide)) (by decide))) ?_; refine ar ?_; refine ar ?_; refine bf ?_; refine bf ?_; exact ae rfl
 intro W_1 z a_1 hC hall ha hN_1 hD_1 bb_1
 obtain ⟨g7,hx7,hge7,hl7⟩:=bh (me hall 6)
 obtain ⟨g8,hx8,hge8,hl8⟩:=bh (me hall 7)
 have d7:=Nat.lt_of_lt_of_le R5_0.lt hge7
 have d8:=Nat.lt_of_lt_of_le R5_0.lt hge8
 have e4_1:=ab ha e4_0
 have e5_1:=ab ha e5_0
 have e7_1:=(ak (t:=7) (i:=4) ha).trans (hx7)
 have e8_1:=(ak (t:=8) (i:=5) ha).trans (hx8)
 have R4_1:=hC.holds R4_0
 have R5_1:=hC.holds R5_0
 have x7_1:=hl7
 have x8_1:=hl8
 clear hx7 hx8 hge7 hge8 hl7 hl8 hC hall
 repeat first | apply lw | apply lx
 refine lm bb_1 [lp g8 1,kRow y,kLen y,lr] [[],[0],[1],[2]] [18,19,20,21] [] [] ?_ ?_
 ·
   refine p01 e8_1 ?_; refine aa rfl rfl (ax x8_1.atR rfl rfl) ?_; refine aa rfl rfl (go rfl rfl) ?_; refine aa rfl rfl (st_len0 (decide_eq_false hy) rfl rfl) ?_; exact ae rfl
 intro W_2 z a_2 hC hall ha hN_2 hD_2 bb_2
 have e4_2:=ab ha e4_1
 have e5_2:=ab ha e5_1
 have e7_2:=ab ha e7_1
 have e8_2:=ab ha e8_1
 have e21_2:=ln ha hall 21 3
 have R4_2:=hC.holds R4_1
 have R5_2:=hC.holds R5_1
 have x7_2:=hC.locR x7_1
 have x8_2:=hC.locR x8_1
 clear hC hall
 refine wp_cond_false e21_2 ?_
 refine wp_skip ?_
 refine then_n ?_
 clear e21_2
 repeat first | apply lw | apply lx
 refine lm bb_2 [lp g7 1,kRow x,lp g8 1,kRow y,kRRB ((x.natAbs / y.natAbs : Nat) : Int) ((x.natAbs % y.natAbs : Nat) : Int),kRRB ((x.natAbs / y.natAbs : Nat) : Int) ((x.natAbs % y.natAbs : Nat) : Int),kRow ((x.natAbs / y.natAbs : Nat) : Int),kRow ((x.natAbs % y.natAbs : Nat) : Int),lq,kRow ((x.natAbs / y.natAbs : Nat) : Int),kRow ((x.natAbs % y.natAbs : Nat) : Int),lq] [[],[0],[],[2],[1,3],[4],[5],[5],[5],[6],[7],[8]] [25,26,27,28,29,24,30,31,32,9,10,11] [] [] ?_ ?_
 ·
   refine p01 e7_2 ?_; refine aa rfl rfl (ax x7_2.atR rfl rfl) ?_; refine p01 e8_2 ?_; refine aa rfl rfl (ax x8_2.atR rfl rfl) ?_; refine aa rfl rfl (ai rfl rfl rfl fun hC h1 h2=>r1_div (N:=19) h1 h2 H1.out.2.2 H2.out.2.2 (by decide) (Int.natAbs_pos.2 hy)) ?_; refine aa rfl rfl (bg rfl rfl) ?_; refine ap ext_d0 ?_; refine ap ext_d1 ?_; refine ap ext_d2 ?_; refine aa rfl rfl (fo rfl rfl) ?_; refine aa rfl rfl (fo rfl rfl) ?_; refine p10 ?_; exact ae rfl
 intro W_3 z a_3 hC hall ha hN_3 hD_3 bb_3
 obtain ⟨v9,hv9⟩ : ∃ v,v = z 9:=⟨_,rfl⟩
 have e4_3:=ab ha e4_2
 have e5_3:=ab ha e5_2
 have e7_3:=ab ha e7_2
 have e8_3:=ab ha e8_2
 have e9_3:=(ak (t:=9) (i:=9) ha).trans (hv9.symm)
 have R4_3:=hC.holds R4_2
 have R5_3:=hC.holds R5_2
 have x7_3:=hC.locR x7_2
 have x8_3:=hC.locR x8_2
 have z9_3 : Rr W_3 v9 (((x.natAbs / y.natAbs : Nat) : Int)).natAbs:=by rw [hv9]; exact hall 9 (of_decide_eq_true (by kernel_rfl))
 clear hC hall hv9
 repeat first | apply lw | apply lx
 refine lm bb_3 [lp g7 0,kIs (.bool (decide (x < 0))),lp g8 0,kIs (.bool (decide (y < 0))),kIs (.bool (decide (x < 0) != decide (y < 0))),kRow ((x.natAbs / y.natAbs : Nat) : Int),kZ 19 (zOf (x.natAbs / y.natAbs) (decide (x < 0) != decide (y < 0))),PK.fresh 2,kPutZ 7 19 (zOf (x.natAbs / y.natAbs) (decide (x < 0) != decide (y < 0)))] [[],[0],[],[2],[1,3],[],[4,5],[],[7,6]] [33,34,35,36,37,38,39,12,999] [] [] ?_ ?_
 ·
   refine p01 e7_3 ?_; refine au (s:=decide (x < 0)) x7_3.atR rfl ?_; refine p01 e8_3 ?_; refine au (s:=decide (y < 0)) x8_3.atR rfl ?_; refine p20 ?_; refine aa rfl rfl (fg e9_3 z9_3 (fun w hC=>hC.rr z9_3) rfl) ?_; refine aa rfl rfl (ai rfl rfl rfl fun hC h1 h2=>tz (r2_mkB h1 h2 hq19 (by decide))) ?_; refine ar ?_; refine bf ?_; exact ae rfl
 intro W_4 z a_4 hC hall ha hN_4 hD_4 bb_4
 obtain ⟨g12,hx,hge,hl⟩:=bh (me hall 8)
 have d12 : w.heap.size + 1 + 1 + 1 < g12 ∧ g7 < g12 ∧ g8 < g12:=⟨Nat.lt_of_lt_of_le R5_3.lt hge,Nat.lt_of_lt_of_le (loc_lt x7_3) hge,Nat.lt_of_lt_of_le (loc_lt x8_3) hge⟩
 have e4_4:=ab ha e4_3
 have e5_4:=ab ha e5_3
 have e7_4:=ab ha e7_3
 have e8_4:=ab ha e8_3
 have e12_4:=(ak (t:=12) (i:=7) ha).trans (hx)
 have R4_4:=hC.holds R4_3
 have R5_4:=hC.holds R5_3
 have x7_4:=hC.locR x7_3
 have x8_4:=hC.locR x8_3
 have x12_4:=hl
 clear hx hge hl hC hall
 repeat first | apply lw | apply lx
 refine lm bb_4 [kZ 19 x,kZ 19 (zOf (x.natAbs / y.natAbs) (decide (x < 0) != decide (y < 0))),kZ 19 y,kZRs [(19,(zOf (x.natAbs / y.natAbs) (decide (x < 0) != decide (y < 0)))),(19,y)],kZ 39 ((zOf (x.natAbs / y.natAbs) (decide (x < 0) != decide (y < 0))) * y),kZ 40 (x - (zOf (x.natAbs / y.natAbs) (decide (x < 0) != decide (y < 0))) * y),PK.fresh 2,kPutZ 6 40 (x - (zOf (x.natAbs / y.natAbs) (decide (x < 0) != decide (y < 0))) * y)] [[],[],[],[1,2],[3],[0,4],[],[6,5]] [40,41,42,43,44,45,13,999] [] [] ?_ ?_
 ·
   refine aj x7_4.atR e7_4 ?_; refine aj x12_4.atR e12_4 ?_; refine aj x8_4.atR e8_4 ?_; refine aa rfl rfl (eu rfl rfl rfl) ?_; refine aa rfl rfl (ac rfl rfl fun hC h1=>tz (r2_mul2 h1 hm39)) ?_; refine aa rfl rfl (ai rfl rfl rfl fun hC h1 h2=>tz (r2_sub ((rr h1).mono (by decide)) (rr h2))) ?_; refine ar ?_; refine bf ?_; exact ae rfl
 intro W_5 z a_5 hC hall ha hN_5 hD_5 bb_5
 obtain ⟨g13,hx,hge,hl⟩:=bh (me hall 7)
 have d13 : w.heap.size + 1 + 1 + 1 < g13 ∧ g7 < g13 ∧ g8 < g13 ∧ g12 < g13:=⟨Nat.lt_of_lt_of_le R5_4.lt hge,Nat.lt_of_lt_of_le (loc_lt x7_4) hge,Nat.lt_of_lt_of_le (loc_lt x8_4) hge,Nat.lt_of_lt_of_le (loc_lt x12_4) hge⟩
 have e4_5:=ab ha e4_4
 have e5_5:=ab ha e5_4
 have e8_5:=ab ha e8_4
 have e12_5:=ab ha e12_4
 have e13_5:=(ak (t:=13) (i:=6) ha).trans (hx)
 have R4_5:=hC.holds R4_4
 have R5_5:=hC.holds R5_4
 have x7_5:=hC.locR x7_4
 have x8_5:=hC.locR x8_4
 have x12_5:=hC.locR x12_4
 have x13_5 : LocR W_5 g13 19 (x - (zOf (x.natAbs / y.natAbs) (decide (x < 0) != decide (y < 0))) * y):=hl.tight hr19
 clear hx hge hl hC hall
 repeat first | apply lw | apply lx
 refine lm bb_5 [lp g13 1,kRow (x - (zOf (x.natAbs / y.natAbs) (decide (x < 0) != decide (y < 0))) * y),kLen (x - (zOf (x.natAbs / y.natAbs) (decide (x < 0) != decide (y < 0))) * y),lq,lq,lp g13 0,kIs (.bool (decide ((x - (zOf (x.natAbs / y.natAbs) (decide (x < 0) != decide (y < 0))) * y) < 0))),lp g8 0,kIs (.bool (decide (y < 0))),lq,lq] [[],[0],[1],[2],[3],[],[5],[],[7],[6,8],[4,9]] [46,47,48,49,50,51,52,53,54,55,56] [(4,true)] [] ?_ ?_
 ·
   refine p01 e13_5 ?_; refine aa rfl rfl (ax x13_5.atR rfl rfl) ?_; refine aa rfl rfl (go rfl rfl) ?_; refine aa rfl rfl (st_lenG hr0 rfl rfl) ?_; refine p10 ?_; refine p01 e13_5 ?_; refine au (s:=decide ((x - (zOf (x.natAbs / y.natAbs) (decide (x < 0) != decide (y < 0))) * y) < 0)) x13_5.atR rfl ?_; refine p01 e8_5 ?_; refine au (s:=decide (y < 0)) x8_5.atR rfl ?_; refine aa rfl rfl (ck [.bool (decide ((x - (zOf (x.natAbs / y.natAbs) (decide (x < 0) != decide (y < 0))) * y) < 0)),.bool (decide (y < 0))] [] (.bool (decide ((x - (zOf (x.natAbs / y.natAbs) (decide (x < 0) != decide (y < 0))) * y) < 0) != decide (y < 0))) (.bool true) (congrArg Value.bool hs) rfl old0) ?_; refine p20 ?_; exact ae rfl
 intro W_6 z a_6 hC hall ha hN_6 hD_6 bb_6
 have e4_6:=ab ha e4_5
 have e5_6:=ab ha e5_5
 have e8_6:=ab ha e8_5
 have e12_6:=ab ha e12_5
 have e13_6:=ab ha e13_5
 have e56_6:=ln ha hall 56 10
 have R4_6:=hC.holds R4_5
 have R5_6:=hC.holds R5_5
 have x7_6:=hC.locR x7_5
 have x8_6:=hC.locR x8_5
 have x12_6:=hC.locR x12_5
 have x13_6:=hC.locR x13_5
 clear hC hall
 refine wp_cond_true e56_6 ?_
 clear e56_6
 repeat first | apply lw | apply lx
 obtain ⟨u3,v3,X3⟩ : ∃ u v,Holds_ W_6 g12 #[u,v]:=by obtain ⟨A,m,c,hh,_⟩:=x12_6; exact ⟨_,_,hh⟩
 refine Wk9 bb_6 X3 3 [0] [kZ 19 (zOf (x.natAbs / y.natAbs) (decide (x < 0) != decide (y < 0))),kZ 1 1,kZ 40 ((zOf (x.natAbs / y.natAbs) (decide (x < 0) != decide (y < 0))) - 1),kResZ g12 40 ((zOf (x.natAbs / y.natAbs) (decide (x < 0) != decide (y < 0))) - 1)] [[],[],[0,1],[2]] [57,58,59,999] [] [] ?_ ?_
 ·
   refine bj rfl rfl rfl ?_ ?_
   · exact ii x12_6.atR e12_6 rfl
   refine ah rfl rfl (aq [.int .i64 (1)] rfl rfl fun hC=>tz (r2_of (1) (by decide) (by decide) (by decide))) ?_; refine ah rfl rfl (ai rfl rfl rfl fun hC h1 h2=>tz (r2_sub ((rr h1).mono (by decide)) ((rr h2).mono (by decide)))) ?_; refine ah rfl rfl (ci X3 e12_6 rfl rfl) ?_; exact cn rfl
 intro W_7 z a_7 hC hall ha hN_7 hD_7 bb_7
 have X2:=res_locR (show (kResZ g12 40 ((zOf (x.natAbs / y.natAbs) (decide (x < 0) != decide (y < 0))) - 1)).sem _ _ _ _ from hall 3 (of_decide_eq_true (by kernel_rfl)))
 have e4_7:=ab ha e4_6
 have e5_7:=ab ha e5_6
 have e8_7:=ab ha e8_6
 have e12_7:=ab ha e12_6
 have e13_7:=ab ha e13_6
 have R4_7:=hC.holdsG (by simp only [List.mem_singleton]; omega) R4_6
 have R5_7:=hC.holdsG (by simp only [List.mem_singleton]; omega) R5_6
 have x7_7:=locG hC (by simp only [List.mem_singleton]; omega) x7_6
 have x8_7:=locG hC (by simp only [List.mem_singleton]; omega) x8_6
 have x12_7:=X2
 have x13_7:=locG hC (by simp only [List.mem_singleton]; omega) x13_6
 clear hC hall X2 X3
 repeat first | apply lw | apply lx
 obtain ⟨u3,v3,X3⟩ : ∃ u v,Holds_ W_7 g13 #[u,v]:=by obtain ⟨A,m,c,hh,_⟩:=x13_7; exact ⟨_,_,hh⟩
 refine Wk9 bb_7 X3 3 [0] [kZ 19 (x - (zOf (x.natAbs / y.natAbs) (decide (x < 0) != decide (y < 0))) * y),kZ 19 y,kZ 40 ((x - (zOf (x.natAbs / y.natAbs) (decide (x < 0) != decide (y < 0))) * y) + y),kResZ g13 40 ((x - (zOf (x.natAbs / y.natAbs) (decide (x < 0) != decide (y < 0))) * y) + y)] [[],[],[0,1],[2]] [60,61,62,999] [] [] ?_ ?_
 ·
   refine bj rfl rfl rfl ?_ ?_
   · exact ii x13_7.atR e13_7 rfl
   refine ah rfl rfl (ku (hG:=(by simp only [List.mem_singleton]; omega)) x8_7.atR e8_7 rfl) ?_; refine ah rfl rfl (ai rfl rfl rfl fun hC h1 h2=>tz (r2_plus ((rr h1).mono (by decide)) ((rr h2).mono (by decide)))) ?_; refine ah rfl rfl (ci X3 e13_7 rfl rfl) ?_; exact cn rfl
 intro W_8 z a_8 hC hall ha hN_8 hD_8 bb_8
 have X2:=res_locR (show (kResZ g13 40 ((x - (zOf (x.natAbs / y.natAbs) (decide (x < 0) != decide (y < 0))) * y) + y)).sem _ _ _ _ from hall 3 (of_decide_eq_true (by kernel_rfl)))
 have e4_8:=ab ha e4_7
 have e5_8:=ab ha e5_7
 have e12_8:=ab ha e12_7
 have e13_8:=ab ha e13_7
 have R4_8:=hC.holdsG (by simp only [List.mem_singleton]; omega) R4_7
 have R5_8:=hC.holdsG (by simp only [List.mem_singleton]; omega) R5_7
 have x7_8:=locG hC (by simp only [List.mem_singleton]; omega) x7_7
 have x8_8:=locG hC (by simp only [List.mem_singleton]; omega) x8_7
 have x12_8:=locG hC (by simp only [List.mem_singleton]; omega) x12_7
 have x13_8:=X2
 clear hC hall X2 X3
 repeat first | apply lw | apply lx
 refine cd (hchk:=(by rw [hN_8]; kernel_rfl)) w.heap.size [kZ 40 ((zOf (x.natAbs / y.natAbs) (decide (x < 0) != decide (y < 0))) - 1),kZ 40 ((x - (zOf (x.natAbs / y.natAbs) (decide (x < 0) != decide (y < 0))) * y) + y),kResZ (w.heap.size + 1 + 1) 40 ((zOf (x.natAbs / y.natAbs) (decide (x < 0) != decide (y < 0))) - 1),kResZ (w.heap.size + 1 + 1 + 1) 40 ((x - (zOf (x.natAbs / y.natAbs) (decide (x < 0) != decide (y < 0))) * y) + y),kIs (.int .i64 (0))] [ [],[],[(0,some 63)],[(1,some 64)],[] ] [(0,some 63),(1,some 64),(2,none),(3,none),(4,some 6)] [] [] (show [w.heap.size + 1 + 1,w.heap.size + 1 + 1 + 1].Nodup by simp) (show ∀ g ∈ [w.heap.size + 1 + 1,w.heap.size + 1 + 1 + 1],w.heap.size ≤ g by simp; omega) bb_8.size ?_ ?_ ?_
 · intro g hg; have hg2 : g ∈ [w.heap.size + 1 + 1,w.heap.size + 1 + 1 + 1]:=hg; have hg' : g = w.heap.size + 1 + 1 ∨ g = w.heap.size + 1 + 1 + 1:=by simpa using hg2
   rcases hg' with rfl | rfl
   · exact ⟨_,R4_8⟩
   · exact ⟨_,R5_8⟩
 · show PkFrom _ _ _ _ (Reg _ _ [w.heap.size + 1 + 1,w.heap.size + 1 + 1 + 1]) _ _ _ _
   refine aj (hG:=(by simp only [List.mem_cons,List.not_mem_nil,or_false]; omega)) x12_8.atR e12_8 ?_; refine aj (hG:=(by simp only [List.mem_cons,List.not_mem_nil,or_false]; omega)) x13_8.atR e13_8 ?_; refine aa rfl rfl (ci R4_8 e4_8 rfl rfl) ?_; refine aa rfl rfl (ci R5_8 e5_8 rfl rfl) ?_; refine p00 ?_; exact ae rfl
 intro W_9 z hC hall
 refine then_n ?_
 have hC' : Reg w.heap.size W_8 [w.heap.size + 1 + 1,w.heap.size + 1 + 1 + 1] W_9:=hC
 obtain ⟨a1,ha⟩ : ∃ a,a = putE z a_8 [(0,some 63),(1,some 64),(2,none),(3,none),(4,some 6)]:=⟨_,rfl⟩
 rw [← ha]
 have hD1:=defers_behind ha hD_8
 have bb1:=bb_8.trans hC'.below
 have q1:=res_locR (show (kResZ (w.heap.size + 1 + 1) 40 ((zOf (x.natAbs / y.natAbs) (decide (x < 0) != decide (y < 0))) - 1)).sem _ _ _ _ from hall 2 (of_decide_eq_true (by kernel_rfl)))
 have q2:=res_locR (show (kResZ (w.heap.size + 1 + 1 + 1) 40 ((x - (zOf (x.natAbs / y.natAbs) (decide (x < 0) != decide (y < 0))) * y) + y)).sem _ _ _ _ from hall 3 (of_decide_eq_true (by kernel_rfl)))
 have i4:=ab (t:=4) ha e4_8
 have i5:=ab (t:=5) ha e5_8
 have i6:=ln ha hall 6 4
 repeat first | apply lw | apply lx
 refine wp_ret ?_
 repeat (refine then_r ?_)
 exact li (t:=4) (t':=5) (u:=6) rfl hD1 i4 i5 i6 q1 q2 fun v v' hv hv'=>⟨v,v',rfl,by rw [HQ.out.1]; exact hv.mono (show 40 ≤ 40 by decide),by rw [HQ.out.2]; exact hv'.mono (show 40 ≤ 40 by decide),bb1⟩
theorem rest0 (x y : Int) : x - zOf (x.natAbs / y.natAbs) (decide (x < 0) != decide (y < 0)) * y = zOf (x.natAbs % y.natAbs) (decide (x < 0)):=by
 have e:=Nat.div_add_mod x.natAbs y.natAbs
 obtain ⟨Q,hQ⟩ : ∃ Q,Q = x.natAbs / y.natAbs:=⟨_,rfl⟩
 obtain ⟨R,hR⟩ : ∃ R,R = x.natAbs % y.natAbs:=⟨_,rfl⟩
 rw [← hQ,← hR] at e
 rw [← hQ,← hR]
 obtain ⟨p,hp⟩ : ∃ p : Nat,p = y.natAbs * Q:=⟨_,rfl⟩
 rw [← hp] at e
 have h1 : (Q : Int) * (y.natAbs : Int) = (p : Int):=by rw [hp,Int.natCast_mul,Int.mul_comm]
 clear hQ hR hp
 unfold zOf
 have hx : x < 0 ∨ 0 ≤ x:=by omega
 have hy : y < 0 ∨ 0 ≤ y:=by omega
 rcases hy with hy | hy
 · have h2 : (Q : Int) * y = -(p : Int):=by
     have h3 : y = -(y.natAbs : Int):=by omega
     obtain ⟨m,hm⟩ : ∃ m,m = y.natAbs:=⟨_,rfl⟩
     rw [← hm] at h1 h3; rw [h3,Int.mul_neg,h1]
   rcases hx with hx | hx
   · simp [hx,hy]; omega
   · have hx' : ¬ x < 0:=by omega
     simp [hx',hy,Int.neg_mul]; omega
 · have h2 : (Q : Int) * y = (p : Int):=by
     have h3 : y = (y.natAbs : Int):=by omega
     obtain ⟨m,hm⟩ : ∃ m,m = y.natAbs:=⟨_,rfl⟩
     rw [← hm] at h1 h3; rw [h3,h1]
   have hy' : ¬ y < 0:=by omega
   rcases hx with hx | hx
   · simp [hx,hy',Int.neg_mul]; omega
   · have hx' : ¬ x < 0:=by omega
     simp [hx',hy']; omega
theorem r2_divMod {w : World} {v1 v2 : Value} {x y : Int} (hy : y ≠ 0) (h1 : Zr w v1 19 x) (h2 : Zr w v2 19 y) : Calls Tryz.prog 58 #[v1,v2] w (TellsDM w (zq x y) (zm x y)):=by
 have hx19 : x.natAbs < 1000000000 ^ 19:=by obtain ⟨_,_,_,_,_,h⟩:=h1; exact h
 have hy19 : y.natAbs < 1000000000 ^ 19:=by obtain ⟨_,_,_,_,_,h⟩:=h2; exact h
 have hy0 : 0 < y.natAbs:=Int.natAbs_pos.2 hy
 have r0:=rest0 x y
 have hdl : x.natAbs / y.natAbs ≤ x.natAbs:=Nat.div_le_self _ _
 have hml : x.natAbs % y.natAbs < y.natAbs:=Nat.mod_lt _ hy0
 have hq19 : (((x.natAbs / y.natAbs : Nat) : Int)).natAbs < 1000000000 ^ 19:=Nat.lt_of_le_of_lt hdl hx19
 have hr19 : (x - zOf (x.natAbs / y.natAbs) (decide (x < 0) != decide (y < 0)) * y).natAbs < 1000000000 ^ 19:=by rw [r0,bk]; exact Nat.lt_trans hml hy19
 have hm39 : Mul2 (zOf (x.natAbs / y.natAbs) (decide (x < 0) != decide (y < 0))) y:=by
   refine ⟨?_,?_⟩
   · rw [bk]; exact Nat.lt_of_lt_of_le (Nat.lt_of_le_of_lt hdl hx19) (pow_le (by decide))
   · rw [Int.natAbs_mul,bk]; exact Nat.lt_of_lt_of_le (Nat.lt_of_le_of_lt (Nat.div_mul_le_self _ _) hx19) (pow_le (by decide))
 by_cases hz : x.natAbs % y.natAbs = 0
 · have e0 : x - zOf (x.natAbs / y.natAbs) (decide (x < 0) != decide (y < 0)) * y = 0:=by rw [r0,hz]; unfold zOf; split <;> rfl
   have h:=r2_div_A hy hq19 hm39 hr19 (decide_eq_false (fun h=>h e0)) h1 h2; have eq1 : zOf (x.natAbs / y.natAbs) (decide (x < 0) != decide (y < 0)) = zq x y:=by unfold zq divQ; rw [if_pos (.inr hz)]
   have eq2 : x - zOf (x.natAbs / y.natAbs) (decide (x < 0) != decide (y < 0)) * y = zm x y:=by rw [e0]; unfold zm divR; rw [if_pos (.inr hz),hz]; unfold zOf; split <;> rfl
   rw [eq2,eq1] at h; exact h
 · have hne : x - zOf (x.natAbs / y.natAbs) (decide (x < 0) != decide (y < 0)) * y ≠ 0:=by
     rw [r0]; unfold zOf; split <;> omega
   have hsg : decide (x - zOf (x.natAbs / y.natAbs) (decide (x < 0) != decide (y < 0)) * y < 0) = decide (x < 0):=by
     rw [r0]
     by_cases hx : x < 0
     · rw [decide_eq_true hx]; unfold zOf; rw [if_pos rfl]; exact decide_eq_true (by omega)
     · rw [decide_eq_false hx]; unfold zOf; rw [if_neg (by decide)]; exact decide_eq_false (by omega)
   by_cases hs : decide (x < 0) = decide (y < 0)
   · have h:=r2_div_B hy hq19 hm39 hr19 (decide_eq_true hne) (by rw [hsg,hs]; simp) h1 h2; have eq1 : zOf (x.natAbs / y.natAbs) (decide (x < 0) != decide (y < 0)) = zq x y:=by unfold zq divQ; rw [if_pos (.inl (by rw [hs]; simp))]
     have eq2 : x - zOf (x.natAbs / y.natAbs) (decide (x < 0) != decide (y < 0)) * y = zm x y:=by rw [r0]; unfold zm divR; rw [if_pos (.inl (by rw [hs]; simp)),hs]
     rw [eq2,eq1] at h; exact h
   · have hne2 : (decide (x < 0) != decide (y < 0)) = true:=by simpa using hs
     have hne3 : ¬ ((decide (x < 0) == decide (y < 0)) = true ∨ x.natAbs % y.natAbs = 0):=by
       rintro (h | h)
       · exact hs (by simpa using h)
       · exact hz h
     have h:=r2_div_C hy hq19 hm39 hr19 (decide_eq_true hne) (by rw [hsg]; exact hne2) h1 h2; have eq1 : zOf (x.natAbs / y.natAbs) (decide (x < 0) != decide (y < 0)) - 1 = zq x y:=by unfold zq divQ; rw [if_neg hne3,hne2]; unfold zOf; rw [if_pos rfl,if_pos rfl]; omega
     have eq2 : x - zOf (x.natAbs / y.natAbs) (decide (x < 0) != decide (y < 0)) * y + y = zm x y:=by
       rw [r0]; unfold zm divR; rw [if_neg hne3]; unfold zOf
       by_cases hx : x < 0
       · have hy' : ¬ y < 0:=fun h=>hs (by rw [decide_eq_true hx,decide_eq_true h]); rw [decide_eq_true hx,decide_eq_false hy',if_pos rfl,if_neg (by decide)]; omega
       · have hy' : y < 0:=by
           rcases Int.lt_or_le y 0 with h | h
           · exact h
           · exact absurd (by rw [decide_eq_false hx,decide_eq_false (by omega)]) hs
         rw [decide_eq_false hx,decide_eq_true hy',if_pos rfl,if_neg (by decide)]; omega
     rw [eq2,eq1] at h; exact h
theorem tdm {P : Program} {F : FuncId} {vs : Array Value} {w : World} {S0 : Nat} {x : Nat → Value} {q r : Int} (h : Calls P F vs w (TellsDM w q r)) : Calls P F vs w (Told (kZQ 40 40 q r 0) S0 x w) :=
 h.mono fun _ _ ⟨v,v',he,h1,h2,hb⟩=>⟨_,he,hb,v,v',rfl,h1,h2⟩
theorem refOf_P {w : World} {v1 v2 : Value} {n d : Int} (hd : 0 < d) (hg : ((zgcd [(n),(d)] : Nat) : Int) ≠ 0) (h1 : Zr w v1 19 n) (h2 : Zr w v2 19 d) :
   Calls Tryz.prog 12 #[v1,v2] w (fun e w'=>∃ v,e = .returned (.tuple #[v,.int .i64 (0)]) ∧ Pr w' v 40 (zq n ((zgcd [(n),(d)] : Nat) : Int)) (zq d ((zgcd [(n),(d)] : Nat) : Int)) ∧ Below w.heap.size w w'):=by
 obtain ⟨qq,hqq⟩ : ∃ u,u = (zq n ((zgcd [(n),(d)] : Nat) : Int)):=⟨_,rfl⟩
 obtain ⟨rr_,hrr⟩ : ∃ u,u = (zq d ((zgcd [(n),(d)] : Nat) : Int)):=⟨_,rfl⟩
 rw [← hrr,← hqq]
 have HQ:=Lib.hid (And.intro hqq hrr)
 clear hqq hrr
 obtain ⟨A1,l1,c1,rfl,r1,u1⟩:=h1
 obtain ⟨b1,hb1⟩ : ∃ s,s = decide (n < 0):=⟨_,rfl⟩
 have H1:=Lib.hid (show _ ∧ _ ∧ _ from ⟨hb1,r1,u1⟩)
 obtain ⟨A2,l2,c2,rfl,r2,u2⟩:=h2
 obtain ⟨b2,hb2⟩ : ∃ s,s = decide (d < 0):=⟨_,rfl⟩
 have H2:=Lib.hid (show _ ∧ _ ∧ _ from ⟨hb2,r2,u2⟩)
 show Calls _ _ #[.agg #[.bool (decide (n < 0)),.slice A1 l1 c1],.agg #[.bool (decide (d < 0)),.slice A2 l2 c2]] _ _
 rw [← hb1,← hb2]
 clear hb1 r1 u1 hb2 r2 u2
 go_enter Tryz.func12,Tryz.ntmps12
 repeat apply wp_seq
 refine mf fun K HK=>?_
 go_wp2
 refine HK.out _ _ (then_n ?_)
 refine md (G:=fun W=>Code.wp _ _ _ _ W) ?_
 intro W_0 bb_0 K0 K1 K2
 have f1_0 : LocR W_0 (w.heap.size) 19 n:=⟨A1,l1,c1,by rw [← H1.out.1]; exact ⟨⟨_,K0⟩,by simp [noDig]⟩,A1,l1,c1,rfl,H1.out.2.1.below bb_0,H1.out.2.2⟩
 have f2_0 : LocR W_0 (w.heap.size + 1) 19 d:=⟨A2,l2,c2,by rw [← H2.out.1]; exact ⟨⟨_,K1⟩,by simp [noDig]⟩,A2,l2,c2,rfl,H2.out.2.1.below bb_0,H2.out.2.2⟩
 have R4_0:=ge K2
 clear K0 K1 K2
 refine ly (G:=fun a=>Code.wp _ _ _ a _) 56 ?_
 intro a_0 ha hN_0 hD_0
 have e2_0:=lu ha 2 w.heap.size
 have e3_0:=lu ha 3 (w.heap.size + 1)
 have e4_0:=lu ha 4 (w.heap.size + 1 + 1)
 repeat first | apply lw | apply lx
 refine lm bb_0 [kZ 19 n,lq,lr,lr,kZ 19 d,lq,lr,lr] [[],[0],[1],[2],[],[4],[5],[3,6]] [13,14,15,16,17,18,19,20] [(3,false)] [] ?_ ?_
 ·
   refine aj f1_0.atR e2_0 ?_; refine aa rfl rfl (ac rfl rfl fun hC h1=>ti (r2_right (rr h1))) ?_; refine p10 ?_; refine p10 ?_; refine aj f2_0.atR e3_0 ?_; refine aa rfl rfl (ac rfl rfl fun hC h1=>ti (r2_right (rr h1))) ?_; refine p10 ?_; refine p20 ?_; exact ae rfl
 intro W_1 z a_1 hC hall ha hN_1 hD_1 bb_1
 have e2_1:=ab ha e2_0
 have e3_1:=ab ha e3_0
 have e4_1:=ab ha e4_0
 have e20_1:=ln ha hall 20 7
 have f1_1:=hC.locR f1_0
 have f2_1:=hC.locR f2_0
 have R4_1:=hC.holds R4_0
 clear hC hall
 refine wp_cond_false e20_1 ?_
 refine wp_skip ?_
 refine then_n ?_
 clear e20_1
 repeat first | apply lw | apply lx
 refine lm bb_1 [kZ 19 d,kZ 1 0,kIs (.int .i64 (1)),lr] [[],[],[0,1],[2]] [22,23,24,25] [] [] ?_ ?_
 ·
   refine aj f2_1.atR e3_1 ?_; refine aa rfl rfl (aq [] rfl rfl fun hC=>tz fj) ?_; refine aa rfl rfl (ai rfl rfl rfl fun hC h1 h2=>ti (cmp_is (ord_gt hd) (r2_cmp ((rr h1).mono (by decide)) ((rr h2).mono (by decide))))) ?_; refine p10 ?_; exact ae rfl
 intro W_2 z a_2 hC hall ha hN_2 hD_2 bb_2
 have e2_2:=ab ha e2_1
 have e3_2:=ab ha e3_1
 have e4_2:=ab ha e4_1
 have e25_2:=ln ha hall 25 3
 have f1_2:=hC.locR f1_1
 have f2_2:=hC.locR f2_1
 have R4_2:=hC.holds R4_1
 clear hC hall
 refine wp_cond_false e25_2 ?_
 clear e25_2
 refine wp_skip ?_
 refine then_n ?_
 repeat first | apply lw | apply lx
 refine lm bb_2 [kZ 19 d,kZ 1 0,kIs (.int .i64 (1)),lr] [[],[],[0,1],[2]] [27,28,29,30] [] [] ?_ ?_
 ·
   refine aj f2_2.atR e3_2 ?_; refine aa rfl rfl (aq [] rfl rfl fun hC=>tz fj) ?_; refine aa rfl rfl (ai rfl rfl rfl fun hC h1 h2=>ti (cmp_is (ord_gt hd) (r2_cmp ((rr h1).mono (by decide)) ((rr h2).mono (by decide))))) ?_; refine p10 ?_; exact ae rfl
 intro W_3 z a_3 hC hall ha hN_3 hD_3 bb_3
 have e2_3:=ab ha e2_2
 have e3_3:=ab ha e3_2
 have e4_3:=ab ha e4_2
 have e30_3:=ln ha hall 30 3
 have f1_3:=hC.locR f1_2
 have f2_3:=hC.locR f2_2
 have R4_3:=hC.holds R4_2
 clear hC hall
 refine wp_cond_false e30_3 ?_
 clear e30_3
 refine wp_skip ?_
 refine then_n ?_
 repeat first | apply lw | apply lx
 refine lm bb_3 [kZ 19 n,kZ 19 d,kZRs [(19,n),(19,d)],kZ 19 ((zgcd [(n),(d)] : Nat) : Int),PK.fresh 2,kPutZ 4 19 ((zgcd [(n),(d)] : Nat) : Int)] [[],[],[0,1],[2],[],[4,3]] [35,36,37,38,6,999] [] [] ?_ ?_
 ·
   refine aj f1_3.atR e2_3 ?_; refine aj f2_3.atR e3_3 ?_; refine aa rfl rfl (eu rfl rfl rfl) ?_; refine aa rfl rfl (ac rfl rfl fun hC h1=>tz (r2_gcd 19 h1 (by kernel_rfl) (by decide) (by simp))) ?_; refine ar ?_; refine bf ?_; exact ae rfl
 intro W_4 z a_4 hC hall ha hN_4 hD_4 bb_4
 obtain ⟨g6,hx,hge,hl⟩:=bh (me hall 5)
 have d6:=Nat.lt_of_lt_of_le R4_3.lt hge
 have e2_4:=ab ha e2_3
 have e3_4:=ab ha e3_3
 have e4_4:=ab ha e4_3
 have e6_4:=(ak (t:=6) (i:=4) ha).trans (hx)
 have f1_4:=hC.locR f1_3
 have f2_4:=hC.locR f2_3
 have R4_4:=hC.holds R4_3
 have x6_4:=hl
 clear hx hge hl hC hall
 repeat first | apply lw | apply lx
 refine lm bb_4 [kZ 19 n,kZ 19 ((zgcd [(n),(d)] : Nat) : Int),kZQ 40 40 (zq n ((zgcd [(n),(d)] : Nat) : Int)) (zm n ((zgcd [(n),(d)] : Nat) : Int)) 0,kZQ 40 40 (zq n ((zgcd [(n),(d)] : Nat) : Int)) (zm n ((zgcd [(n),(d)] : Nat) : Int)) 0,kZ 40 (zq n ((zgcd [(n),(d)] : Nat) : Int)),kZ 40 (zm n ((zgcd [(n),(d)] : Nat) : Int)),kIs (.int .i64 (0)),PK.fresh 2,PK.fresh 2,kPutZ 7 40 (zq n ((zgcd [(n),(d)] : Nat) : Int)),kPutZ 8 40 (zm n ((zgcd [(n),(d)] : Nat) : Int)),kIs (.int .i64 (0))] [[],[],[0,1],[2],[3],[3],[3],[],[],[7,4],[8,5],[6]] [40,41,42,39,43,44,45,7,8,999,999,9] [] [] ?_ ?_
 ·
   refine aj f1_4.atR e2_4 ?_; refine aj x6_4.atR e6_4 ?_; refine aa rfl rfl (ai rfl rfl rfl fun hC h1 h2=>tdm (r2_divMod hg (rr h1) (rr h2))) ?_; refine aa rfl rfl (bg rfl rfl) ?_; refine ap ext_q ?_; refine ap ext_r ?_; refine ap ext_e ?_; refine ar ?_; refine ar ?_; refine bf ?_; refine bf ?_; refine p10 ?_; exact ae rfl
 intro W_5 z a_5 hC hall ha hN_5 hD_5 bb_5
 obtain ⟨g7,hx,hge,hl⟩:=bh (me hall 9)
 have d7:=Nat.lt_of_lt_of_le R4_4.lt hge
 have e3_5:=ab ha e3_4
 have e4_5:=ab ha e4_4
 have e6_5:=ab ha e6_4
 have e7_5:=(ak (t:=7) (i:=7) ha).trans (hx)
 have f2_5:=hC.locR f2_4
 have R4_5:=hC.holds R4_4
 have x6_5:=hC.locR x6_4
 have x7_5:=hl
 clear hx hge hl hC hall
 repeat first | apply lw | apply lx
 refine lm bb_5 [kZ 19 d,kZ 19 ((zgcd [(n),(d)] : Nat) : Int),kZQ 40 40 (zq d ((zgcd [(n),(d)] : Nat) : Int)) (zm d ((zgcd [(n),(d)] : Nat) : Int)) 0,kZQ 40 40 (zq d ((zgcd [(n),(d)] : Nat) : Int)) (zm d ((zgcd [(n),(d)] : Nat) : Int)) 0,kZ 40 (zq d ((zgcd [(n),(d)] : Nat) : Int)),kZ 40 (zm d ((zgcd [(n),(d)] : Nat) : Int)),kIs (.int .i64 (0)),PK.fresh 2,PK.fresh 2,kPutZ 7 40 (zq d ((zgcd [(n),(d)] : Nat) : Int)),kPutZ 8 40 (zm d ((zgcd [(n),(d)] : Nat) : Int)),kIs (.int .i64 (0))] [[],[],[0,1],[2],[3],[3],[3],[],[],[7,4],[8,5],[6]] [47,48,49,46,50,51,52,10,11,999,999,12] [] [] ?_ ?_
 ·
   refine aj f2_5.atR e3_5 ?_; refine aj x6_5.atR e6_5 ?_; refine aa rfl rfl (ai rfl rfl rfl fun hC h1 h2=>tdm (r2_divMod hg (rr h1) (rr h2))) ?_; refine aa rfl rfl (bg rfl rfl) ?_; refine ap ext_q ?_; refine ap ext_r ?_; refine ap ext_e ?_; refine ar ?_; refine ar ?_; refine bf ?_; refine bf ?_; refine p10 ?_; exact ae rfl
 intro W_6 z a_6 hC hall ha hN_6 hD_6 bb_6
 obtain ⟨g10,hx,hge,hl⟩:=bh (me hall 9)
 have d10:=Nat.lt_of_lt_of_le R4_5.lt hge
 have e4_6:=ab ha e4_5
 have e7_6:=ab ha e7_5
 have e10_6:=(ak (t:=10) (i:=7) ha).trans (hx)
 have R4_6:=hC.holds R4_5
 have x7_6:=hC.locR x7_5
 have x10_6:=hl
 clear hx hge hl hC hall
 repeat first | apply lw | apply lx
 refine mg bb_6 R4_6 [kZ 40 (zq n ((zgcd [(n),(d)] : Nat) : Int)),kZ 40 (zq d ((zgcd [(n),(d)] : Nat) : Int)),kP 40 (zq n ((zgcd [(n),(d)] : Nat) : Int)) (zq d ((zgcd [(n),(d)] : Nat) : Int)),kRes (w.heap.size + 1 + 1) 40 (zq n ((zgcd [(n),(d)] : Nat) : Int)) (zq d ((zgcd [(n),(d)] : Nat) : Int)),kIs (.int .i64 (0))] [[],[],[0,1],[2],[]] [53,54,55,999,5] [] [] ?_ ?_
 ·
   refine aj (hG:=(by simp only [List.mem_singleton]; omega)) x7_6.atR e7_6 ?_; refine aj (hG:=(by simp only [List.mem_singleton]; omega)) x10_6.atR e10_6 ?_; refine aa rfl rfl (cw (k:=40) rfl rfl rfl) ?_; refine aa rfl rfl (bd R4_6 rfl e4_6 rfl rfl) ?_; refine p00 ?_; exact ae rfl
 intro W z a1 hC hall ha hN1 hD1 bb1
 obtain ⟨cs,hgg,hP⟩:=me hall 3
 have i4:=ab (t:=4) ha e4_6
 have i5:=ln ha hall 5 4
 repeat first | apply lw | apply lx
 refine wp_ret ?_
 repeat (refine then_r ?_)
 exact bi (t:=4) (u:=5) rfl hD1 i4 i5 hgg hP fun v hv=>⟨v,rfl,by rw [HQ.out.1,HQ.out.2]; exact hv,bb1⟩
theorem refOf_N {w : World} {v1 v2 : Value} {n d : Int} (hd : d < 0) (hg : ((zgcd [((-n)),((-d))] : Nat) : Int) ≠ 0) (h1 : Zr w v1 19 n) (h2 : Zr w v2 19 d) :
   Calls Tryz.prog 12 #[v1,v2] w (fun e w'=>∃ v,e = .returned (.tuple #[v,.int .i64 (0)]) ∧ Pr w' v 40 (zq (-n) ((zgcd [((-n)),((-d))] : Nat) : Int)) (zq (-d) ((zgcd [((-n)),((-d))] : Nat) : Int)) ∧ Below w.heap.size w w'):=by
 obtain ⟨qq,hqq⟩ : ∃ u,u = (zq (-n) ((zgcd [((-n)),((-d))] : Nat) : Int)):=⟨_,rfl⟩
 obtain ⟨rr_,hrr⟩ : ∃ u,u = (zq (-d) ((zgcd [((-n)),((-d))] : Nat) : Int)):=⟨_,rfl⟩
 rw [← hrr,← hqq]
 have HQ:=Lib.hid (And.intro hqq hrr)
 clear hqq hrr
 obtain ⟨A1,l1,c1,rfl,r1,u1⟩:=h1
 obtain ⟨b1,hb1⟩ : ∃ s,s = decide (n < 0):=⟨_,rfl⟩
 have H1:=Lib.hid (show _ ∧ _ ∧ _ from ⟨hb1,r1,u1⟩)
 obtain ⟨A2,l2,c2,rfl,r2,u2⟩:=h2
 obtain ⟨b2,hb2⟩ : ∃ s,s = decide (d < 0):=⟨_,rfl⟩
 have H2:=Lib.hid (show _ ∧ _ ∧ _ from ⟨hb2,r2,u2⟩)
 show Calls _ _ #[.agg #[.bool (decide (n < 0)),.slice A1 l1 c1],.agg #[.bool (decide (d < 0)),.slice A2 l2 c2]] _ _
 rw [← hb1,← hb2]
 clear hb1 r1 u1 hb2 r2 u2
 go_enter Tryz.func12,Tryz.ntmps12
 repeat apply wp_seq
 refine mf fun K HK=>?_
 go_wp2
 refine HK.out _ _ (then_n ?_)
 refine md (G:=fun W=>Code.wp _ _ _ _ W) ?_
 intro W_0 bb_0 K0 K1 K2
 have f1_0 : LocR W_0 (w.heap.size) 19 n:=⟨A1,l1,c1,by rw [← H1.out.1]; exact ⟨⟨_,K0⟩,by simp [noDig]⟩,A1,l1,c1,rfl,H1.out.2.1.below bb_0,H1.out.2.2⟩
 have f2_0 : LocR W_0 (w.heap.size + 1) 19 d:=⟨A2,l2,c2,by rw [← H2.out.1]; exact ⟨⟨_,K1⟩,by simp [noDig]⟩,A2,l2,c2,rfl,H2.out.2.1.below bb_0,H2.out.2.2⟩
 have R4_0:=ge K2
 clear K0 K1 K2
 refine ly (G:=fun a=>Code.wp _ _ _ a _) 56 ?_
 intro a_0 ha hN_0 hD_0
 have e2_0:=lu ha 2 w.heap.size
 have e3_0:=lu ha 3 (w.heap.size + 1)
 have e4_0:=lu ha 4 (w.heap.size + 1 + 1)
 repeat first | apply lw | apply lx
 refine lm bb_0 [kZ 19 n,lq,lr,lr,kZ 19 d,lq,lr,lr] [[],[0],[1],[2],[],[4],[5],[3,6]] [13,14,15,16,17,18,19,20] [(3,false)] [] ?_ ?_
 ·
   refine aj f1_0.atR e2_0 ?_; refine aa rfl rfl (ac rfl rfl fun hC h1=>ti (r2_right (rr h1))) ?_; refine p10 ?_; refine p10 ?_; refine aj f2_0.atR e3_0 ?_; refine aa rfl rfl (ac rfl rfl fun hC h1=>ti (r2_right (rr h1))) ?_; refine p10 ?_; refine p20 ?_; exact ae rfl
 intro W_1 z a_1 hC hall ha hN_1 hD_1 bb_1
 have e2_1:=ab ha e2_0
 have e3_1:=ab ha e3_0
 have e4_1:=ab ha e4_0
 have e20_1:=ln ha hall 20 7
 have f1_1:=hC.locR f1_0
 have f2_1:=hC.locR f2_0
 have R4_1:=hC.holds R4_0
 clear hC hall
 refine wp_cond_false e20_1 ?_
 refine wp_skip ?_
 refine then_n ?_
 clear e20_1
 repeat first | apply lw | apply lx
 refine lm bb_1 [kZ 19 d,kZ 1 0,kIs (.int .i64 (-1)),lr] [[],[],[0,1],[2]] [22,23,24,25] [] [] ?_ ?_
 ·
   refine aj f2_1.atR e3_1 ?_; refine aa rfl rfl (aq [] rfl rfl fun hC=>tz fj) ?_; refine aa rfl rfl (ai rfl rfl rfl fun hC h1 h2=>ti (cmp_is (ord_lt hd) (r2_cmp ((rr h1).mono (by decide)) ((rr h2).mono (by decide))))) ?_; refine p10 ?_; exact ae rfl
 intro W_2 z a_2 hC hall ha hN_2 hD_2 bb_2
 have e2_2:=ab ha e2_1
 have e3_2:=ab ha e3_1
 have e4_2:=ab ha e4_1
 have e25_2:=ln ha hall 25 3
 have f1_2:=hC.locR f1_1
 have f2_2:=hC.locR f2_1
 have R4_2:=hC.holds R4_1
 clear hC hall
 refine wp_cond_false e25_2 ?_
 clear e25_2
 refine wp_skip ?_
 refine then_n ?_
 repeat first | apply lw | apply lx
 refine lm bb_2 [kZ 19 d,kZ 1 0,kIs (.int .i64 (-1)),lq] [[],[],[0,1],[2]] [27,28,29,30] [] [] ?_ ?_
 ·
   refine aj f2_2.atR e3_2 ?_; refine aa rfl rfl (aq [] rfl rfl fun hC=>tz fj) ?_; refine aa rfl rfl (ai rfl rfl rfl fun hC h1 h2=>ti (cmp_is (ord_lt hd) (r2_cmp ((rr h1).mono (by decide)) ((rr h2).mono (by decide))))) ?_; refine p10 ?_; exact ae rfl
 intro W_3 z a_3 hC hall ha hN_3 hD_3 bb_3
 have e2_3:=ab ha e2_2
 have e3_3:=ab ha e3_2
 have e4_3:=ab ha e4_2
 have e30_3:=ln ha hall 30 3
 have f1_3:=hC.locR f1_2
 have f2_3:=hC.locR f2_2
 have R4_3:=hC.holds R4_2
 clear hC hall
 refine wp_cond_true e30_3 ?_
 clear e30_3
 repeat first | apply lw | apply lx
 obtain ⟨u3,v3,X3⟩ : ∃ u v,Holds_ W_3 (w.heap.size) #[u,v]:=by obtain ⟨A,m,c,hh,_⟩:=f1_3; exact ⟨_,_,hh⟩
 refine Wk9 bb_3 X3 2 [0] [kZ 19 n,kZ 19 (-n),kResZ (w.heap.size) 19 (-n)] [[],[0],[1]] [31,32,999] [] [] ?_ ?_
 ·
   refine bj rfl rfl rfl ?_ ?_
   · exact ii f1_3.atR e2_3 rfl
   refine ah rfl rfl (ac rfl rfl fun hC h1=>tz (r2_neg (rr h1) (by decide))) ?_; refine ah rfl rfl (ci X3 e2_3 rfl rfl) ?_; exact cn rfl
 intro W_4 z a_4 hC hall ha hN_4 hD_4 bb_4
 have X2:=res_locR (show (kResZ (w.heap.size) 19 (-n)).sem _ _ _ _ from hall 2 (of_decide_eq_true (by kernel_rfl)))
 have e2_4:=ab ha e2_3
 have e3_4:=ab ha e3_3
 have e4_4:=ab ha e4_3
 have f1_4:=X2
 have f2_4:=locG hC (by simp only [List.mem_singleton]; omega) f2_3
 have R4_4:=hC.holdsG (by simp only [List.mem_singleton]; omega) R4_3
 clear hC hall X2 X3
 repeat first | apply lw | apply lx
 obtain ⟨u3,v3,X3⟩ : ∃ u v,Holds_ W_4 (w.heap.size + 1) #[u,v]:=by obtain ⟨A,m,c,hh,_⟩:=f2_4; exact ⟨_,_,hh⟩
 refine Wk9 bb_4 X3 2 [0] [kZ 19 d,kZ 19 (-d),kResZ (w.heap.size + 1) 19 (-d)] [[],[0],[1]] [33,34,999] [] [] ?_ ?_
 ·
   refine bj rfl rfl rfl ?_ ?_
   · exact ii f2_4.atR e3_4 rfl
   refine ah rfl rfl (ac rfl rfl fun hC h1=>tz (r2_neg (rr h1) (by decide))) ?_; refine ah rfl rfl (ci X3 e3_4 rfl rfl) ?_; exact cn rfl
 intro W_5 z a_5 hC hall ha hN_5 hD_5 bb_5
 have X2:=res_locR (show (kResZ (w.heap.size + 1) 19 (-d)).sem _ _ _ _ from hall 2 (of_decide_eq_true (by kernel_rfl)))
 have e2_5:=ab ha e2_4
 have e3_5:=ab ha e3_4
 have e4_5:=ab ha e4_4
 have f1_5:=locG hC (by simp only [List.mem_singleton]; omega) f1_4
 have f2_5:=X2
 have R4_5:=hC.holdsG (by simp only [List.mem_singleton]; omega) R4_4
 clear hC hall X2 X3
 repeat first | apply lw | apply lx
 refine lm bb_5 [kZ 19 (-n),kZ 19 (-d),kZRs [(19,(-n)),(19,(-d))],kZ 19 ((zgcd [((-n)),((-d))] : Nat) : Int),PK.fresh 2,kPutZ 4 19 ((zgcd [((-n)),((-d))] : Nat) : Int)] [[],[],[0,1],[2],[],[4,3]] [35,36,37,38,6,999] [] [] ?_ ?_
 ·
   refine aj f1_5.atR e2_5 ?_; refine aj f2_5.atR e3_5 ?_; refine aa rfl rfl (eu rfl rfl rfl) ?_; refine aa rfl rfl (ac rfl rfl fun hC h1=>tz (r2_gcd 19 h1 (by kernel_rfl) (by decide) (by simp))) ?_; refine ar ?_; refine bf ?_; exact ae rfl
 intro W_6 z a_6 hC hall ha hN_6 hD_6 bb_6
 obtain ⟨g6,hx,hge,hl⟩:=bh (me hall 5)
 have d6:=Nat.lt_of_lt_of_le R4_5.lt hge
 have e2_6:=ab ha e2_5
 have e3_6:=ab ha e3_5
 have e4_6:=ab ha e4_5
 have e6_6:=(ak (t:=6) (i:=4) ha).trans (hx)
 have f1_6:=hC.locR f1_5
 have f2_6:=hC.locR f2_5
 have R4_6:=hC.holds R4_5
 have x6_6:=hl
 clear hx hge hl hC hall
 repeat first | apply lw | apply lx
 refine lm bb_6 [kZ 19 (-n),kZ 19 ((zgcd [((-n)),((-d))] : Nat) : Int),kZQ 40 40 (zq (-n) ((zgcd [((-n)),((-d))] : Nat) : Int)) (zm (-n) ((zgcd [((-n)),((-d))] : Nat) : Int)) 0,kZQ 40 40 (zq (-n) ((zgcd [((-n)),((-d))] : Nat) : Int)) (zm (-n) ((zgcd [((-n)),((-d))] : Nat) : Int)) 0,kZ 40 (zq (-n) ((zgcd [((-n)),((-d))] : Nat) : Int)),kZ 40 (zm (-n) ((zgcd [((-n)),((-d))] : Nat) : Int)),kIs (.int .i64 (0)),PK.fresh 2,PK.fresh 2,kPutZ 7 40 (zq (-n) ((zgcd [((-n)),((-d))] : Nat) : Int)),kPutZ 8 40 (zm (-n) ((zgcd [((-n)),((-d))] : Nat) : Int)),kIs (.int .i64 (0))] [[],[],[0,1],[2],[3],[3],[3],[],[],[7,4],[8,5],[6]] [40,41,42,39,43,44,45,7,8,999,999,9] [] [] ?_ ?_
 ·
   refine aj f1_6.atR e2_6 ?_; refine aj x6_6.atR e6_6 ?_; refine aa rfl rfl (ai rfl rfl rfl fun hC h1 h2=>tdm (r2_divMod hg (rr h1) (rr h2))) ?_; refine aa rfl rfl (bg rfl rfl) ?_; refine ap ext_q ?_; refine ap ext_r ?_; refine ap ext_e ?_; refine ar ?_; refine ar ?_; refine bf ?_; refine bf ?_; refine p10 ?_; exact ae rfl
 intro W_7 z a_7 hC hall ha hN_7 hD_7 bb_7
 obtain ⟨g7,hx,hge,hl⟩:=bh (me hall 9)
 have d7:=Nat.lt_of_lt_of_le R4_6.lt hge
 have e3_7:=ab ha e3_6
 have e4_7:=ab ha e4_6
 have e6_7:=ab ha e6_6
 have e7_7:=(ak (t:=7) (i:=7) ha).trans (hx)
 have f2_7:=hC.locR f2_6
 have R4_7:=hC.holds R4_6
 have x6_7:=hC.locR x6_6
 have x7_7:=hl
 clear hx hge hl hC hall
 repeat first | apply lw | apply lx
 refine lm bb_7 [kZ 19 (-d),kZ 19 ((zgcd [((-n)),((-d))] : Nat) : Int),kZQ 40 40 (zq (-d) ((zgcd [((-n)),((-d))] : Nat) : Int)) (zm (-d) ((zgcd [((-n)),((-d))] : Nat) : Int)) 0,kZQ 40 40 (zq (-d) ((zgcd [((-n)),((-d))] : Nat) : Int)) (zm (-d) ((zgcd [((-n)),((-d))] : Nat) : Int)) 0,kZ 40 (zq (-d) ((zgcd [((-n)),((-d))] : Nat) : Int)),kZ 40 (zm (-d) ((zgcd [((-n)),((-d))] : Nat) : Int)),kIs (.int .i64 (0)),PK.fresh 2,PK.fresh 2,kPutZ 7 40 (zq (-d) ((zgcd [((-n)),((-d))] : Nat) : Int)),kPutZ 8 40 (zm (-d) ((zgcd [((-n)),((-d))] : Nat) : Int)),kIs (.int .i64 (0))] [[],[],[0,1],[2],[3],[3],[3],[],[],[7,4],[8,5],[6]] [47,48,49,46,50,51,52,10,11,999,999,12] [] [] ?_ ?_
 ·
   refine aj f2_7.atR e3_7 ?_; refine aj x6_7.atR e6_7 ?_; refine aa rfl rfl (ai rfl rfl rfl fun hC h1 h2=>tdm (r2_divMod hg (rr h1) (rr h2))) ?_; refine aa rfl rfl (bg rfl rfl) ?_; refine ap ext_q ?_; refine ap ext_r ?_; refine ap ext_e ?_; refine ar ?_; refine ar ?_; refine bf ?_; refine bf ?_; refine p10 ?_; exact ae rfl
 intro W_8 z a_8 hC hall ha hN_8 hD_8 bb_8
 obtain ⟨g10,hx,hge,hl⟩:=bh (me hall 9)
 have d10:=Nat.lt_of_lt_of_le R4_7.lt hge
 have e4_8:=ab ha e4_7
 have e7_8:=ab ha e7_7
 have e10_8:=(ak (t:=10) (i:=7) ha).trans (hx)
 have R4_8:=hC.holds R4_7
 have x7_8:=hC.locR x7_7
 have x10_8:=hl
 clear hx hge hl hC hall
 repeat first | apply lw | apply lx
 refine mg bb_8 R4_8 [kZ 40 (zq (-n) ((zgcd [((-n)),((-d))] : Nat) : Int)),kZ 40 (zq (-d) ((zgcd [((-n)),((-d))] : Nat) : Int)),kP 40 (zq (-n) ((zgcd [((-n)),((-d))] : Nat) : Int)) (zq (-d) ((zgcd [((-n)),((-d))] : Nat) : Int)),kRes (w.heap.size + 1 + 1) 40 (zq (-n) ((zgcd [((-n)),((-d))] : Nat) : Int)) (zq (-d) ((zgcd [((-n)),((-d))] : Nat) : Int)),kIs (.int .i64 (0))] [[],[],[0,1],[2],[]] [53,54,55,999,5] [] [] ?_ ?_
 ·
   refine aj (hG:=(by simp only [List.mem_singleton]; omega)) x7_8.atR e7_8 ?_; refine aj (hG:=(by simp only [List.mem_singleton]; omega)) x10_8.atR e10_8 ?_; refine aa rfl rfl (cw (k:=40) rfl rfl rfl) ?_; refine aa rfl rfl (bd R4_8 rfl e4_8 rfl rfl) ?_; refine p00 ?_; exact ae rfl
 intro W z a1 hC hall ha hN1 hD1 bb1
 obtain ⟨cs,hgg,hP⟩:=me hall 3
 have i4:=ab (t:=4) ha e4_8
 have i5:=ln ha hall 5 4
 repeat first | apply lw | apply lx
 refine wp_ret ?_
 repeat (refine then_r ?_)
 exact bi (t:=4) (u:=5) rfl hD1 i4 i5 hgg hP fun v hv=>⟨v,rfl,by rw [HQ.out.1,HQ.out.2]; exact hv,bb1⟩
theorem refOf_zero {w : World} {v1 v2 : Value} {n d : Int} (hd : d = 0) (h1 : Zr w v1 19 n) (h2 : Zr w v2 19 d) :
   Calls Tryz.prog 12 #[v1,v2] w (fun e w'=>∃ v,e = .returned (.tuple #[v,.int .i64 (9)]) ∧ Pr w' v 1 0 1 ∧ Below w.heap.size w w'):=by
 obtain ⟨A1,l1,c1,rfl,r1,u1⟩:=h1
 obtain ⟨b1,hb1⟩ : ∃ s,s = decide (n < 0):=⟨_,rfl⟩
 have H1:=Lib.hid (show _ ∧ _ ∧ _ from ⟨hb1,r1,u1⟩)
 obtain ⟨A2,l2,c2,rfl,r2,u2⟩:=h2
 obtain ⟨b2,hb2⟩ : ∃ s,s = decide (d < 0):=⟨_,rfl⟩
 have H2:=Lib.hid (show _ ∧ _ ∧ _ from ⟨hb2,r2,u2⟩)
 show Calls _ _ #[.agg #[.bool (decide (n < 0)),.slice A1 l1 c1],.agg #[.bool (decide (d < 0)),.slice A2 l2 c2]] _ _
 rw [← hb1,← hb2]
 clear hb1 r1 u1 hb2 r2 u2
 go_enter Tryz.func12,Tryz.ntmps12
 repeat apply wp_seq
 refine mf fun K HK=>?_
 go_wp2
 refine HK.out _ _ (then_n ?_)
 refine md (G:=fun W=>Code.wp _ _ _ _ W) ?_
 intro W_0 bb_0 K0 K1 K2
 have f1_0 : LocR W_0 (w.heap.size) 19 n:=⟨A1,l1,c1,by rw [← H1.out.1]; exact ⟨⟨_,K0⟩,by simp [noDig]⟩,A1,l1,c1,rfl,H1.out.2.1.below bb_0,H1.out.2.2⟩
 have f2_0 : LocR W_0 (w.heap.size + 1) 19 d:=⟨A2,l2,c2,by rw [← H2.out.1]; exact ⟨⟨_,K1⟩,by simp [noDig]⟩,A2,l2,c2,rfl,H2.out.2.1.below bb_0,H2.out.2.2⟩
 have R4_0:=ge K2
 clear K0 K1 K2
 refine ly (G:=fun a=>Code.wp _ _ _ a _) 56 ?_
 intro a_0 ha hN_0 hD_0
 have e2_0:=lu ha 2 w.heap.size
 have e3_0:=lu ha 3 (w.heap.size + 1)
 have e4_0:=lu ha 4 (w.heap.size + 1 + 1)
 repeat first | apply lw | apply lx
 refine lm bb_0 [kZ 19 n,lq,lr,lr,kZ 19 d,lq,lr,lr] [[],[0],[1],[2],[],[4],[5],[3,6]] [13,14,15,16,17,18,19,20] [(3,false)] [] ?_ ?_
 ·
   refine aj f1_0.atR e2_0 ?_; refine aa rfl rfl (ac rfl rfl fun hC h1=>ti (r2_right (rr h1))) ?_; refine p10 ?_; refine p10 ?_; refine aj f2_0.atR e3_0 ?_; refine aa rfl rfl (ac rfl rfl fun hC h1=>ti (r2_right (rr h1))) ?_; refine p10 ?_; refine p20 ?_; exact ae rfl
 intro W_1 z a_1 hC hall ha hN_1 hD_1 bb_1
 have e3_1:=ab ha e3_0
 have e4_1:=ab ha e4_0
 have e20_1:=ln ha hall 20 7
 have f2_1:=hC.locR f2_0
 have R4_1:=hC.holds R4_0
 clear hC hall
 refine wp_cond_false e20_1 ?_
 refine wp_skip ?_
 refine then_n ?_
 clear e20_1
 repeat first | apply lw | apply lx
 refine lm bb_1 [kZ 19 d,kZ 1 0,kIs (.int .i64 (0)),lq] [[],[],[0,1],[2]] [22,23,24,25] [] [] ?_ ?_
 ·
   refine aj f2_1.atR e3_1 ?_; refine aa rfl rfl (aq [] rfl rfl fun hC=>tz fj) ?_; refine aa rfl rfl (ai rfl rfl rfl fun hC h1 h2=>ti (cmp_is (ord_eq hd) (r2_cmp ((rr h1).mono (by decide)) ((rr h2).mono (by decide))))) ?_; refine p10 ?_; exact ae rfl
 intro W_2 z a_2 hC hall ha hN_2 hD_2 bb_2
 have e4_2:=ab ha e4_1
 have e25_2:=ln ha hall 25 3
 have R4_2:=hC.holds R4_1
 clear hC hall
 refine wp_cond_true e25_2 ?_
 clear e25_2
 repeat first | apply lw | apply lx
 refine mg bb_2 R4_2 [kP 1 0 1,kRes (w.heap.size + 1 + 1) 1 0 1,kIs (.int .i64 (9))] [[],[0],[]] [26,999,5] [] [] ?_ ?_
 ·
   refine aa rfl rfl (aq [] rfl rfl fun hC=>tp db) ?_; refine aa rfl rfl (bd R4_2 rfl e4_2 rfl rfl) ?_; refine p00 ?_; exact ae rfl
 intro W z a1 hC hall ha hN1 hD1 bb1
 obtain ⟨cs,hgg,hP⟩:=me hall 1
 have i4:=ab (t:=4) ha e4_2
 have i5:=ln ha hall 5 2
 repeat first | apply lw | apply lx
 refine wp_ret ?_
 repeat (refine then_r ?_)
 exact bi (t:=4) (u:=5) rfl hD1 i4 i5 hgg hP fun v hv=>⟨v,rfl,hv,bb1⟩
theorem refOf_yes {w : World} {v1 v2 : Value} {n d : Int} (hd : d ≠ 0) (h1 : Zr w v1 19 n) (h2 : Zr w v2 19 d) :
   Calls Tryz.prog 12 #[v1,v2] w (fun e w'=>∃ v,e = .returned (.tuple #[v,.int .i64 (0)]) ∧ Pr w' v 40 (Rat.divInt n d).num ((Rat.divInt n d).den : Int) ∧ Below w.heap.size w w'):=by
 have hs : ∀ {p q : Int},0 < q → sdiv p q = ((zgcd [(p),(q)] : Nat) : Int):=fun {p q} hq=>by unfold sdiv; rw [if_neg (by omega)]
 rcases Int.lt_or_gt_of_ne hd with h | h
 · have hq : (0 : Int) < -d:=by omega
   have hne : -d ≠ 0:=by omega
   have hx:=refOf_N h (by rw [← hs hq]; exact sdiv_ne hne) h1 h2; rw [← hs hq,low_num hne,low_den hne,Rat.neg_divInt_neg] at hx; exact hx
 · have hx:=refOf_P h (by rw [← hs h]; exact sdiv_ne hd) h1 h2; rw [← hs h,low_num hd,low_den hd] at hx; exact hx
end Go.Proofs.YtnbhihhjgpddcaaGreatDoor

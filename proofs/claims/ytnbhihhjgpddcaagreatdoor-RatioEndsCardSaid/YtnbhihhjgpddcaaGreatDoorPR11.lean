/- RatioTells: for every two ratios the call returns true; the ratios read behind the call as they read before. RatioEnds: the call, which takes no argument, returns true. Conditions: those of the given rows and cards: the three tables of the library are laid as the program's text lays them. The law RatioEnds, walked: RatioEnds, its row and its card: -/
import Derived.Test.YtnbhihhjgpddcaaGreatDoorPR10
import Derived.Deep.RegionWith
import Derived.Deep.RegionLaw
import Derived.RegionTactic
import Derived.Deep.DeepCutAuto
import Derived.Deep.CutBlock
set_option maxRecDepth 100000
set_option maxHeartbeats 16000000
set_option linter.unusedVariables false
set_option linter.unusedSimpArgs false
namespace Go.Proofs.YtnbhihhjgpddcaaGreatDoor
open Go.RowKit
theorem endsq_walk (w : World) (HT : Hid (Tab w ∧ 2 ≤ w.heap.size)) (HA : Hid (Calls Tryz.prog 6 #[] w fun e w' => e = .returned (.bool true) ∧ Below w.heap.size w w'))
   (HL : Hid (∀ W v1 v2,Below w.heap.size w W → Sv W v1 → Sv W v2 → Calls Tryz.prog 3 #[v1,v2] W (SaysB W true)))
   (HX : Hid (∀ W s,Below w.heap.size w W → Calls Tryz.prog 38 #[.string s] W (SaysB W true))) :
   Calls Tryz.prog 5 #[] w fun e w'=>e = .returned (.bool true) ∧ Below w.heap.size w w':=by
 go_enter Tryz.func5,Tryz.ntmps5
 go_wp2_with fail
 refine HA.out.mono ?_
 rintro e w0 ⟨rfl,b0⟩
 go_upto_region 4 with fail
 rename_i hK2 _ hK
 have HK:=Lib.hid hK
 have HK2:=Lib.hid hK2
 clear hK hK2
 obtain ⟨W_1,hw1⟩ : ∃ W,W = w0.alloc (.cells #[.int .i64 0,.int .i64 1,.int .i64 (-1),.int .i64 2,.int .i64 (-2),.int .i64 3,.int .i64 6,.int .i64 999999999,.int .i64 (-1000000000),.int .i64 9223372036854775807,.int .i64 (-9223372036854775808)] 2):=⟨_,rfl⟩
 have E_1 : AtE W_1 w0.heap.size:=by rw [hw1]; exact atE_new _ _
 have bb_1 : Below w.heap.size w W_1:=by rw [hw1]; exact b0.alloc b0.size _
 rw [← hw1]
 clear hw1 b0
 refine ly (G:=fun a=>Code.wp _ _ _ a _) 90 ?_
 intro a_1 ha hN_1 hD_1
 have e1_1 : a_1.eval (.tmp 1) = .slice (some ⟨w0.heap.size,0,none⟩) 11 11:=ma ha
 obtain ⟨g1,hg1⟩ : ∃ g,g = w0.heap.size:=⟨_,rfl⟩
 rw [← hg1] at E_1 e1_1
 clear hg1
 repeat first | apply lw | apply lx
 refine wp_set fun x hx=>?_
 refine then_n ?_
 refine HK.out _ _ ?_
 clear HK
 obtain ⟨a_2,ha⟩ : ∃ a,a = putE x a_1 [(0,some 2)]:=⟨_,rfl⟩
 rw [← ha]
 have hN_2:=size_behind ha hN_1
 have hD_2:=defers_behind ha hD_1
 have bb_2:=bb_1
 have e1_2:=ab ha e1_1
 have E_2:=E_1
 have e2_2:=(ak (t:=2) (i:=0) ha).trans (hx)
 repeat first | apply lw | apply lx
 refine wp_block ?_
 refine wp_loop (fun a W=>a.tmps.size = 90 ∧ a.defers = [] ∧ a.eval (.tmp 1) = .slice (some ⟨g1,0,none⟩) 11 11 ∧ Below w.heap.size w W ∧ AtE W g1 ∧ ∃ i : Nat,i ≤ 11 ∧ a.eval (.tmp 2) = .int .i64 (i : Int)) (fun a _=>11 - (intOf (a.eval (.tmp 2))).toNat) ?_ ?_
 · exact ⟨hN_2,hD_2,e1_2,bb_2,E_2,0,by decide,e2_2⟩
 clear hN_2 hD_2 e1_2 bb_2 E_2 e2_2
 rintro a_10 W_10 ⟨hN_10,hD_10,e1_10,bb_10,E_10,i,hi7,e2_10⟩
 have hm : intOf (a_10.eval (.tmp 2)) = (i : Int):=by rw [e2_10]; rfl
 rw [hm]
 clear hm
 repeat first | apply lw | apply lx
 refine lh e2_10 e1_10 (len_runW _ _ _ _) (less_run _ _) fun x hx=>?_
 refine then_n ?_
 obtain ⟨a_11,ha⟩ : ∃ a,a = putE x a_10 [(0,some 8),(1,some 9),(2,some 10),(3,some 11)]:=⟨_,rfl⟩
 rw [← ha]
 have hN_11:=size_behind ha hN_10
 have hD_11:=defers_behind ha hD_10
 have bb_11:=bb_10
 have e1_11:=ab ha e1_10
 have e2_11:=ab ha e2_10
 have E_11:=E_10
 have e11_11:=(ak (t:=11) (i:=3) ha).trans (hx)
 by_cases hi : i < 11
 ·
   have hc : decide ((i : Int) < ((11 : Nat) : Int)) = true:=decide_eq_true (by omega); rw [hc] at e11_11; clear hc; refine wp_cond_true e11_11 ?_; refine wp_skip ?_; refine then_n ?_
   repeat first | apply lw | apply lx
   refine wp_block ?_
   repeat first | apply lw | apply lx
   refine wp_set fun x hx=>?_; refine then_n ?_
   obtain ⟨a_12,ha⟩ : ∃ a,a = putE x a_11 [(0,some 3)]:=⟨_,rfl⟩
   rw [← ha]; have hN_12:=size_behind ha hN_11; have hD_12:=defers_behind ha hD_11; have bb_12:=bb_11; have e1_12:=ab ha e1_11; have e2_12:=ab ha e2_11; have E_12:=E_11; have e3_12:=(ak (t:=3) (i:=0) ha).trans (hx)
   repeat first | apply lw | apply lx
   refine wp_block ?_; refine wp_loop (fun a W=>a.tmps.size = 90 ∧ a.defers = [] ∧ a.eval (.tmp 1) = .slice (some ⟨g1,0,none⟩) 11 11 ∧ a.eval (.tmp 2) = .int .i64 (i : Int) ∧ Below w.heap.size w W ∧ AtE W g1 ∧ ∃ j : Nat,j ≤ 11 ∧ a.eval (.tmp 3) = .int .i64 (j : Int)) (fun a _=>11 - (intOf (a.eval (.tmp 3))).toNat) ?_ ?_
   · exact ⟨hN_12,hD_12,e1_12,e2_12,bb_12,E_12,0,by decide,e3_12⟩
   clear hN_12 hD_12 e1_12 e2_12 bb_12 E_12 e3_12; rintro a_30 W_30 ⟨hN_30,hD_30,e1_30,e2_30,bb_30,E_30,j,hj7,e3_30⟩; have hm : intOf (a_30.eval (.tmp 3)) = (j : Int):=by rw [e3_30]; rfl
   rw [hm]; clear hm
   repeat first | apply lw | apply lx
   refine lh e3_30 e1_30 (len_runW _ _ _ _) (less_run _ _) fun x hx=>?_; refine then_n ?_
   obtain ⟨a_31,ha⟩ : ∃ a,a = putE x a_30 [(0,some 14),(1,some 15),(2,some 16),(3,some 17)]:=⟨_,rfl⟩
   rw [← ha]; have hN_31:=size_behind ha hN_30; have hD_31:=defers_behind ha hD_30; have bb_31:=bb_30; have e1_31:=ab ha e1_30; have e2_31:=ab ha e2_30; have e3_31:=ab ha e3_30; have E_31:=E_30; have e17_31:=(ak (t:=17) (i:=3) ha).trans (hx)
   by_cases hj : j < 11
   ·
     have hc : decide ((j : Int) < ((11 : Nat) : Int)) = true:=decide_eq_true (by omega); rw [hc] at e17_31; clear hc; refine wp_cond_true e17_31 ?_; refine wp_skip ?_; refine then_n ?_
     repeat first | apply lw | apply lx
     refine wp_block ?_
     repeat first | apply lw | apply lx
     refine lm bb_31 [kIs (.slice (some ⟨g1,0,none⟩) 11 11),kIs (.int .i64 (i : Int)),kIs (.pointer (some ⟨g1,i,none⟩)),kIs (.int .i64 (e11 i)),kZ 3 (e11 i),kIs (.slice (some ⟨g1,0,none⟩) 11 11),kIs (.int .i64 (j : Int)),kIs (.pointer (some ⟨g1,j,none⟩)),kIs (.int .i64 (e11 j)),kZ 3 (e11 j),kP 3 (e11 i) (e11 j),PK.fresh 4,kPutP 11 3 (e11 i) (e11 j)] [[],[],[0,1],[2],[3],[],[],[5,6],[7],[8],[4,9],[],[11,10]] [20,21,22,23,24,25,26,27,28,29,30,4,999] [] [] ?_ ?_
     ·
       refine p01 e1_31 ?_; refine p01 e2_31 ?_; refine p20 (hr:=fun _=>ex_idx (by kernel_rfl) (by kernel_rfl) (run_idxW hi)) ?_; refine aa rfl rfl (iw E_31 hi rfl rfl) ?_; refine aa rfl rfl (ac rfl rfl fun hC h1=>ix h1) ?_; refine p01 e1_31 ?_; refine p01 e3_31 ?_; refine p20 (hr:=fun _=>ex_idx (by kernel_rfl) (by kernel_rfl) (run_idxW hj)) ?_; refine aa rfl rfl (iw E_31 hj rfl rfl) ?_; refine aa rfl rfl (ac rfl rfl fun hC h1=>ix h1) ?_; refine aa rfl rfl (cw (k:=3) rfl rfl rfl) ?_; refine aa rfl rfl (bp rfl) ?_; refine aa rfl rfl (du rfl rfl rfl) ?_; exact ae rfl
     intro W_32 x a_32 hC hall ha hN_32 hD_32 bb_32; have e1_32:=ab ha e1_31; have e2_32:=ab ha e2_31; have e3_32:=ab ha e3_31; have E_32:=hC.atE E_31; obtain ⟨g4,hx,hge,p4_32,p4'_32⟩:=di (me hall 12); have e4_32:=(ak (t:=4) (i:=11) ha).trans hx; clear hx hge
     repeat first | apply lw | apply lx
     refine lm bb_32 [kP 3 (e11 i) (e11 j),kIs (.slice (some ⟨g1,0,none⟩) 11 11),kIs (.int .i64 (j : Int)),kIs (.pointer (some ⟨g1,j,none⟩)),kIs (.int .i64 (e11 j)),kZ 3 (e11 j),kIs (.slice (some ⟨g1,0,none⟩) 11 11),kIs (.int .i64 (i : Int)),kIs (.int .i64 (j : Int)),kIs (.int .i64 ((i + j : Nat) : Int)),kIs (.slice (some ⟨g1,0,none⟩) 11 11),kIs (.int .i64 (11)),kIs (.int .i64 (((i + j) % 11 : Nat) : Int)),kIs (.pointer (some ⟨g1,(i + j) % 11,none⟩)),kIs (.int .i64 (e11 ((i + j) % 11))),kZ 3 (e11 ((i + j) % 11)),kP 3 (e11 j) (e11 ((i + j) % 11)),lq,lr,lr,kIs (.agg #[.bool false,.slice none 0 0,.bool false,.slice none 0 0]),kP 3 (e11 i) (e11 j),lq,lr,lr,lr,kIs (.slice (some ⟨g1,0,none⟩) 11 11),kIs (.int .i64 (i : Int)),kIs (.pointer (some ⟨g1,i,none⟩)),kIs (.int .i64 (e11 i)),kZ 3 (e11 i),kIs (.string (ztext (e11 i))),kIs (.string (ztext (e11 i) ++ ⟨#[47]⟩)),kIs (.slice (some ⟨g1,0,none⟩) 11 11),kIs (.int .i64 (j : Int)),kIs (.pointer (some ⟨g1,j,none⟩)),kIs (.int .i64 (e11 j)),kZ 3 (e11 j),kIs (.string (ztext (e11 j))),kIs (.string (ztext (e11 i) ++ ⟨#[47]⟩ ++ ztext (e11 j))),lq,lr,lr] [[],[],[],[1,2],[3],[4],[],[],[],[7,8],[],[10],[9,11],[6,12],[13],[14],[5,15],[0,16],[17],[18],[],[],[20,21],[22],[19,23],[24],[],[],[26,27],[28],[29],[30],[31],[],[],[33,34],[35],[36],[37],[32,38],[39],[40],[25,41]] [31,32,33,34,35,36,37,38,39,40,41,42,43,44,45,46,47,48,49,50,51,52,53,54,55,56,57,58,59,60,61,62,63,64,65,66,67,68,69,70,71,72,73] [(19,false),(25,false)] [] ?_ ?_
     ·
       refine aa rfl rfl (aw p4_32 p4'_32 e4_32 rfl) ?_; refine p01 e1_32 ?_; refine p01 e3_32 ?_; refine p20 (hr:=fun _=>ex_idx (by kernel_rfl) (by kernel_rfl) (run_idxW hj)) ?_; refine aa rfl rfl (iw E_32 hj rfl rfl) ?_; refine aa rfl rfl (ac rfl rfl fun hC h1=>ix h1) ?_; refine p01 e1_32 ?_; refine p01 e2_32 ?_; refine p01 e3_32 ?_; refine p20 (hr:=fun w=>ex_bin (by kernel_rfl) (by kernel_rfl) rfl (add_run i j (by omega) w)) ?_; refine p01 e1_32 ?_; refine p10 ?_; refine p20 (hr:=fun w=>ex_bin (by kernel_rfl) (by kernel_rfl) rfl (rem11_run (i + j) (by omega) w)) ?_; refine p20 (hr:=fun _=>ex_idx (by kernel_rfl) (by kernel_rfl) (run_idxW (Nat.mod_lt _ (by decide)))) ?_; refine aa rfl rfl (iw E_32 (Nat.mod_lt _ (by decide)) rfl rfl) ?_; refine aa rfl rfl (ac rfl rfl fun hC h1=>ix h1) ?_; refine aa rfl rfl (cw (k:=3) rfl rfl rfl) ?_; refine aa rfl rfl (ai rfl rfl rfl fun hC h1 h2=>tellq_told HL (bb_32.trans hC.below) (pr_sv h1) (pr_sv h2)) ?_; refine p10 ?_; refine p10 ?_; refine p00 ?_; refine aa rfl rfl (aw p4_32 p4'_32 e4_32 rfl) ?_; refine aa rfl rfl (ai rfl rfl rfl fun hC h1 h2=>tellq_told HL (bb_32.trans hC.below) (is_sv h1) (pr_sv h2)) ?_; refine p10 ?_; refine p20 ?_; refine p10 ?_; refine p01 e1_32 ?_; refine p01 e2_32 ?_; refine p20 (hr:=fun _=>ex_idx (by kernel_rfl) (by kernel_rfl) (run_idxW hi)) ?_; refine aa rfl rfl (iw E_32 hi rfl rfl) ?_; refine aa rfl rfl (ac rfl rfl fun hC h1=>ix h1) ?_; refine aa rfl rfl (ac rfl rfl fun hC h1=>ti (z_text (rz h1) (by decide) (HT.out.1.below (bb_32.trans hC.below) HT.out.2) (Nat.le_trans HT.out.2 (bb_32.trans hC.below).size))) ?_; refine p10 (hr:=fun _=>gj (by kernel_rfl) (by kernel_rfl) (by have h1:=zt_size i; have h3 : (⟨#[47]⟩ : ByteArray).size = 1:=rfl; omega)) ?_; refine p01 e1_32 ?_; refine p01 e3_32 ?_; refine p20 (hr:=fun _=>ex_idx (by kernel_rfl) (by kernel_rfl) (run_idxW hj)) ?_; refine aa rfl rfl (iw E_32 hj rfl rfl) ?_; refine aa rfl rfl (ac rfl rfl fun hC h1=>ix h1) ?_; refine aa rfl rfl (ac rfl rfl fun hC h1=>ti (z_text (rz h1) (by decide) (HT.out.1.below (bb_32.trans hC.below) HT.out.2) (Nat.le_trans HT.out.2 (bb_32.trans hC.below).size))) ?_; refine p20 (hr:=fun _=>gj (by kernel_rfl) (by kernel_rfl) (by rw [ByteArray.size_append]; have h1:=zt_size i; have h2:=zt_size j; have h3 : (⟨#[47]⟩ : ByteArray).size = 1:=rfl; omega)) ?_; refine aa rfl rfl (ac rfl rfl fun hC h1=>txt_told HX (bb_32.trans hC.below) h1) ?_; refine p10 ?_; refine p20 ?_; exact ae rfl
     intro W_33 x a_33 hC hall ha hN_33 hD_33 bb_33; have e1_33:=ab ha e1_32; have e2_33:=ab ha e2_32; have e3_33:=ab ha e3_32; have E_33:=hC.atE E_32; have e73_33:=ln ha hall 73 42; refine wp_cond_false e73_33 ?_; refine wp_skip ?_; refine jy ?_; refine then_n ?_; refine lg (n:=(j : Int)) (m:=((j + 1 : Nat) : Int)) e3_33 (add_run j 1 (by omega)) fun x hx=>?_
     obtain ⟨a_34,ha⟩ : ∃ a,a = putE x a_33 [(0,some 18),(1,some 19),(2,some 3)]:=⟨_,rfl⟩
     rw [← ha]; have hN_34:=size_behind ha hN_33; have hD_34:=defers_behind ha hD_33; have bb_34:=bb_33; have e1_34:=ab ha e1_33; have e2_34:=ab ha e2_33; have E_34:=E_33; have e3_34:=(ak (t:=3) (i:=2) ha).trans (hx); refine then_n ⟨⟨hN_34,hD_34,e1_34,e2_34,bb_34,E_34,j + 1,by omega,e3_34⟩,?_⟩; rw [show intOf (a_34.eval (.tmp 3)) = ((j + 1 : Nat) : Int) by rw [e3_34]; rfl]; omega
   ·
     have hc : decide ((j : Int) < ((11 : Nat) : Int)) = false:=decide_eq_false (by omega); rw [hc] at e17_31; clear hc; refine wp_cond_false e17_31 ?_; refine wp_exit ?_; refine iy ?_; refine iy ?_; refine ig ?_; refine jy ?_; refine then_n ?_; refine lg (n:=(i : Int)) (m:=((i + 1 : Nat) : Int)) e2_31 (add_run i 1 (by omega)) fun x hx=>?_
     obtain ⟨a_32,ha⟩ : ∃ a,a = putE x a_31 [(0,some 12),(1,some 13),(2,some 2)]:=⟨_,rfl⟩
     rw [← ha]; have hN_32:=size_behind ha hN_31; have hD_32:=defers_behind ha hD_31; have bb_32:=bb_31; have e1_32:=ab ha e1_31; have E_32:=E_31; have e2_32:=(ak (t:=2) (i:=2) ha).trans (hx); refine then_n ⟨⟨hN_32,hD_32,e1_32,bb_32,E_32,i + 1,by omega,e2_32⟩,?_⟩; rw [show intOf (a_32.eval (.tmp 2)) = ((i + 1 : Nat) : Int) by rw [e2_32]; rfl]; omega
 ·
   have hc : decide ((i : Int) < ((11 : Nat) : Int)) = false:=decide_eq_false (by omega); rw [hc] at e11_11; clear hc; refine wp_cond_false e11_11 ?_; refine wp_exit ?_; refine iy ?_; refine iy ?_; refine ig ?_; refine then_n ?_; refine HK2.out _ _ ?_; clear HK2
   repeat first | apply lw | apply lx
   refine lm bb_11 [lq,lq,lq,lq,lq,lq,lq,lq,lq,lq,lq,lq,lq,lq,lq,lq,lq] [[],[0],[],[1,2],[3],[],[4,5],[6],[],[7,8],[9],[],[10,11],[12],[],[13,14],[15]] [74,75,76,77,78,79,80,81,82,83,84,85,86,87,88,89,0] [(1,true),(4,true),(7,true),(10,true),(13,true)] [] ?_ ?_
   ·
     refine aa rfl rfl (aq [Value.string { data:=#[] }] rfl rfl fun hC=>gr HX (bb_11.trans hC.below)) ?_; refine p10 ?_; refine aa rfl rfl (aq [Value.string { data:=#[47] }] rfl rfl fun hC=>gr HX (bb_11.trans hC.below)) ?_; refine p20 ?_; refine p10 ?_; refine aa rfl rfl (aq [Value.string { data:=#[49,47] }] rfl rfl fun hC=>gr HX (bb_11.trans hC.below)) ?_; refine p20 ?_; refine p10 ?_; refine aa rfl rfl (aq [Value.string { data:=#[47,50] }] rfl rfl fun hC=>gr HX (bb_11.trans hC.below)) ?_; refine p20 ?_; refine p10 ?_; refine aa rfl rfl (aq [Value.string { data:=#[49,47,50,47,51] }] rfl rfl fun hC=>gr HX (bb_11.trans hC.below)) ?_; refine p20 ?_; refine p10 ?_; refine aa rfl rfl (aq [Value.string { data:=#[45,48,47,49] }] rfl rfl fun hC=>gr HX (bb_11.trans hC.below)) ?_; refine p20 ?_; refine p10 ?_; exact ae rfl
   intro W_12 x a_12 hC hall ha hN_12 hD_12 bb_12; have e0_12:=ln ha hall 0 16
   repeat first | apply lw | apply lx
   refine wp_ret ?_
   repeat (refine then_r ?_)
   exact bc (t:=0) rfl hD_12 e0_12 ⟨rfl,bb_12⟩
theorem lawEndQ {w : World} (HT : Hid (Tab w ∧ 2 ≤ w.heap.size)) (hm : MaxL w) : Calls Tryz.prog 5 #[] w fun e w'=>e = .returned (.bool true) ∧ Below w.heap.size w w':=by
 have ht : ∀ W,Below w.heap.size w W → Hid (Tab W ∧ 2 ≤ W.heap.size):=fun W hb=>Lib.hid ⟨HT.out.1.below hb HT.out.2,Nat.le_trans HT.out.2 hb.size⟩
 exact endsq_walk w HT (Lib.hid (awake3_any HT hm)) (Lib.hid fun W v1 v2 hb h1 h2=>tells_sv h1 h2 (ht W hb) (hm.below hb)) (Lib.hid fun W s hb=>lawTexts_any s (ht W hb) (hm.below hb))
end Go.Proofs.YtnbhihhjgpddcaaGreatDoor
namespace Go.Proofs.YtnbhihhjgpddcaaGreatDoor
open Go.ChangeShapes Go.WideShapes Go.ChangeAt Go.WideMaps Go.WideElems Go.RowKit
open Go.ChangeMaps (setBlock shut_map_nil open_string shut_string keptBut_setBlock frozen?_setBlock heap_setBlock_same)
theorem ratioEnds_lifted (os : Os) (started : os.Started) (H : Type) (enc : TypeId × Value → H) :
   ReturnsInHanded {} Tryz.checked os 5 .any (fun w args => (Rows.ratioEndsSpec.pre enc Tryz.prog Tryz.f5 [] false w args ∧ laidMetH Tryz.prog laid3 w) ∧ sizedMet enc Tryz.prog Tryz.f5 (OpenSpec.ofChange Rows.ratioEndsSpec) false w args)
     (Rows.ratioEndsSpec.post enc Tryz.prog Tryz.f5 false true false false):=by
 refine handed_and_shape (X := fun w => laidMetH Tryz.prog laid3 w) (fun _ _ hh h => h.of_heap hh) started (by kernel_rfl) Tryz.func5
   (ChangeSpec.witness_shaped (enc:=enc) (C:=Tryz.checked) (os:=os) (X:=fun w _=>laidMetH Tryz.prog laid3 w) false (World.doorLaid Tryz.prog 400 os) #[] 8 rfl (World.shaped_of_RefB (by kernel_rfl) (by kernel_rfl)) (by kernel_rfl) (by kernel_rfl) (by kernel_rfl) (door_met os _)) ?_
 intro W base args ds gs before hval0 hW hsh hL _
 have hval : ∀ (j : Nat) t v,Tryz.f5.params[j]? = some t → args[j]? = some v → Value.okWide Tryz.prog W .any base t v:=hval0
 have hW':=hW
 obtain ⟨p,q,hA0,hV,rfl,hfz,hnd⟩:=hW
 have hA : DataW.TrodAll enc Tryz.prog W 0 (fun _=>true) true Tryz.f5.params.toList args.toList ds p:=hA0
 rw [ Tryz.params5 ] at hA
 obtain ⟨rfl,rfl,rfl⟩:=trodAll_none hA
 obtain ⟨rfl,rfl⟩:=trodVars_none hV
 obtain ⟨ht,hw3⟩:=tab_of_laid hL
 have hm:=maxL_of hsh
 have HT:=Lib.hid (show Tab W ∧ 2 ≤ W.heap.size from ⟨ht,hw3⟩)
 clear hA0 hval0 hval hsh
 simp only [List.append_nil] at hW'
 have e1 : Rows.ratioEndsSpec.fn H ([] ++ []) = { results:=[.lit (.bool true)],args:=[] }:=by simp [Rows.ratioEndsSpec]
 refine (lawEndQ HT hm).mono fun e W' ⟨he,hb⟩=>?_
 subst he
 refine ⟨_,rfl,_,_,_,[],[],[],hW',?_,?_,?_,hb.frame _,fun h=>by cases h⟩
 · rw [e1]; exact trodAll_mk1 (shut_bool Tryz.underlying4 true)
 · rw [e1]; exact trodAll_mk0
 · rw [e1]; rfl
theorem ratioEnds_said : Rows.RatioEndsSaid :=
 OpenClaim.holds_of_wide 5 Tryz.f5 rfl rfl rfl rfl rfl rfl rfl ⟨rfl, rfl, rfl, rfl, rfl⟩ rfl rfl rfl rfl rfl (by kernel_rfl) Tryz.func5 (by kernel_rfl)
   (of_decide_eq_true (by kernel_rfl)) (by unfold Func.isWrapper; first | (rw [if_pos (by decide +kernel)]; kernel_rfl) | (rw [if_neg (by decide +kernel)]; exact ⟨rfl,rfl⟩))
   (fun os started H enc _=>ratioEnds_lifted os started H enc)
theorem ratioEnds_card : Rows.RatioEndsCardSaid :=
 Claim7.holds_tied_plain_at .later [] [.data, .data, .data] true (true, Rows.ratioEndsCard.stood.harness.2) false
   ratioEnds_said (fun _ h=>by cases h) (by kernel_rfl) (fun _ h=>by cases h) ratioEnds_row_tie rfl ⟨rfl,rfl⟩ (by kernel_rfl) rfl
   (fun f fn hf hfn=>by
     obtain rfl : f = 5:=Option.some.inj ((show Tryz.prog.funcNamed "whetstone/whetstonelaw03.RatioEnds" = some 5 by kernel_rfl).symm.trans hf) |>.symm; obtain rfl : fn = Tryz.f5:=(Option.some.inj (Tryz.func5.symm.trans hfn)).symm
     exact ⟨by kernel_rfl,fun j t ht=>by
       rw [ Tryz.params5 ] at ht; have hm : t ∈ ([] : List TypeId):=by simpa using Array.mem_of_getElem? ht
       cases hm⟩)
   (by kernel_rfl)
theorem ratioEnds_proved : Rows.RatioEndsCardSaid:=ratioEnds_card
end Go.Proofs.YtnbhihhjgpddcaaGreatDoor
namespace Go.Proofs.YtnbhihhjgpddcaaGreatDoor
theorem ratio_rows : Rows.RatioEndsCardSaid ∧ Rows.RatioTellsCardSaid:=⟨ratioEnds_proved,ratioTells_proved⟩
end Go.Proofs.YtnbhihhjgpddcaaGreatDoor

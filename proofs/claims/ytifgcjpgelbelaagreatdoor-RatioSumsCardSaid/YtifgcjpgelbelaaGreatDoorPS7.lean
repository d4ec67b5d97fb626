/- KeptRatios over what LentRatios gave and the list that it was given: Steps over lists of numbers at any address: Contracts of the answers of stage 2 over any list of numbers as they come, at any address: Contracts of the answers of stages 2 and 3 at greater sizes: The answers of stage 3: ratio.fold over a list of any length, of ratios lent, with plus and with times; ratio.Add, ratio.Mul: OverLimbs, OverInt, OverRatio over rows of the call's own: -/
import Derived.Test.YtifgcjpgelbelaaGreatDoorPS6
import Derived.Test.YtifgcjpgelbelaaGreatDoorPS5
set_option maxRecDepth 100000
set_option maxHeartbeats 16000000
set_option linter.unusedVariables false
set_option linter.unusedSimpArgs false
set_option linter.unusedVariables false
set_option linter.unusedSimpArgs false
namespace Go.Proofs.YtifgcjpgelbelaaGreatDoor
open Go.RowKit
theorem lss_run {k n : Nat} (h : k < n) : ∀ w,(binOp .lss 3 (.int .i64 (k : Int)) (.int .i64 (n : Int))).run Tryz.prog w = .ok (.bool true) w:=fun w=>by
 have h' : (k : Int) < (n : Int):=by omega
 go_simp
theorem geq_run {k n : Nat} (h : k < n) : ∀ w,(binOp .geq 3 (.int .i64 (k : Int)) (.int .i64 (n : Int))).run Tryz.prog w = .ok (.bool false) w:=fun w=>by
 have h' : ¬ (n : Int) ≤ (k : Int):=by omega
 go_simp
theorem lss_no {k n : Nat} (h : n ≤ k) : ∀ w,(binOp .lss 3 (.int .i64 (k : Int)) (.int .i64 (n : Int))).run Tryz.prog w = .ok (.bool false) w:=fun w=>by
 have h' : ¬ (k : Int) < (n : Int):=by omega
 go_simp
theorem geq_yes {k n : Nat} (h : n ≤ k) : ∀ w,(binOp .geq 3 (.int .i64 (k : Int)) (.int .i64 (n : Int))).run Tryz.prog w = .ok (.bool true) w:=fun w=>by
 have h' : (n : Int) ≤ (k : Int):=by omega
 go_simp
theorem sub_run {k n d : Nat} (h : k = n + d) (hk : k < 9223372036854775808) : ∀ w,(binOp .sub 3 (.int .i64 (k : Int)) (.int .i64 (n : Int))).run Tryz.prog w = .ok (.int .i64 (d : Int)) w:=fun w=>by
 have h' : (k : Int) - (n : Int) = (d : Int):=by omega
 have hd : d < 9223372036854775808:=by omega
 clear h
 go_simp
 rw [IntKind.wrap_i64] <;> omega
theorem told_mark {w : World} {S0 d : Nat} {x : Nat → Value} {v : Value} (h : v = .int .i64 (d : Int)) (hd : d ≤ 12) : Calls Tryz.prog 88 #[.int .i64 1,v] w (Told (kQ false [8000024 + d] false []) S0 x w):=by
 subst h
 exact (markRatio_any d hd).mono fun _ _ ⟨u,e,⟨g,e1,h1⟩,hb⟩=>⟨u,e,hb,_,_,_,_,e1,Own.row32 h1,Row.nil _ _⟩
theorem told_same {W0 w : World} {B S0 d : Nat} {F : FuncId} {x : Nat → Value} {v1 v2 u1 : Value} (H : Hid (∀ W v2,Below B W0 W → Qv W v2 false [8000024 + d] false [] → Calls Tryz.prog F #[u1,v2] W (SaysB W true))) (hb : Below B W0 w) (h1 : (kIs u1).sem S0 x v1 w) (h2 : (kQ false [8000024 + d] false []).sem S0 x v2 w) : Calls Tryz.prog F #[v1,v2] w (Told (kIs (.bool true)) S0 x w):=by
 obtain rfl : v1 = u1:=h1
 exact (H.out w v2 hb h2).mono fun _ _ ⟨e,hb⟩=>⟨_,e,hb,rfl⟩
theorem told_kept {W0 w : World} {B S0 : Nat} {F : FuncId} {x : Nat → Value} {v1 v2 u1 u2 : Value} (H : Hid (∀ W,Below B W0 W → Calls Tryz.prog F #[u1,u2] W (SaysB W true))) (hb : Below B W0 w) (h1 : (kIs u1).sem S0 x v1 w) (h2 : (kIs u2).sem S0 x v2 w) : Calls Tryz.prog F #[v1,v2] w (Told (kIs (.bool true)) S0 x w):=by
 obtain rfl : v1 = u1:=h1
 obtain rfl : v2 = u2:=h2
 exact (H.out w hb).mono fun _ _ ⟨e,hb⟩=>⟨_,e,hb,rfl⟩
theorem Own4.cell {W : World} {B n g cap : Nat} {E : List Value} (h : Own4 W B (.slice (some ⟨g,0,none⟩) n cap) n E) {i : Nat} {u : Value} (hu : E[i]? = some u) : W.cell? ⟨g,i,none⟩ = some u:=by
 have hh : W.ownsRow B 26 4 (.slice (some ⟨g,0,none⟩) n cap) n E:=h
 have:=hh.cells (g:=g) rfl i u hu
 rwa [kx] at this
theorem keptRatios_any {w : World} {B g cap c n : Nat} {A : Option Addr} {L : List ((Bool × List Nat) × Bool × List Nat)} {E : List Value} (hO : Own4 w B (.slice (some ⟨g,0,none⟩) (n + 12) cap) (n + 12) E) (hA : LentAll w B L E) (hM : MarkAll w B n 12 E) (hR : RawQs w A L) (hnn : n = L.length) (hn : n ≤ 6) (hl : ∀ q ∈ L,q.1.2.length ≤ 8 ∧ q.2.2.length ≤ 8) :
   Calls Tryz.prog 39 #[.slice (some ⟨g,0,none⟩) n cap,.slice A n c] w (SaysB w true):=by
 have hcap : n + 12 ≤ cap:=by
   obtain ⟨g',cap',e,hle⟩:=hO.slice (by omega); injection e with _ _ e3; omega
 have HA:=Lib.hid hA
 have HM:=Lib.hid hM
 have HR:=Lib.hid hR
 have HO:=Lib.hid hO
 have HL:=Lib.hid hl
 have HN:=Lib.hid hnn
 clear hA hM hR hO hl hnn
 go_enter Tryz.func39,Tryz.ntmps39
 go_wp2_with fail
 go_loopw [6] (fun iv wr=>∃ k : Nat,k ≤ n + 12 ∧ iv = .int .i64 (k : Int) ∧ Hid (Below w.heap.size w wr)) (fun iv _=>n + 12 - (intOf iv).toNat)
 case atStart=>exact ⟨0,Nat.zero_le _,rfl,Below.refl _ _⟩
 case round =>
   obtain ⟨k,hk,rfl,HW⟩:=hrel
   by_cases hlt : k < n + 12
   · have hlt' : (k : Int) < (n : Int) + 12:=by omega
     by_cases hkn : k < n
     · have hkL : k < L.length:=by rw [← HN.out]; exact hkn
       obtain ⟨⟨⟨b1,xs⟩,b2,ys⟩,hpq⟩ : ∃ m,m = L[k]:=⟨_,rfl⟩
       have hat : L[k]? = some ((b1,xs),b2,ys):=by rw [List.getElem?_eq_getElem hkL,hpq]
       obtain ⟨ad,rfl,h1,h2⟩:=(HR.out.below HW.out) k _ hat; obtain ⟨A1,c1,m1,m2,r1,_⟩:=h1; obtain ⟨A2,c2,m3,m4,r2,_⟩:=h2; have m1 : wr.cell? (ad.add (k * 4)) = some (.bool b1):=m1; have m2 : wr.cell? { block:=(ad.add (k * 4)).block,off:=(ad.add (k * 4)).off + 1 } = some (.slice A1 xs.length c1):=m2; have m3 : wr.cell? { block:=(ad.add (k * 4)).block,off:=(ad.add (k * 4)).off + 2 } = some (.bool b2):=m3; have m4 : wr.cell? { block:=(ad.add (k * 4)).block,off:=(ad.add (k * 4)).off + 3 } = some (.slice A2 ys.length c2):=m4
       have hqv : Qv wr (.agg #[.bool b1,.slice A1 xs.length c1,.bool b2,.slice A2 ys.length c2]) b1 xs b2 ys:=⟨A1,c1,A2,c2,rfl,r1,r2⟩
       have hsz:=HL.out _ (List.mem_of_getElem? hat); obtain ⟨v,⟨va,vb,vc,vd,rfl,e1,e2,e3,e4⟩,hlo⟩:=HA.out k _ hat; have hlv:=(hlo.below HW.out).lv; have hO2:=HO.out.below HW.out; have n1:=hO2.cell e1; have n2:=hO2.cell e2; have n3:=hO2.cell e3; have n4:=hO2.cell e4; obtain ⟨g1,d1,g2,d2,ee,q⟩:=hlv; obtain ⟨rfl,rfl,rfl,rfl⟩ : va = .bool b1 ∧ vb = .slice (some ⟨g1,0,none⟩) xs.length d1 ∧ vc = .bool b2 ∧ vd = .slice (some ⟨g2,0,none⟩) ys.length d2:=by simpa using ee
       have hlv : Lv wr (.agg #[.bool b1,.slice (some ⟨g1,0,none⟩) xs.length d1,.bool b2,.slice (some ⟨g2,0,none⟩) ys.length d2]) b1 xs b2 ys:=⟨g1,d1,g2,d2,rfl,q⟩
       have hkr:=fun (W : World) (hW : Below wr.heap.size wr W)=>keptRatio_l (hlv.below hW) (hqv.below hW) hsz.1 hsz.2; have HK:=Lib.hid hkr; have hg1 : decide (k < n) = true:=decide_eq_true hkn; have hg2 : decide (n ≤ k) = false:=decide_eq_false (by omega); clear hat hpq hkL hqv hsz hkr r1 r2 hlo hO2 e1 e2 e3 e4 q ee hlv
       go_wp2
       have CG : CellsQ wr ((⟨g,0,none⟩ : Addr).add (k * 4)) (.bool b1) (.slice (some ⟨g1,0,none⟩) xs.length d1) (.bool b2) (.slice (some ⟨g2,0,none⟩) ys.length d2):=by
         rw [kx]; exact ⟨n1,n2,n3,n4⟩
       have CA : CellsQ wr (ad.add (k * 4)) (.bool b1) (.slice A1 xs.length c1) (.bool b2) (.slice A2 ys.length c2):=⟨m1,m2,m3,m4⟩
       refine jp (G:=fun a=>Code.wp _ _ _ a _) ?_; intro a0 ha; have hN : a0.tmps.size = 58:=by subst ha; kernel_rfl
       have e1 : a0.eval (.tmp 1) = .slice (some ad) n c := ln ha; have e5 : a0.eval (.tmp 5) = .slice (some ⟨g, 0, none⟩) (n + 12) cap := ln ha; have e6 : a0.eval (.tmp 6) = .int .i64 (k : Int) := ln ha; refine ff hN wr.heap.size
         [kIs (.int .i64 (k : Int)),kIs (.slice (some ad) n c),kIs (.int .i64 (n : Int)),kIs (.bool true),kIs (.bool true),kIs (.slice (some ⟨g,0,none⟩) (n + 12) cap),kIs (.int .i64 (k : Int)),kIs (.pointer (some ((⟨g,0,none⟩ : Addr).add (k * 4)))),kIs (.agg #[.bool b1,.slice (some ⟨g1,0,none⟩) xs.length d1,.bool b2,.slice (some ⟨g2,0,none⟩) ys.length d2]),kIs (.slice (some ad) n c),kIs (.int .i64 (k : Int)),kIs (.pointer (some (ad.add (k * 4)))),kIs (.agg #[.bool b1,.slice A1 xs.length c1,.bool b2,.slice A2 ys.length c2]),kIs (.bool true),kIs (.bool false),kIs (.bool false),kIs (.bool false),kIs (.int .i64 (k : Int)),kIs (.slice (some ad) n c),kIs (.int .i64 (n : Int)),kIs (.bool false),kIs (.bool false),kIs (undef),kIs (undef),kIs (undef),kIs (undef),kIs (undef),kIs (undef),kIs (undef),kIs (undef),kIs (undef),kIs (undef),kIs (undef),kIs (.bool false),kIs (.bool false)]
         [ [],[],[(1,some 24)],[(0,some 23),(2,some 25)],[(3,some 26)],[],[],[(5,some 28),(6,some 29)],[(7,some 30)],[],[],[(9,some 32),(10,some 33)],[(11,some 34)],[(8,some 31),(12,some 35)],[(13,some 36)],[(4,some 27),(14,some 37)],[(15,some 38)],[],[],[(18,some 41)],[(17,some 40),(19,some 42)],[(20,some 43)],[],[],[(22,some 45),(23,some 46)],[(24,some 47)],[],[],[(27,some 50)],[(26,some 49),(28,some 51)],[(29,some 52)],[(25,some 48),(30,some 53)],[(31,some 54)],[(21,some 44),(32,some 55)],[(16,some 39),(33,some 56)] ]
         [(0,some 23),(1,some 24),(2,some 25),(3,some 26),(4,some 27),(5,some 28),(6,some 29),(7,some 30),(8,some 31),(9,some 32),(10,some 33),(11,some 34),(12,some 35),(13,some 36),(14,some 37),(15,some 38),(16,some 39),(17,some 40),(18,some 41),(19,some 42),(20,some 43),(21,some 44),(22,some 45),(23,some 46),(24,some 47),(25,some 48),(26,some 49),(27,some 50),(28,some 51),(29,some 52),(30,some 53),(31,some 54),(32,some 55),(33,some 56),(34,some 57)] [(4,true),(16,false),(21,false)] [22,23,24,25,26,27,28,29,30,31,32] (by kernel_rfl) (by kernel_rfl) (by kernel_rfl) (by kernel_rfl) (by kernel_rfl) (by kernel_rfl) (by kernel_rfl) (Nat.le_refl _) ?_ ?_
       ·
           refine p01 e6 ?_; refine p01 e1 ?_; refine p10 ?_; refine p20 (hr:=fun w=>ex_bin (by kernel_rfl) (by kernel_rfl) rfl (lss_run hkn w)) ?_; refine p10 ?_; refine p01 e5 ?_; refine p01 e6 ?_; refine aa rfl rfl (ky (by omega) hN rfl rfl rfl) ?_; refine aa rfl rfl (kz CG hN rfl rfl) ?_; refine p01 e1 ?_; refine p01 e6 ?_; refine aa rfl rfl (ky hkn hN rfl rfl rfl) ?_; refine aa rfl rfl (kz CA hN rfl rfl) ?_; refine aa rfl rfl (ap rfl rfl rfl fun hC h1 h2=>told_kept HK hC.below h1 h2) ?_; refine p10 ?_; refine p20 ?_; refine p10 ?_; refine p01 e6 ?_; refine p01 e1 ?_; refine p10 ?_; refine p20 (hr:=fun w=>ex_bin (by kernel_rfl) (by kernel_rfl) rfl (geq_run hkn w)) ?_; refine p10 ?_; refine ah (by kernel_rfl) ?_; refine ah (by kernel_rfl) ?_; refine ah (by kernel_rfl) ?_; refine ah (by kernel_rfl) ?_; refine ah (by kernel_rfl) ?_; refine ah (by kernel_rfl) ?_; refine ah (by kernel_rfl) ?_; refine ah (by kernel_rfl) ?_; refine ah (by kernel_rfl) ?_; refine ah (by kernel_rfl) ?_; refine ah (by kernel_rfl) ?_; refine p20 ?_; refine p20 ?_; exact ag rfl
       intro W1 x hC hall; have hf : putE x a0 [(0,some 23),(1,some 24),(2,some 25),(3,some 26),(4,some 27),(5,some 28),(6,some 29),(7,some 30),(8,some 31),(9,some 32),(10,some 33),(11,some 34),(12,some 35),(13,some 36),(14,some 37),(15,some 38),(16,some 39),(17,some 40),(18,some 41),(19,some 42),(20,some 43),(21,some 44),(22,some 45),(23,some 46),(24,some 47),(25,some 48),(26,some 49),(27,some 50),(28,some 51),(29,some 52),(30,some 53),(31,some 54),(32,some 55),(33,some 56),(34,some 57)] = { tmps:=#[.slice (some ⟨g,0,none⟩) n cap,.slice (some ad) n c,undef,undef,u4,.slice (some ⟨g,0,none⟩) (n + 12) cap,.int .i64 (k : Int),.slice (some ⟨g,0,none⟩) n cap,.int .i64 (n : Int),.slice (some ad) n c,.int .i64 (n : Int),.bool false,.slice (some ⟨g,0,none⟩) n cap,.slice (some ad) n c,.int .i64 (n : Int),.int .i64 ((n : Int) + 12),.slice (some ⟨g,0,none⟩) (n + 12) cap,.int .i64 (k : Int),.slice (some ⟨g,0,none⟩) (n + 12) cap,.int .i64 ((n : Int) + 12),.bool true,u21,u22,x 0,x 1,x 2,x 3,x 4,x 5,x 6,x 7,x 8,x 9,x 10,x 11,x 12,x 13,x 14,x 15,x 16,x 17,x 18,x 19,x 20,x 21,x 22,x 23,x 24,x 25,x 26,x 27,x 28,x 29,x 30,x 31,x 32,x 33,x 34],defers:=[] }:=by subst ha; kernel_rfl
       rw [hf]; have e34 : x 34 = .bool false:=hall 34 (of_decide_eq_true (by kernel_rfl)); have hbW:=hC.below; clear hall hC hf ha hN e1 e5 e6 CG CA m1 m2 m3 m4 n1 n2 n3 n4; rw [e34]; have HW2:=Lib.hid (HW.out.trans (hbW.mono HW.out.size))
       go_wp2
       go_roundw
       case rel=>exact ⟨k + 1,by omega,by go_num,HW2.out⟩
       case measure=>simp [intOf]; omega
     · obtain ⟨d,hd⟩ : ∃ d,k = n + d:=⟨k - n,by omega⟩
       have hnk : n ≤ k:=by omega
       have hk63 : k < 9223372036854775808:=by omega
       obtain ⟨v,h4,hmq⟩:=HM.out d (by omega); rw [← hd] at h4; obtain ⟨va,vb,vc,vd,rfl,t1,t2,t3,t4⟩:=h4; obtain ⟨gm,ee,hro⟩:=hmq.below HW.out; obtain ⟨rfl,rfl,rfl,rfl⟩ : va = .bool false ∧ vb = .slice (some ⟨gm,0,none⟩) 1 1 ∧ vc = .bool false ∧ vd = .slice none 0 0:=by simpa using ee
       have hO2:=HO.out.below HW.out
       have hqm : Qv wr (.agg #[.bool false,.slice (some ⟨gm,0,none⟩) 1 1,.bool false,.slice none 0 0]) false [8000024 + d] false []:=⟨_,_,_,_,rfl,Own.row32 hro,Row.nil _ _⟩
       have hsr:=fun (W : World) (v2 : Value) (hW : Below wr.heap.size wr W) (h2 : Qv W v2 false [8000024 + d] false [])=>sameRatio_q (hqm.below hW) h2 (by simp) (by simp); have HK:=Lib.hid hsr
       have CG : CellsQ wr ((⟨g,0,none⟩ : Addr).add (k * 4)) (.bool false) (.slice (some ⟨gm,0,none⟩) 1 1) (.bool false) (.slice none 0 0):=by
         rw [kx]; exact ⟨hO2.cell t1,hO2.cell t2,hO2.cell t3,hO2.cell t4⟩
       have HD:=Lib.hid (And.intro hd hnk); clear hsr hqm hO2 hro ee t1 t2 t3 t4 hmq hd hnk
       go_wp2
       obtain ⟨hd,hnk⟩:=HD.out; refine jp (G:=fun a=>Code.wp _ _ _ a _) ?_; intro a0 ha; have hN : a0.tmps.size = 58:=by subst ha; kernel_rfl
       have e1 : a0.eval (.tmp 1) = .slice A n c := ln ha; have e5 : a0.eval (.tmp 5) = .slice (some ⟨g, 0, none⟩) (n + 12) cap := ln ha; have e6 : a0.eval (.tmp 6) = .int .i64 (k : Int) := ln ha; refine ff hN wr.heap.size
         [kIs (.int .i64 (k : Int)),kIs (.slice A n c),kIs (.int .i64 (n : Int)),kIs (.bool false),kIs (.bool false),kIs (undef),kIs (undef),kIs (undef),kIs (undef),kIs (undef),kIs (undef),kIs (undef),kIs (undef),kIs (undef),kIs (undef),kIs (.bool false),kIs (.bool false),kIs (.int .i64 (k : Int)),kIs (.slice A n c),kIs (.int .i64 (n : Int)),kIs (.bool true),kIs (.bool true),kIs (.slice (some ⟨g,0,none⟩) (n + 12) cap),kIs (.int .i64 (k : Int)),kIs (.pointer (some ((⟨g,0,none⟩ : Addr).add (k * 4)))),kIs (.agg #[.bool false,.slice (some ⟨gm,0,none⟩) 1 1,.bool false,.slice none 0 0]),kIs (.int .i64 (k : Int)),kIs (.slice A n c),kIs (.int .i64 (n : Int)),kIs (.int .i64 (d : Int)),kQ false [8000024 + d] false [],kIs (.bool true),kIs (.bool false),kIs (.bool false),kIs (.bool false)]
         [ [],[],[(1,some 24)],[(0,some 23),(2,some 25)],[(3,some 26)],[],[],[(5,some 28),(6,some 29)],[(7,some 30)],[],[],[(9,some 32),(10,some 33)],[(11,some 34)],[(8,some 31),(12,some 35)],[(13,some 36)],[(4,some 27),(14,some 37)],[(15,some 38)],[],[],[(18,some 41)],[(17,some 40),(19,some 42)],[(20,some 43)],[],[],[(22,some 45),(23,some 46)],[(24,some 47)],[],[],[(27,some 50)],[(26,some 49),(28,some 51)],[(29,some 52)],[(25,some 48),(30,some 53)],[(31,some 54)],[(21,some 44),(32,some 55)],[(16,some 39),(33,some 56)] ]
         [(0,some 23),(1,some 24),(2,some 25),(3,some 26),(4,some 27),(5,some 28),(6,some 29),(7,some 30),(8,some 31),(9,some 32),(10,some 33),(11,some 34),(12,some 35),(13,some 36),(14,some 37),(15,some 38),(16,some 39),(17,some 40),(18,some 41),(19,some 42),(20,some 43),(21,some 44),(22,some 45),(23,some 46),(24,some 47),(25,some 48),(26,some 49),(27,some 50),(28,some 51),(29,some 52),(30,some 53),(31,some 54),(32,some 55),(33,some 56),(34,some 57)] [(4,false),(16,false),(21,true)] [5,6,7,8,9,10,11,12,13,14] (by kernel_rfl) (by kernel_rfl) (by kernel_rfl) (by kernel_rfl) (by kernel_rfl) (by kernel_rfl) (by kernel_rfl) (Nat.le_refl _) ?_ ?_
       ·
           refine p01 e6 ?_; refine p01 e1 ?_; refine p10 ?_; refine p20 (hr:=fun w=>ex_bin (by kernel_rfl) (by kernel_rfl) rfl (lss_no hnk w)) ?_; refine p10 ?_; refine ah (by kernel_rfl) ?_; refine ah (by kernel_rfl) ?_; refine ah (by kernel_rfl) ?_; refine ah (by kernel_rfl) ?_; refine ah (by kernel_rfl) ?_; refine ah (by kernel_rfl) ?_; refine ah (by kernel_rfl) ?_; refine ah (by kernel_rfl) ?_; refine ah (by kernel_rfl) ?_; refine ah (by kernel_rfl) ?_; refine p20 ?_; refine p10 ?_; refine p01 e6 ?_; refine p01 e1 ?_; refine p10 ?_; refine p20 (hr:=fun w=>ex_bin (by kernel_rfl) (by kernel_rfl) rfl (geq_yes hnk w)) ?_; refine p10 ?_; refine p01 e5 ?_; refine p01 e6 ?_; refine aa rfl rfl (ky (by omega) hN rfl rfl rfl) ?_; refine aa rfl rfl (kz CG hN rfl rfl) ?_; refine p01 e6 ?_; refine p01 e1 ?_; refine p10 ?_; refine p20 (hr:=fun w=>ex_bin (by kernel_rfl) (by kernel_rfl) rfl (sub_run hd hk63 w)) ?_; refine aa rfl rfl (jo [.val (.int .i64 1),.dep 29] hN (by kernel_rfl) (by kernel_rfl) (by kernel_rfl) rfl fun w x hC hdeps=>told_mark (show x 29 = .int .i64 (d : Int) from hdeps (29,some 52) (by simp)) (by omega)) ?_; refine aa rfl rfl (ap rfl rfl rfl fun hC h1 h2=>told_same HK hC.below h1 h2) ?_; refine p10 ?_; refine p20 ?_; refine p20 ?_; exact ag rfl
       intro W1 x hC hall; have hf : putE x a0 [(0,some 23),(1,some 24),(2,some 25),(3,some 26),(4,some 27),(5,some 28),(6,some 29),(7,some 30),(8,some 31),(9,some 32),(10,some 33),(11,some 34),(12,some 35),(13,some 36),(14,some 37),(15,some 38),(16,some 39),(17,some 40),(18,some 41),(19,some 42),(20,some 43),(21,some 44),(22,some 45),(23,some 46),(24,some 47),(25,some 48),(26,some 49),(27,some 50),(28,some 51),(29,some 52),(30,some 53),(31,some 54),(32,some 55),(33,some 56),(34,some 57)] = { tmps:=#[.slice (some ⟨g,0,none⟩) n cap,.slice A n c,undef,undef,u4,.slice (some ⟨g,0,none⟩) (n + 12) cap,.int .i64 (k : Int),.slice (some ⟨g,0,none⟩) n cap,.int .i64 (n : Int),.slice A n c,.int .i64 (n : Int),.bool false,.slice (some ⟨g,0,none⟩) n cap,.slice A n c,.int .i64 (n : Int),.int .i64 ((n : Int) + 12),.slice (some ⟨g,0,none⟩) (n + 12) cap,.int .i64 (k : Int),.slice (some ⟨g,0,none⟩) (n + 12) cap,.int .i64 ((n : Int) + 12),.bool true,u21,u22,x 0,x 1,x 2,x 3,x 4,x 5,x 6,x 7,x 8,x 9,x 10,x 11,x 12,x 13,x 14,x 15,x 16,x 17,x 18,x 19,x 20,x 21,x 22,x 23,x 24,x 25,x 26,x 27,x 28,x 29,x 30,x 31,x 32,x 33,x 34],defers:=[] }:=by subst ha; kernel_rfl
       rw [hf]; have e34 : x 34 = .bool false:=hall 34 (of_decide_eq_true (by kernel_rfl)); have hbW:=hC.below; clear hall hC hf ha hN e1 e5 e6 CG HK hd hnk; rw [e34]; have HW2:=Lib.hid (HW.out.trans (hbW.mono HW.out.size))
       go_wp2
       go_roundw
       case rel=>exact ⟨k + 1,by omega,by go_num,HW2.out⟩
       case measure=>simp [intOf]; omega
   · have hlt' : ¬ (k : Int) < (n : Int) + 12:=by omega
     go_wp2
     go_returns
     exact ⟨rfl,HW.out⟩
end Go.Proofs.YtifgcjpgelbelaaGreatDoor
set_option linter.unusedVariables false
set_option linter.unusedSimpArgs false
namespace Go.Proofs.YtifgcjpgelbelaaGreatDoor
open Go.RowKit
theorem run_idxN {w : World} {ad : Addr} {k n c : Nat} (h : k < n) : (Instr.indexAt 53 (.slice (some ad) n c) (.int .i64 (k : Int))).run Tryz.prog w = .ok (.pointer (some (ad.add (k * 2)))) w:=by
 have h' : (k : Int) < (n : Int):=by omega
 go_simp
theorem run_loadNA {w : World} {p : Addr} {u v : Value} (h0 : w.cell? p = some u) (h1 : w.cell? { block:=p.block,off:=p.off + 1 } = some v) : (Instr.loadAt 24 (.pointer (some p))).run Tryz.prog w = .ok (.agg #[u,v]) w:=by go_simp
def CellsZ (W : World) (p : Addr) (u v : Value) : Prop:=W.cell? p = some u ∧ W.cell? { block:=p.block,off:=p.off + 1 } = some v
theorem Reg.cellAt {B : Nat} {W0 w : World} {G : List Nat} (h : Reg B W0 G w) {p : Addr} {u : Value} (hg : p.block ∉ G) (hc : W0.cell? p = some u) : w.cell? p = some u :=
 (World.cell?_of_block (w:=W0) (h.old p.block (World.block_lt_of_cell? W0 p hc) hg)).trans hc
theorem Reg.cellsZ {B : Nat} {W0 w : World} {G : List Nat} (h : Reg B W0 G w) {p : Addr} {u v : Value} (hg : p.block ∉ G) (hc : CellsZ W0 p u v) : CellsZ w p u v :=
 ⟨h.cellAt hg hc.1,h.cellAt hg hc.2⟩
section
variable {W0 : World} {B S0 N i : Nat} {ks : List PK} {a0 : Act} {T : TypeId} {pos : String} {af : Array Edge} {gu : Option (Nat × Bool)} {C : World → Prop}
theorem st_idxN {d t1 j1 t2 j2 k n c : Nat} {ad : Addr} (hk : k < n)      (h1 : at_ ks j1 = kIs (.slice (some ad) n c)) (h2 : at_ ks j2 = kIs (.int .i64 (k : Int))) (hi : at_ ks i = kIs (.pointer (some (ad.add (k * 2))))) (hN : a0.tmps.size = N:=by assumption) (hd : decide (d < N) = true:=by kernel_rfl) (ht1 : decide (t1 < N) = true:=by kernel_rfl) (ht2 : decide (t2 < N) = true:=by kernel_rfl) (hne : decide (t1 = t2) = false:=by kernel_rfl) :
   PkStep Tryz.prog C S0 ks a0 i { dst:=some d,op:=.indexAddr 53 (.tmp t1) (.tmp t2),type:=T,pos:=pos,after:=af,guard:=gu } [(j1,some t1),(j2,some t2)]:=by
 intro w x hC
 refine aw _ fun hdeps K hK=>?_
 have g1:=hdeps (j1,some t1) (by simp)
 rw [h1] at g1
 have g2:=hdeps (j2,some t2) (by simp)
 rw [h2] at g2
 have n12:=of_decide_eq_false hne
 have e1 : (putE x a0 [(j1,some t1),(j2,some t2)]).eval (.tmp t1) = x j1:=putE_new _ _ (by rw [hN]; exact of_decide_eq_true ht1) (by simp [slotAt,Ne.symm n12])
 have e2 : (putE x a0 [(j1,some t1),(j2,some t2)]).eval (.tmp t2) = x j2:=putE_new _ _ (by rw [hN]; exact of_decide_eq_true ht2) (by simp [slotAt])
 refine bj (v:=.pointer (some (ad.add (k * 2)))) (w':=w) rfl (by rw [ax,hN]) hd (ex_idx (e1.trans g1) (e2.trans g2) (run_idxN hk)) (hK _ _ ?_ ?_)
 · rw [hi]; exact Below.refl _ _
 · rw [hi]; rfl
end
end Go.Proofs.YtifgcjpgelbelaaGreatDoor
set_option linter.unusedVariables false
set_option linter.unusedSimpArgs false
namespace Go.Proofs.YtifgcjpgelbelaaGreatDoor
open Go.RowKit
theorem Zc.stored {W w' : World} {g : Nat} {v : Value} {k : Nat} {z : Int} (h : Zc W v k z) (hs : Stored g W w') : Zc w' v k z:=by
 obtain ⟨b,A,c,xs,h1,h2,h3⟩:=h
 exact ⟨b,A,c,xs,h1,hs.row h2,h3⟩
theorem Reg.zc {B : Nat} {W0 w : World} {G : List Nat} (h : Reg B W0 G w) {v : Value} {k : Nat} {z : Int} (hz : Zc W0 v k z) : Zc w v k z:=by
 obtain ⟨b,A,c,xs,h1,h2,h3⟩:=hz
 exact ⟨b,A,c,xs,h1,h.row h2,h3⟩
def kC (k : Nat) (z : Int) : PK:=.p (fun v w=>Zc w v k z) (fun _ _ _ h hb=>h.below hb) (fun _ _ _ _ h hs=>h.stored hs)
def ZCs (S : Nat) (W : World) (A : Option Addr) (l : List (Nat × Int)) : Prop:=∀ j q,l[j]? = some q → ∃ ad,A = some ad ∧ ad.block < S ∧ ∃ u v,W.cell? (ad.add (j * 2)) = some u ∧ W.cell? ((ad.add (j * 2)).add 1) = some v ∧ Zc W (.agg #[u,v]) q.1 q.2
theorem ZCs.below {S : Nat} {W w' : World} {A : Option Addr} {l : List (Nat × Int)} (h : ZCs S W A l) (hb : Below W.heap.size W w') : ZCs S w' A l:=fun j q hj=>by
 obtain ⟨ad,e,hs,u,v,h1,h2,h3⟩:=h j q hj
 exact ⟨ad,e,hs,u,v,(hb.cell (cell_lt h1)).trans h1,(hb.cell (cell_lt h2)).trans h2,h3.below hb⟩
theorem Reg.zcsG {S B : Nat} {W0 w : World} {G : List Nat} (h : Reg B W0 G w) (hG : ∀ g ∈ G,S ≤ g) {A : Option Addr} {l : List (Nat × Int)} (hl : ZCs S W0 A l) : ZCs S w A l:=fun j q hj=>by
 obtain ⟨ad,e,hs,u,v,h1,h2,h3⟩:=hl j q hj
 have hn : ad.block ∉ G:=fun hg=>by have:=hG _ hg; omega
 exact ⟨ad,e,hs,u,v,h.cellAt (by rw [fo]; exact hn) h1,h.cellAt (by rw [fo,fo]; exact hn) h2,h.zc h3⟩
theorem Reg.zcs {S B : Nat} {W0 w : World} (h : Reg B W0 [] w) {A : Option Addr} {l : List (Nat × Int)} (hl : ZCs S W0 A l) : ZCs S w A l:=h.zcsG (by simp) hl
section
variable {G : List Nat} {S0 B : Nat} {ks : List PK} {a0 : Act} {i : Nat} {N : Nat} {W0 : World} {T : TypeId} {pos : String} {af : Array Edge} {gu : Option (Nat × Bool)}
theorem st_loadC {d t j k : Nat} {z : Int} {p : Addr} {u v : Value} (hl : CellsZ W0 p u v) (hz : Zc W0 (.agg #[u,v]) k z) (hG : p.block ∉ G)    (hj : at_ ks j = kIs (.pointer (some p))) (hi : at_ ks i = kC k z) (hN : a0.tmps.size = N:=by assumption) (hd : decide (d < N) = true:=by kernel_rfl) (ht : decide (t < N) = true:=by kernel_rfl) :
   PkStep Tryz.prog (Reg B W0 G) S0 ks a0 i { dst:=some d,op:=.load 24 (.tmp t),type:=T,pos:=pos,after:=af,guard:=gu } [(j,some t)]:=by
 intro w x hC
 refine aw _ fun hdeps K hK=>?_
 have h1:=hdeps (j,some t) (by simp)
 rw [hj] at h1
 have e1 : (putE x a0 [(j,some t)]).eval (.tmp t) = x j:=putE_new _ _ (by rw [hN]; exact of_decide_eq_true ht) (by simp [slotAt])
 obtain ⟨m1,m2⟩:=hC.cellsZ hG hl
 refine bj (w':=w) rfl (by rw [ax,hN]) hd (ex_load (e1.trans h1) (run_loadNA m1 m2)) (hK _ _ ?_ ?_)
 · rw [hi]; exact Below.refl _ _
 · rw [hi]; exact hC.zc hz
end
theorem r2_addC {M : Nat} (hM : Hid (M ≤ 1080)) (hM1 : 1 ≤ M) {w : World} {A : Option Addr} {c0 : Nat} {l : List (Nat × Int)} (h : ZCs w.heap.size w A l) (hk : ∀ q ∈ l,q.1 ≤ M) (hlen : l.length ≤ 100000) (hacc : ∀ i,i ≤ l.length → (qsum (l.take i)).natAbs < 1000000000 ^ M) :
   Calls Tryz.prog 48 #[.slice A l.length c0] w (TellsZ w M (qsum l)):=by
 have hl2:=h
 clear h
 go_enter Tryz.func48,Tryz.ntmps48
 repeat apply wp_seq
 refine ls fun K HK=>?_
 go_wp2
 refine HK.out _ _ (then_n ?_)
 refine lp (G:=fun W=>Code.wp _ _ _ _ W) ?_
 intro W_0 bb_0 K0
 have R_0:=lc K0
 have LL_0:=hl2.below bb_0
 clear K0 hl2
 refine lm (G:=fun a=>Code.wp _ _ _ a _) 20 ?_
 intro a_0 ha hN_0 hD_0
 have e0_0 : a_0.eval (.tmp 0) = (.slice A l.length c0):=ln ha
 have e2_0:=lj ha 2 w.heap.size
 repeat first | apply lk | apply ll
 refine ld bb_0 [kZ 1 (0),PK.fresh 2,kPutZ 1 1 (0)] [[],[],[1,0]] [5,3,999] [] [] ?_ ?_
 · refine aa rfl rfl (be [.int .i64 (0)] rfl rfl fun hC=>tz (r2_of (0) (by decide) (by decide) (by decide))) ?_; refine au ?_; refine bc ?_; exact ag rfl
 intro W_1 x a_1 hC hall ha hN_1 hD_1 bb_1
 obtain ⟨g3,hx,hge,hl3⟩:=cb (lr hall 2)
 have d3:=Nat.lt_of_lt_of_le R_0.lt hge
 have e0_1:=ab ha e0_0
 have e2_1:=ab ha e2_0
 have e3_1:=(an (t:=3) (i:=1) ha).trans (hx)
 have R_1:=hC.holds R_0
 have LL_1:=hC.zcs LL_0
 clear hx hge hC hall
 have X_1:=hl3
 clear hl3
 repeat first | apply lk | apply ll
 refine wp_set fun x hx=>?_
 refine then_n ?_
 obtain ⟨a_2,ha⟩ : ∃ a,a = putE x a_1 [(0,some 4)]:=⟨_,rfl⟩
 rw [← ha]
 have hN_2:=size_behind ha hN_1
 have hD_2:=defers_behind ha hD_1
 have e0_2:=ab ha e0_1
 have e2_2:=ab ha e2_1
 have e3_2:=ab ha e3_1
 have e4_2:=(an (t:=4) (i:=0) ha).trans (hx)
 have bb_2:=bb_1
 have R_2:=R_1
 have LL_2:=LL_1
 have X_2:=X_1
 clear hx
 repeat first | apply lk | apply ll
 refine wp_block ?_
 refine wp_loop (fun a W=>a.tmps.size = 20 ∧ a.defers = [] ∧ a.eval (.tmp 0) = (.slice A l.length c0) ∧ a.eval (.tmp 2) = (.pointer (some ⟨w.heap.size,0,none⟩)) ∧ a.eval (.tmp 3) = .pointer (some ⟨g3,0,none⟩) ∧ Below w.heap.size w W ∧ Holds_ W w.heap.size #[Value.bool false,Value.slice none 0 0] ∧ ZCs w.heap.size W A l ∧ ∃ i : Nat,i ≤ l.length ∧ a.eval (.tmp 4) = .int .i64 (i : Int) ∧ LocR W g3 M (qsum (l.take i))) (fun a _=>l.length - (intOf (a.eval (.tmp 4))).toNat) ?_ ?_
 · exact ⟨hN_2,hD_2,e0_2,e2_2,e3_2,bb_2,R_2,LL_2,0,Nat.zero_le _,e4_2,(X_2).up hM1⟩
 clear hN_2 hD_2 e0_2 e2_2 e3_2 e4_2 bb_2 R_2 LL_2 X_2
 rintro a_10 W_10 ⟨hN_10,hD_10,e0_10,e2_10,e3_10,bb_10,R_10,LL_10,i,hi7,e4_10,X_10⟩
 have hm : intOf (a_10.eval (.tmp 4)) = (i : Int):=by rw [e4_10]; rfl
 rw [hm]
 clear hm
 repeat first | apply lk | apply ll
 refine wp_less e4_10 e0_10 (len_runI _ _ _ _) (less_run _ _) fun x hx=>?_
 refine then_n ?_
 obtain ⟨a_11,ha⟩ : ∃ a,a = putE x a_10 [(0,some 6),(1,some 7),(2,some 8),(3,some 9)]:=⟨_,rfl⟩
 rw [← ha]
 have hN_11:=size_behind ha hN_10
 have hD_11:=defers_behind ha hD_10
 have e0_11:=ab ha e0_10
 have e2_11:=ab ha e2_10
 have e3_11:=ab ha e3_10
 have e4_11:=ab ha e4_10
 have e9_11:=(an (t:=9) (i:=3) ha).trans (hx)
 have bb_11:=bb_10
 have R_11:=R_10
 have LL_11:=LL_10
 have X_11:=X_10
 clear hx
 by_cases hi : i < l.length
 ·
   have hc : decide ((i : Int) < (l.length : Int)) = true:=decide_eq_true (by omega); rw [hc] at e9_11; clear hc; refine wp_cond_true e9_11 ?_; refine wp_skip ?_; refine then_n ?_
   repeat first | apply lk | apply ll
   refine wp_block ?_
   repeat first | apply lk | apply ll
   obtain ⟨q,hq⟩ : ∃ q,l[i]? = some q:=⟨l[i],List.getElem?_eq_getElem hi⟩
   have hqk:=hk q (List.mem_of_getElem? hq); obtain ⟨u3,v3,X3⟩ : ∃ u v,Holds_ W_10 g3 #[u,v]:=by obtain ⟨A,m,c,hh,_⟩:=X_11; exact ⟨_,_,hh⟩
   obtain ⟨ad,rfl,hbk,u2,v2,m1,m2,hzc⟩:=LL_11 i q hq
   have hcz : CellsZ W_10 (ad.add (i * 2)) u2 v2:=⟨m1,m2⟩
   clear m1 m2; have hMM:=hM.out; refine dm w.heap.size g3 X3 (by omega) 7 [0] [kZ M (qsum (l.take i)),kIs ((.slice (some ad) l.length c0)),kIs (.int .i64 (i : Int)),kIs (.pointer (some (ad.add (i * 2)))),kC q.1 q.2,kZ q.1 q.2,kZ (M + 1) (qsum (l.take i) + q.2),kResZ g3 (M + 1) (qsum (l.take i) + q.2)] [ [],[],[],[(1,some 13),(2,some 14)],[(3,some 15)],[(4,some 16)],[(0,some 12),(5,some 17)],[(6,some 18)] ] [(0,some 12),(1,some 13),(2,some 14),(3,some 15),(4,some 16),(5,some 17),(6,some 18),(7,none)] [] [] rfl bb_11.size ?_ ?_
   ·
     refine cp rfl rfl rfl ?_ ?_
     · exact gw X_11.atR e3_11 rfl
     refine aj rfl rfl (br [] [(0,(.slice (some ad) l.length c0))] ((.slice (some ad) l.length c0)) rfl (old1 e0_11)) ?_; refine aj rfl rfl (br [] [(4,(.int .i64 (i : Int)))] ((.int .i64 (i : Int))) rfl (old1 e4_11)) ?_; refine aj rfl rfl (st_idxN hi rfl rfl rfl) ?_; refine aj rfl rfl (st_loadC hcz hzc (by simp only [List.mem_singleton,fo]; omega) rfl rfl) ?_; refine aj rfl rfl (ae rfl rfl fun hC h1=>tz (r2_norm h1 (by omega))) ?_; refine aj rfl rfl (ap rfl rfl rfl fun hC h1 h2=>tz (r2_plusM hM (rr h1) ((rr h2).mono hqk))) ?_; refine aj rfl rfl (ce X3 e3_11 rfl rfl) ?_; exact fa rfl
   intro W_20 x hC hall; have hres:=show (kResZ g3 (M + 1) (qsum (l.take i) + q.2)).sem _ _ _ _ from hall 7 (of_decide_eq_true (by kernel_rfl))
   have X2 : LocR W_20 g3 M (qsum (l.take (i + 1))):=by rw [qsum_take hq]; exact (res_locR hres).tight (by rw [← qsum_take hq]; exact hacc (i + 1) hi)
   obtain ⟨a_12,ha⟩ : ∃ a,a = putE x a_11 [(0,some 12),(1,some 13),(2,some 14),(3,some 15),(4,some 16),(5,some 17),(6,some 18),(7,none)]:=⟨_,rfl⟩
   rw [← ha]; have hN_12:=size_behind ha hN_11; have hD_12:=defers_behind ha hD_11; have e0_12:=ab ha e0_11; have e2_12:=ab ha e2_11; have e3_12:=ab ha e3_11; have e4_12:=ab ha e4_11; have bb_12:=bb_11.trans hC.below; have R_12:=hC.holdsG (by simp only [List.mem_singleton]; omega) R_11; have LL_12:=hC.zcsG (fun g hg=>by rw [List.mem_singleton.1 hg]; omega) LL_11; have X_12:=X2; clear hres X2 hC hall X3; refine io ?_; refine then_n ?_; refine wp_incr (n:=(i : Int)) (m:=((i + 1 : Nat) : Int)) e4_12 (add_run i 1 (by omega)) fun x hx=>?_
   obtain ⟨a_13,ha⟩ : ∃ a,a = putE x a_12 [(0,some 10),(1,some 11),(2,some 4)]:=⟨_,rfl⟩
   rw [← ha]; have hN_13:=size_behind ha hN_12; have hD_13:=defers_behind ha hD_12; have e0_13:=ab ha e0_12; have e2_13:=ab ha e2_12; have e3_13:=ab ha e3_12; have e4_13:=(an (t:=4) (i:=2) ha).trans (hx); have bb_13:=bb_12; have R_13:=R_12; have LL_13:=LL_12; have X_13:=X_12; refine then_n ⟨⟨hN_13,hD_13,e0_13,e2_13,e3_13,bb_13,R_13,LL_13,i + 1,by omega,e4_13,X_13⟩,?_⟩; rw [show intOf (a_13.eval (.tmp 4)) = ((i + 1 : Nat) : Int) by rw [e4_13]; rfl]; omega
 ·
   have hc : decide ((i : Int) < (l.length : Int)) = false:=decide_eq_false (by omega); rw [hc] at e9_11; clear hc; refine wp_cond_false e9_11 ?_; refine wp_exit ?_; refine gn ?_; refine gn ?_; refine gd ?_; refine then_n ?_; obtain rfl : i = l.length:=by omega
   rw [List.take_length] at X_11
   repeat first | apply lk | apply ll
   refine lu bb_11 R_11 [kZ M (qsum l),kResZ (w.heap.size) M (qsum l)] [[],[0]] [19,999] [] [] ?_ ?_
   · refine aa rfl rfl (kf (hG:=(by simp only [List.mem_singleton]; omega)) X_11.atR e3_11 rfl) ?_; refine aa rfl rfl (ce R_11 e2_11 rfl rfl) ?_; exact ag rfl
   intro W x a1 hC hall ha hN1 hD1 bb1; obtain ⟨cs,hg,hP⟩:=lr hall 1; have e1:=ab (t:=2) ha e2_11
   repeat first | apply lk | apply ll
   refine wp_ret ?_
   repeat (refine then_r ?_)
   exact ci (t:=2) rfl hD1 e1 hg hP fun v hv=>⟨v,rfl,hv,bb1⟩
theorem r2_mulC {M : Nat} (hM : Hid (M ≤ 1080)) (hM1 : 1 ≤ M) {w : World} {A : Option Addr} {c0 : Nat} {l : List (Nat × Int)} (h : ZCs w.heap.size w A l) (hk : ∀ q ∈ l,q.1 ≤ M) (hlen : l.length ≤ 100000) (hacc : ∀ i,i ≤ l.length → (qprod (l.take i)).natAbs < 1000000000 ^ M) :
   Calls Tryz.prog 50 #[.slice A l.length c0] w (TellsZ w M (qprod l)):=by
 have hl2:=h
 clear h
 go_enter Tryz.func50,Tryz.ntmps50
 repeat apply wp_seq
 refine ls fun K HK=>?_
 go_wp2
 refine HK.out _ _ (then_n ?_)
 refine lp (G:=fun W=>Code.wp _ _ _ _ W) ?_
 intro W_0 bb_0 K0
 have R_0:=lc K0
 have LL_0:=hl2.below bb_0
 clear K0 hl2
 refine lm (G:=fun a=>Code.wp _ _ _ a _) 31 ?_
 intro a_0 ha hN_0 hD_0
 have e0_0 : a_0.eval (.tmp 0) = (.slice A l.length c0):=ln ha
 have e2_0:=lj ha 2 w.heap.size
 repeat first | apply lk | apply ll
 refine ld bb_0 [kZ 1 (1),PK.fresh 2,kPutZ 1 1 (1)] [[],[],[1,0]] [6,3,999] [] [] ?_ ?_
 · refine aa rfl rfl (be [.int .i64 (1)] rfl rfl fun hC=>tz (r2_of (1) (by decide) (by decide) (by decide))) ?_; refine au ?_; refine bc ?_; exact ag rfl
 intro W_1 x a_1 hC hall ha hN_1 hD_1 bb_1
 obtain ⟨g3,hx,hge,hl3⟩:=cb (lr hall 2)
 have d3:=Nat.lt_of_lt_of_le R_0.lt hge
 have e0_1:=ab ha e0_0
 have e2_1:=ab ha e2_0
 have e3_1:=(an (t:=3) (i:=1) ha).trans (hx)
 have R_1:=hC.holds R_0
 have LL_1:=hC.zcs LL_0
 clear hx hge hC hall
 have X_1:=hl3
 clear hl3
 repeat first | apply lk | apply ll
 refine wp_set fun x hx=>?_
 refine then_n ?_
 obtain ⟨a_2,ha⟩ : ∃ a,a = putE x a_1 [(0,some 4)]:=⟨_,rfl⟩
 rw [← ha]
 have hN_2:=size_behind ha hN_1
 have hD_2:=defers_behind ha hD_1
 have e0_2:=ab ha e0_1
 have e2_2:=ab ha e2_1
 have e3_2:=ab ha e3_1
 have e4_2:=(an (t:=4) (i:=0) ha).trans (hx)
 have bb_2:=bb_1
 have R_2:=R_1
 have LL_2:=LL_1
 have X_2:=X_1
 clear hx
 repeat first | apply lk | apply ll
 refine wp_block ?_
 refine wp_loop (fun a W=>a.tmps.size = 31 ∧ a.defers = [] ∧ a.eval (.tmp 0) = (.slice A l.length c0) ∧ a.eval (.tmp 2) = (.pointer (some ⟨w.heap.size,0,none⟩)) ∧ a.eval (.tmp 3) = .pointer (some ⟨g3,0,none⟩) ∧ Below w.heap.size w W ∧ Holds_ W w.heap.size #[Value.bool false,Value.slice none 0 0] ∧ ZCs w.heap.size W A l ∧ ∃ i : Nat,i ≤ l.length ∧ a.eval (.tmp 4) = .int .i64 (i : Int) ∧ LocR W g3 M (qprod (l.take i))) (fun a _=>l.length - (intOf (a.eval (.tmp 4))).toNat) ?_ ?_
 · exact ⟨hN_2,hD_2,e0_2,e2_2,e3_2,bb_2,R_2,LL_2,0,Nat.zero_le _,e4_2,(X_2).up hM1⟩
 clear hN_2 hD_2 e0_2 e2_2 e3_2 e4_2 bb_2 R_2 LL_2 X_2
 rintro a_10 W_10 ⟨hN_10,hD_10,e0_10,e2_10,e3_10,bb_10,R_10,LL_10,i,hi7,e4_10,X_10⟩
 have hm : intOf (a_10.eval (.tmp 4)) = (i : Int):=by rw [e4_10]; rfl
 rw [hm]
 clear hm
 repeat first | apply lk | apply ll
 refine wp_less e4_10 e0_10 (len_runI _ _ _ _) (less_run _ _) fun x hx=>?_
 refine then_n ?_
 obtain ⟨a_11,ha⟩ : ∃ a,a = putE x a_10 [(0,some 7),(1,some 8),(2,some 9),(3,some 10)]:=⟨_,rfl⟩
 rw [← ha]
 have hN_11:=size_behind ha hN_10
 have hD_11:=defers_behind ha hD_10
 have e0_11:=ab ha e0_10
 have e2_11:=ab ha e2_10
 have e3_11:=ab ha e3_10
 have e4_11:=ab ha e4_10
 have e10_11:=(an (t:=10) (i:=3) ha).trans (hx)
 have bb_11:=bb_10
 have R_11:=R_10
 have LL_11:=LL_10
 have X_11:=X_10
 clear hx
 by_cases hi : i < l.length
 ·
   have hc : decide ((i : Int) < (l.length : Int)) = true:=decide_eq_true (by omega); rw [hc] at e10_11; clear hc; refine wp_cond_true e10_11 ?_; refine wp_skip ?_; refine then_n ?_
   repeat first | apply lk | apply ll
   refine wp_block ?_
   repeat first | apply lk | apply ll
   obtain ⟨q,hq⟩ : ∃ q,l[i]? = some q:=⟨l[i],List.getElem?_eq_getElem hi⟩
   have hqk:=hk q (List.mem_of_getElem? hq); obtain ⟨ad,rfl,hbk,u2,v2,m1,m2,hzc⟩:=LL_11 i q hq
   have hcz : CellsZ W_10 (ad.add (i * 2)) u2 v2:=⟨m1,m2⟩
   clear m1 m2; have hMM:=hM.out; refine ld bb_11 [kIs ((.slice (some ad) l.length c0)),kIs (.int .i64 (i : Int)),kIs (.pointer (some (ad.add (i * 2)))),kC q.1 q.2,kZ q.1 q.2,PK.fresh 2,kPutZ 5 q.1 q.2] [[],[],[0,1],[2],[3],[],[5,4]] [13,14,15,16,17,5,999] [] [] ?_ ?_
   ·
     refine p01 e0_11 ?_; refine p01 e4_11 ?_; refine aa rfl rfl (st_idxN hi rfl rfl rfl) ?_; refine aa rfl rfl (st_loadC hcz hzc (by simp) rfl rfl) ?_; refine aa rfl rfl (ae rfl rfl fun hC h1=>tz (r2_norm h1 (by omega))) ?_; refine au ?_; refine bc ?_; exact ag rfl
   intro W_15 x a_12 hC hall ha hN_12 hD_12 bb_12; obtain ⟨g5,hx,hge,hl5⟩:=cb (lr hall 6); obtain ⟨u3,v3,X3⟩ : ∃ u v,Holds_ W_15 g3 #[u,v]:=by obtain ⟨A,m,c,hh,_⟩:=hC.locR X_11; exact ⟨_,_,hh⟩
   have d5 : g3 < g5:=by obtain ⟨A,m,c,hh,_⟩:=X_11; exact Nat.lt_of_lt_of_le hh.lt hge
   have e0_12:=ab ha e0_11; have e2_12:=ab ha e2_11; have e3_12:=ab ha e3_11; have e4_12:=ab ha e4_11; have e5_12:=(an (t:=5) (i:=5) ha).trans (hx); have R_12:=hC.holds R_11; have LL_12:=hC.zcs LL_11; have X_12:=hC.locR X_11; have Y_12:=hl5; clear hx hge hC hall hl5
   repeat first | apply lk | apply ll
   have hbM : (((qprod (l.take i))).natAbs * (q.2).natAbs) < 1000000000 ^ M:=by have:=hacc (i + 1) hi; rw [qprod_take hq,Int.natAbs_mul] at this; exact this
   have hbA : ((qprod (l.take i))).natAbs < 1000000000 ^ M:=hacc i hi7; have hbq : (q.2).natAbs < 1000000000 ^ M:=by obtain ⟨A,m,c,_,A',m',c',_,_,hh⟩:=Y_12; exact Nat.lt_of_lt_of_le hh (pow_le hqk)
   refine ec hN_12 w.heap.size g3 X3 (by omega) 12 [1, 6] [kIs (.pointer (some ⟨g3, 0, none⟩)), kIs (.bool (decide ((qprod (l.take i)) < 0))), kIs (.pointer (some ⟨g5, 0, none⟩)), kIs (.bool (decide (q.2 < 0))), kIs (.bool (decide ((qprod (l.take i)) < 0) != decide (q.2 < 0))), kIs (.pointer (some ⟨g3, 1, none⟩)), kRow (qprod (l.take i)), kIs (.pointer (some ⟨g5, 1, none⟩)), kRow q.2, kRR ((qprod (l.take i))).natAbs (q.2).natAbs, kRow ((((qprod (l.take i))).natAbs * (q.2).natAbs : Nat) : Int), kZ M (zOf (((qprod (l.take i))).natAbs * (q.2).natAbs) (decide ((qprod (l.take i)) < 0) != decide (q.2 < 0))), kResZ g3 M (zOf (((qprod (l.take i))).natAbs * (q.2).natAbs) (decide ((qprod (l.take i)) < 0) != decide (q.2 < 0)))]
     [ [],[(0,some 18)],[],[(2,some 20)],[(1,some 19),(3,some 21)],[],[(5,some 23)],[],[(7,some 25)],[(6,some 24),(8,some 26)],[(9,some 27)],[(4,some 22),(10,some 28)],[(11,some 29)] ] [(0,some 18),(1,some 19),(2,some 20),(3,some 21),(4,some 22),(5,some 23),(6,some 24),(7,some 25),(8,some 26),(9,some 27),(10,some 28),(11,some 29),(12,none)] [] [] (by kernel_rfl) (by kernel_rfl) (by kernel_rfl) (by kernel_rfl) (by kernel_rfl) (by kernel_rfl) (by kernel_rfl) rfl rfl (by kernel_rfl) (by kernel_rfl) bb_12.size ?_ ?_
   ·
     refine aj rfl rfl (br [] [(3,.pointer (some ⟨g3,0,none⟩))] (.pointer (some ⟨g3,0,none⟩)) rfl (old1 e3_12)) ?_; refine cp rfl rfl rfl ?_ ?_
     · exact st_loadKS X_12.atR rfl rfl
     refine aj rfl rfl (br [] [(5,.pointer (some ⟨g5,0,none⟩))] (.pointer (some ⟨g5,0,none⟩)) rfl (old1 e5_12)) ?_; refine aj rfl rfl (st_loadS (s:=decide (q.2 < 0)) (hG:=(by simp only [List.mem_singleton]; omega)) Y_12.atR rfl rfl rfl) ?_; refine aj rfl rfl (br [.bool (decide ((qprod (l.take i)) < 0)),.bool (decide (q.2 < 0))] [] (.bool (decide ((qprod (l.take i)) < 0) != decide (q.2 < 0))) rfl old0) ?_; refine aj rfl rfl (br [] [(3,.pointer (some ⟨g3,0,none⟩))] (.pointer (some ⟨g3,1,none⟩)) rfl (old1 e3_12)) ?_; refine cp rfl rfl rfl ?_ ?_
     · exact st_loadKRow X_12.atR rfl rfl
     refine aj rfl rfl (br [] [(5,.pointer (some ⟨g5,0,none⟩))] (.pointer (some ⟨g5,1,none⟩)) rfl (old1 e5_12)) ?_; refine aj rfl rfl (ar (hG:=(by simp only [List.mem_singleton]; omega)) Y_12.atR rfl rfl) ?_; refine aj rfl rfl (st_rows2 rfl rfl rfl) ?_; refine aj rfl rfl (ae rfl rfl fun hC h1=>tr rfl (r1_mul (N:=M) (M:=M) h1 hbA hbq hbM (Nat.le_refl _) hM1 (by omega))) ?_; refine aj rfl rfl (ap rfl rfl rfl fun hC h1 h2=>tz (r2_mkB h1 h2 hbM (by omega))) ?_; refine aj rfl rfl (ce X3 e3_12 rfl rfl) ?_; exact fa rfl
   intro W_20 x hC hall; have hres:=show (kResZ g3 M (zOf (((qprod (l.take i))).natAbs * (q.2).natAbs) (decide ((qprod (l.take i)) < 0) != decide (q.2 < 0)))).sem _ _ _ _ from hall 12 (of_decide_eq_true (by kernel_rfl))
   have X2 : LocR W_20 g3 M (qprod (l.take (i + 1))):=by have h:=res_locR hres; rw [zOf_mul,← qprod_take hq] at h; exact h
   obtain ⟨a_13,ha⟩ : ∃ a,a = putE x a_12 [(0,some 18),(1,some 19),(2,some 20),(3,some 21),(4,some 22),(5,some 23),(6,some 24),(7,some 25),(8,some 26),(9,some 27),(10,some 28),(11,some 29),(12,none)]:=⟨_,rfl⟩
   rw [← ha]; have hN_13:=size_behind ha hN_12; have hD_13:=defers_behind ha hD_12; have e0_13:=ab ha e0_12; have e2_13:=ab ha e2_12; have e3_13:=ab ha e3_12; have e4_13:=ab ha e4_12; have bb_13:=bb_12.trans hC.below; have R_13:=hC.holdsG (by simp only [List.mem_singleton]; omega) R_12; have LL_13:=hC.zcsG (fun g hg=>by rw [List.mem_singleton.1 hg]; omega) LL_12; have X_13:=X2; clear hres X2 hC hall X3 Y_12; refine io ?_; refine then_n ?_; refine wp_incr (n:=(i : Int)) (m:=((i + 1 : Nat) : Int)) e4_13 (add_run i 1 (by omega)) fun x hx=>?_
   obtain ⟨a_14,ha⟩ : ∃ a,a = putE x a_13 [(0,some 11),(1,some 12),(2,some 4)]:=⟨_,rfl⟩
   rw [← ha]; have hN_14:=size_behind ha hN_13; have hD_14:=defers_behind ha hD_13; have e0_14:=ab ha e0_13; have e2_14:=ab ha e2_13; have e3_14:=ab ha e3_13; have e4_14:=(an (t:=4) (i:=2) ha).trans (hx); have bb_14:=bb_13; have R_14:=R_13; have LL_14:=LL_13; have X_14:=X_13; refine then_n ⟨⟨hN_14,hD_14,e0_14,e2_14,e3_14,bb_14,R_14,LL_14,i + 1,by omega,e4_14,X_14⟩,?_⟩; rw [show intOf (a_14.eval (.tmp 4)) = ((i + 1 : Nat) : Int) by rw [e4_14]; rfl]; omega
 ·
   have hc : decide ((i : Int) < (l.length : Int)) = false:=decide_eq_false (by omega); rw [hc] at e10_11; clear hc; refine wp_cond_false e10_11 ?_; refine wp_exit ?_; refine gn ?_; refine gn ?_; refine gd ?_; refine then_n ?_; obtain rfl : i = l.length:=by omega
   rw [List.take_length] at X_11
   repeat first | apply lk | apply ll
   refine lu bb_11 R_11 [kZ M (qprod l),kResZ (w.heap.size) M (qprod l)] [[],[0]] [30,999] [] [] ?_ ?_
   · refine aa rfl rfl (kf (hG:=(by simp only [List.mem_singleton]; omega)) X_11.atR e3_11 rfl) ?_; refine aa rfl rfl (ce R_11 e2_11 rfl rfl) ?_; exact ag rfl
   intro W x a1 hC hall ha hN1 hD1 bb1; obtain ⟨cs,hg,hP⟩:=lr hall 1; have e1:=ab (t:=2) ha e2_11
   repeat first | apply lk | apply ll
   refine wp_ret ?_
   repeat (refine then_r ?_)
   exact ci (t:=2) rfl hD1 e1 hg hP fun v hv=>⟨v,rfl,hv,bb1⟩
end Go.Proofs.YtifgcjpgelbelaaGreatDoor
set_option linter.unusedVariables false
set_option linter.unusedSimpArgs false
namespace Go.Proofs.YtifgcjpgelbelaaGreatDoor
open Go.RowKit
theorem zcs_of {W : World} {g : Nat} {l : List (Nat × Int)} (h : ZRs W g l) (hg : g < W.heap.size) (hk : ∀ q ∈ l,q.1 ≤ 1100) : ZCs W.heap.size W (some ⟨g,0,none⟩) l:=fun j q hj=>by
 obtain ⟨A,n,c,h1,h2,hz⟩:=h j q hj
 have e1 : (⟨g,0,none⟩ : Addr).add (j * 2) = ⟨g,j * 2,none⟩:=kx _ _
 have e2 : (⟨g,j * 2,none⟩ : Addr).add 1 = ⟨g,j * 2 + 1,none⟩:=by unfold Addr.add; simp
 exact ⟨_,rfl,hg,_,_,by rw [e1]; exact h1,by rw [e1,e2]; exact h2,Zr.zc hz (hk q (List.mem_of_getElem? hj))⟩
theorem r2_mulX {w : World} {v : Value} {l : List (Nat × Int)} (h : ∃ g,v = .slice (some ⟨g,0,none⟩) l.length l.length ∧ g < w.heap.size ∧ ZRs w g l) (hk : ∀ q ∈ l,q.1 ≤ 159) (hlen : l.length ≤ 100000) (hacc : ∀ i,i ≤ l.length → (qprod (l.take i)).natAbs < 1000000000 ^ 159) :
   Calls Tryz.prog 50 #[v] w (TellsZ w 159 (qprod l)):=by
 obtain ⟨g,rfl,hg,hl⟩:=h
 exact r2_mulC (Lib.hid (by decide)) (by decide) (zcs_of hl hg fun q hq=>Nat.le_trans (hk q hq) (by decide)) hk hlen hacc
theorem r2_cmp_npX {w : World} {v1 v2 : Value} {zx zy : Int} (hx : decide (zx < 0) = true) (hy : decide (zy < 0) = false) (h1 : Zr w v1 159 (zx)) (h2 : Zr w v2 159 (zy)) :
   Calls Tryz.prog 72 #[v1,v2] w (fun e w'=>e = .returned (.int .i64 (-1)) ∧ Below w.heap.size w w'):=by
 obtain ⟨y1,z1,rfl,H1⟩:=h1.op
 obtain ⟨y2,z2,rfl,H2⟩:=h2.op
 go_enter Tryz.func72,Tryz.ntmps72
 repeat apply wp_seq
 refine ls fun K HK=>?_
 go_wp2
 refine HK.out _ _ (then_n ?_)
 refine lq (G:=fun W=>Code.wp _ _ _ _ W) ?_
 intro W_0 bb_0 K0 K1
 have f1_0:=H1.out _ _ _ bb_0 K0
 have f2_0:=H2.out _ _ _ bb_0 K1
 clear K0 K1
 refine lm (G:=fun a=>Code.wp _ _ _ a _) 40 ?_
 intro a_0 ha hN_0 hD_0
 have e2_0:=lj ha 2 w.heap.size
 have e3_0:=lj ha 3 (w.heap.size + 1)
 repeat first | apply lk | apply ll
 refine ld bb_0 [kZ 159 (zx),kZ 159 (zx),kZ 159 (zy),kZ 159 (zy),PK.fresh 2,PK.fresh 2,kPutZ 4 159 (zx),kPutZ 5 159 (zy)] [[],[0],[],[2],[],[],[4,1],[5,3]] [7,8,9,10,5,6,999,999] [] [] ?_ ?_
 ·
   refine ai f1_0 e2_0 ?_; refine aa rfl rfl (ae rfl rfl fun hC h1=>tz (r2_norm ((rr h1).zc (by decide)) (by decide))) ?_; refine ai f2_0 e3_0 ?_; refine aa rfl rfl (ae rfl rfl fun hC h1=>tz (r2_norm ((rr h1).zc (by decide)) (by decide))) ?_; refine au ?_; refine au ?_; refine bc ?_; refine bc ?_; exact ag rfl
 intro W_1 x a_1 hC hall ha hN_1 hD_1 bb_1
 obtain ⟨g5,hx,l5_1⟩:=dl (lr hall 6)
 have e5_1:=(an (t:=5) (i:=4) ha).trans hx
 clear hx
 obtain ⟨g6,hx,l6_1⟩:=dl (lr hall 7)
 have e6_1:=(an (t:=6) (i:=5) ha).trans hx
 clear hx
 have q5_1:=l5_1.atR
 clear l5_1
 have q6_1:=l6_1.atR
 clear l6_1
 repeat first | apply lk | apply ll
 refine wp_block ?_
 repeat first | apply lk | apply ll
 refine ld bb_1 [lf g5 0,lg,lg,lf g6 0,lh,lg,lg,lg] [[],[0],[1],[],[3],[4],[2,5],[6]] [12,13,14,15,16,17,18,11] [(2,true)] [] ?_ ?_
 ·
   refine p01 e5_1 ?_; refine aq (s:=true) q5_1 hx ?_; refine p10 ?_; refine p01 e6_1 ?_; refine aq (s:=false) q6_1 hy ?_; refine p10 ?_; refine p20 ?_; refine p10 ?_; exact ag rfl
 intro W_2 x a_2 hC hall ha hN_2 hD_2 bb_2
 have e11_2:=le ha hall 11 7
 repeat first | apply lk | apply ll
 refine wp_cond_true e11_2 ?_
 repeat first | apply lk | apply ll
 refine ld bb_2 [kIs (.int .i64 (-1))] [[]] [4] [] [] ?_ ?_
 ·
   refine p00 ?_; exact ag rfl
 intro W x a1 hC hall ha hN1 hD1 bb1
 have e1:=le ha hall 4 0
 repeat first | apply lk | apply ll
 refine wp_ret ?_
 repeat (first | refine then_r ?_ | refine gt ?_)
 exact bi (t:=4) rfl hD1 e1 ⟨rfl,bb1⟩
theorem r2_cmp_pnX {w : World} {v1 v2 : Value} {zx zy : Int} (hx : decide (zx < 0) = false) (hy : decide (zy < 0) = true) (h1 : Zr w v1 159 (zx)) (h2 : Zr w v2 159 (zy)) :
   Calls Tryz.prog 72 #[v1,v2] w (fun e w'=>e = .returned (.int .i64 (1)) ∧ Below w.heap.size w w'):=by
 obtain ⟨y1,z1,rfl,H1⟩:=h1.op
 obtain ⟨y2,z2,rfl,H2⟩:=h2.op
 go_enter Tryz.func72,Tryz.ntmps72
 repeat apply wp_seq
 refine ls fun K HK=>?_
 go_wp2
 refine HK.out _ _ (then_n ?_)
 refine lq (G:=fun W=>Code.wp _ _ _ _ W) ?_
 intro W_0 bb_0 K0 K1
 have f1_0:=H1.out _ _ _ bb_0 K0
 have f2_0:=H2.out _ _ _ bb_0 K1
 clear K0 K1
 refine lm (G:=fun a=>Code.wp _ _ _ a _) 40 ?_
 intro a_0 ha hN_0 hD_0
 have e2_0:=lj ha 2 w.heap.size
 have e3_0:=lj ha 3 (w.heap.size + 1)
 repeat first | apply lk | apply ll
 refine ld bb_0 [kZ 159 (zx),kZ 159 (zx),kZ 159 (zy),kZ 159 (zy),PK.fresh 2,PK.fresh 2,kPutZ 4 159 (zx),kPutZ 5 159 (zy)] [[],[0],[],[2],[],[],[4,1],[5,3]] [7,8,9,10,5,6,999,999] [] [] ?_ ?_
 ·
   refine ai f1_0 e2_0 ?_; refine aa rfl rfl (ae rfl rfl fun hC h1=>tz (r2_norm ((rr h1).zc (by decide)) (by decide))) ?_; refine ai f2_0 e3_0 ?_; refine aa rfl rfl (ae rfl rfl fun hC h1=>tz (r2_norm ((rr h1).zc (by decide)) (by decide))) ?_; refine au ?_; refine au ?_; refine bc ?_; refine bc ?_; exact ag rfl
 intro W_1 x a_1 hC hall ha hN_1 hD_1 bb_1
 obtain ⟨g5,hx,l5_1⟩:=dl (lr hall 6)
 have e5_1:=(an (t:=5) (i:=4) ha).trans hx
 clear hx
 obtain ⟨g6,hx,l6_1⟩:=dl (lr hall 7)
 have e6_1:=(an (t:=6) (i:=5) ha).trans hx
 clear hx
 have q5_1:=l5_1.atR
 clear l5_1
 have q6_1:=l6_1.atR
 clear l6_1
 repeat first | apply lk | apply ll
 refine wp_block ?_
 repeat first | apply lk | apply ll
 refine ld bb_1 [lf g5 0,lh,lh,li,li,li,lh,lh] [[],[0],[1],[],[3],[4],[2,5],[6]] [12,13,14,15,16,17,18,11] [(2,false)] [3,4,5] ?_ ?_
 ·
   refine p01 e5_1 ?_; refine aq (s:=false) q5_1 hx ?_; refine p10 ?_; refine ah rfl ?_; refine ah rfl ?_; refine ah rfl ?_; refine p20 ?_; refine p10 ?_; exact ag rfl
 intro W_2 x a_2 hC hall ha hN_2 hD_2 bb_2
 have e5_2:=ab ha e5_1
 have e6_2:=ab ha e6_1
 have q5_2:=hC.at0 q5_1
 have q6_2:=hC.at0 q6_1
 have e11_2:=le ha hall 11 7
 repeat first | apply lk | apply ll
 refine wp_cond_false e11_2 ?_
 repeat first | apply lk | apply ll
 refine ld bb_2 [lf g5 0,lh,lg,lg,lf g6 0,lg,lg,lg] [[],[0],[1],[2],[],[4],[3,5],[6]] [20,21,22,23,24,25,26,19] [(3,true)] [] ?_ ?_
 ·
   refine p01 e5_2 ?_; refine aq (s:=false) q5_2 hx ?_; refine p10 ?_; refine p10 ?_; refine p01 e6_2 ?_; refine aq (s:=true) q6_2 hy ?_; refine p20 ?_; refine p10 ?_; exact ag rfl
 intro W_3 x a_3 hC hall ha hN_3 hD_3 bb_3
 have e19_3:=le ha hall 19 7
 repeat first | apply lk | apply ll
 refine wp_cond_true e19_3 ?_
 repeat first | apply lk | apply ll
 refine ld bb_3 [kIs (.int .i64 (1))] [[]] [4] [] [] ?_ ?_
 ·
   refine p00 ?_; exact ag rfl
 intro W x a1 hC hall ha hN1 hD1 bb1
 have e1:=le ha hall 4 0
 repeat first | apply lk | apply ll
 refine wp_ret ?_
 repeat (first | refine then_r ?_ | refine gt ?_)
 exact bi (t:=4) rfl hD1 e1 ⟨rfl,bb1⟩
theorem r2_cmp_nnX {w : World} {v1 v2 : Value} {zx zy : Int} (hx : decide (zx < 0) = true) (hy : decide (zy < 0) = true) (h1 : Zr w v1 159 (zx)) (h2 : Zr w v2 159 (zy)) :
   Calls Tryz.prog 72 #[v1,v2] w (fun e w'=>e = .returned (.int .i64 (ordI ((zy).natAbs : Int) ((zx).natAbs : Int))) ∧ Below w.heap.size w w'):=by
 have U1:=Lib.hid h1.lt
 obtain ⟨y1,z1,rfl,H1⟩:=h1.op
 have U2:=Lib.hid h2.lt
 obtain ⟨y2,z2,rfl,H2⟩:=h2.op
 go_enter Tryz.func72,Tryz.ntmps72
 repeat apply wp_seq
 refine ls fun K HK=>?_
 go_wp2
 refine HK.out _ _ (then_n ?_)
 refine lq (G:=fun W=>Code.wp _ _ _ _ W) ?_
 intro W_0 bb_0 K0 K1
 have f1_0:=H1.out _ _ _ bb_0 K0
 have f2_0:=H2.out _ _ _ bb_0 K1
 clear K0 K1
 refine lm (G:=fun a=>Code.wp _ _ _ a _) 40 ?_
 intro a_0 ha hN_0 hD_0
 have e2_0:=lj ha 2 w.heap.size
 have e3_0:=lj ha 3 (w.heap.size + 1)
 repeat first | apply lk | apply ll
 refine ld bb_0 [kZ 159 (zx),kZ 159 (zx),kZ 159 (zy),kZ 159 (zy),PK.fresh 2,PK.fresh 2,kPutZ 4 159 (zx),kPutZ 5 159 (zy)] [[],[0],[],[2],[],[],[4,1],[5,3]] [7,8,9,10,5,6,999,999] [] [] ?_ ?_
 ·
   refine ai f1_0 e2_0 ?_; refine aa rfl rfl (ae rfl rfl fun hC h1=>tz (r2_norm ((rr h1).zc (by decide)) (by decide))) ?_; refine ai f2_0 e3_0 ?_; refine aa rfl rfl (ae rfl rfl fun hC h1=>tz (r2_norm ((rr h1).zc (by decide)) (by decide))) ?_; refine au ?_; refine au ?_; refine bc ?_; refine bc ?_; exact ag rfl
 intro W_1 x a_1 hC hall ha hN_1 hD_1 bb_1
 obtain ⟨g5,hx,l5_1⟩:=dl (lr hall 6)
 have e5_1:=(an (t:=5) (i:=4) ha).trans hx
 clear hx
 obtain ⟨g6,hx,l6_1⟩:=dl (lr hall 7)
 have e6_1:=(an (t:=6) (i:=5) ha).trans hx
 clear hx
 have q5_1:=l5_1.atR
 clear l5_1
 have q6_1:=l6_1.atR
 clear l6_1
 repeat first | apply lk | apply ll
 refine wp_block ?_
 repeat first | apply lk | apply ll
 refine ld bb_1 [lf g5 0,lg,lg,lf g6 0,lg,lh,lh,lh] [[],[0],[1],[],[3],[4],[2,5],[6]] [12,13,14,15,16,17,18,11] [(2,true)] [] ?_ ?_
 ·
   refine p01 e5_1 ?_; refine aq (s:=true) q5_1 hx ?_; refine p10 ?_; refine p01 e6_1 ?_; refine aq (s:=true) q6_1 hy ?_; refine p10 ?_; refine p20 ?_; refine p10 ?_; exact ag rfl
 intro W_2 x a_2 hC hall ha hN_2 hD_2 bb_2
 have e5_2:=ab ha e5_1
 have e6_2:=ab ha e6_1
 have q5_2:=hC.at0 q5_1
 have q6_2:=hC.at0 q6_1
 have e11_2:=le ha hall 11 7
 repeat first | apply lk | apply ll
 refine wp_cond_false e11_2 ?_
 repeat first | apply lk | apply ll
 refine ld bb_2 [lf g5 0,lg,lh,lh,li,li,lh,lh] [[],[0],[1],[2],[],[4],[3,5],[6]] [20,21,22,23,24,25,26,19] [(3,false)] [4,5] ?_ ?_
 ·
   refine p01 e5_2 ?_; refine aq (s:=true) q5_2 hx ?_; refine p10 ?_; refine p10 ?_; refine ah rfl ?_; refine ah rfl ?_; refine p20 ?_; refine p10 ?_; exact ag rfl
 intro W_3 x a_3 hC hall ha hN_3 hD_3 bb_3
 have e5_3:=ab ha e5_2
 have e6_3:=ab ha e6_2
 have q5_3:=hC.at0 q5_2
 have q6_3:=hC.at0 q6_2
 have e19_3:=le ha hall 19 7
 repeat first | apply lk | apply ll
 refine wp_cond_false e19_3 ?_
 repeat first | apply lk | apply ll
 refine ld bb_3 [lf g5 0,lg,lg] [[],[0],[1]] [28,29,27] [] [] ?_ ?_
 ·
   refine p01 e5_3 ?_; refine aq (s:=true) q5_3 hx ?_; refine p10 ?_; exact ag rfl
 intro W_4 x a_4 hC hall ha hN_4 hD_4 bb_4
 have e5_4:=ab ha e5_3
 have e6_4:=ab ha e6_3
 have q5_4:=hC.at0 q5_3
 have q6_4:=hC.at0 q6_3
 have e27_4:=le ha hall 27 2
 repeat first | apply lk | apply ll
 refine wp_cond_true e27_4 ?_
 repeat first | apply lk | apply ll
 refine ld bb_4 [lf g6 1,kRow (zy),lf g5 1,kRow (zx),kIs (.int .i64 (ordI ((zy).natAbs : Int) ((zx).natAbs : Int))),kIs (.int .i64 (ordI ((zy).natAbs : Int) ((zx).natAbs : Int)))] [[],[0],[],[2],[1,3],[4]] [30,31,32,33,34,4] [] [] ?_ ?_
 ·
   refine p01 e6_4 ?_; refine aa rfl rfl (ar q6_4 rfl rfl) ?_; refine p01 e5_4 ?_; refine aa rfl rfl (ar q5_4 rfl rfl) ?_; refine aa rfl rfl (ap rfl rfl rfl fun hC h1 h2=>ti (vr_cmp (N:=159) h1 h2 U2.out U1.out (by decide))) ?_; refine p10 ?_; exact ag rfl
 intro W x a1 hC hall ha hN1 hD1 bb1
 have e1:=le ha hall 4 5
 repeat first | apply lk | apply ll
 refine wp_ret ?_
 repeat (first | refine then_r ?_ | refine gt ?_)
 exact bi (t:=4) rfl hD1 e1 ⟨rfl,bb1⟩
theorem r2_cmp_ppX {w : World} {v1 v2 : Value} {zx zy : Int} (hx : decide (zx < 0) = false) (hy : decide (zy < 0) = false) (h1 : Zr w v1 159 (zx)) (h2 : Zr w v2 159 (zy)) :
   Calls Tryz.prog 72 #[v1,v2] w (fun e w'=>e = .returned (.int .i64 (ordI ((zx).natAbs : Int) ((zy).natAbs : Int))) ∧ Below w.heap.size w w'):=by
 have U1:=Lib.hid h1.lt
 obtain ⟨y1,z1,rfl,H1⟩:=h1.op
 have U2:=Lib.hid h2.lt
 obtain ⟨y2,z2,rfl,H2⟩:=h2.op
 go_enter Tryz.func72,Tryz.ntmps72
 repeat apply wp_seq
 refine ls fun K HK=>?_
 go_wp2
 refine HK.out _ _ (then_n ?_)
 refine lq (G:=fun W=>Code.wp _ _ _ _ W) ?_
 intro W_0 bb_0 K0 K1
 have f1_0:=H1.out _ _ _ bb_0 K0
 have f2_0:=H2.out _ _ _ bb_0 K1
 clear K0 K1
 refine lm (G:=fun a=>Code.wp _ _ _ a _) 40 ?_
 intro a_0 ha hN_0 hD_0
 have e2_0:=lj ha 2 w.heap.size
 have e3_0:=lj ha 3 (w.heap.size + 1)
 repeat first | apply lk | apply ll
 refine ld bb_0 [kZ 159 (zx),kZ 159 (zx),kZ 159 (zy),kZ 159 (zy),PK.fresh 2,PK.fresh 2,kPutZ 4 159 (zx),kPutZ 5 159 (zy)] [[],[0],[],[2],[],[],[4,1],[5,3]] [7,8,9,10,5,6,999,999] [] [] ?_ ?_
 ·
   refine ai f1_0 e2_0 ?_; refine aa rfl rfl (ae rfl rfl fun hC h1=>tz (r2_norm ((rr h1).zc (by decide)) (by decide))) ?_; refine ai f2_0 e3_0 ?_; refine aa rfl rfl (ae rfl rfl fun hC h1=>tz (r2_norm ((rr h1).zc (by decide)) (by decide))) ?_; refine au ?_; refine au ?_; refine bc ?_; refine bc ?_; exact ag rfl
 intro W_1 x a_1 hC hall ha hN_1 hD_1 bb_1
 obtain ⟨g5,hx,l5_1⟩:=dl (lr hall 6)
 have e5_1:=(an (t:=5) (i:=4) ha).trans hx
 clear hx
 obtain ⟨g6,hx,l6_1⟩:=dl (lr hall 7)
 have e6_1:=(an (t:=6) (i:=5) ha).trans hx
 clear hx
 have q5_1:=l5_1.atR
 clear l5_1
 have q6_1:=l6_1.atR
 clear l6_1
 repeat first | apply lk | apply ll
 refine wp_block ?_
 repeat first | apply lk | apply ll
 refine ld bb_1 [lf g5 0,lh,lh,li,li,li,lh,lh] [[],[0],[1],[],[3],[4],[2,5],[6]] [12,13,14,15,16,17,18,11] [(2,false)] [3,4,5] ?_ ?_
 ·
   refine p01 e5_1 ?_; refine aq (s:=false) q5_1 hx ?_; refine p10 ?_; refine ah rfl ?_; refine ah rfl ?_; refine ah rfl ?_; refine p20 ?_; refine p10 ?_; exact ag rfl
 intro W_2 x a_2 hC hall ha hN_2 hD_2 bb_2
 have e5_2:=ab ha e5_1
 have e6_2:=ab ha e6_1
 have q5_2:=hC.at0 q5_1
 have q6_2:=hC.at0 q6_1
 have e11_2:=le ha hall 11 7
 repeat first | apply lk | apply ll
 refine wp_cond_false e11_2 ?_
 repeat first | apply lk | apply ll
 refine ld bb_2 [lf g5 0,lh,lg,lg,lf g6 0,lh,lh,lh] [[],[0],[1],[2],[],[4],[3,5],[6]] [20,21,22,23,24,25,26,19] [(3,true)] [] ?_ ?_
 ·
   refine p01 e5_2 ?_; refine aq (s:=false) q5_2 hx ?_; refine p10 ?_; refine p10 ?_; refine p01 e6_2 ?_; refine aq (s:=false) q6_2 hy ?_; refine p20 ?_; refine p10 ?_; exact ag rfl
 intro W_3 x a_3 hC hall ha hN_3 hD_3 bb_3
 have e5_3:=ab ha e5_2
 have e6_3:=ab ha e6_2
 have q5_3:=hC.at0 q5_2
 have q6_3:=hC.at0 q6_2
 have e19_3:=le ha hall 19 7
 repeat first | apply lk | apply ll
 refine wp_cond_false e19_3 ?_
 repeat first | apply lk | apply ll
 refine ld bb_3 [lf g5 0,lh,lh] [[],[0],[1]] [28,29,27] [] [] ?_ ?_
 ·
   refine p01 e5_3 ?_; refine aq (s:=false) q5_3 hx ?_; refine p10 ?_; exact ag rfl
 intro W_4 x a_4 hC hall ha hN_4 hD_4 bb_4
 have e5_4:=ab ha e5_3
 have e6_4:=ab ha e6_3
 have q5_4:=hC.at0 q5_3
 have q6_4:=hC.at0 q6_3
 have e27_4:=le ha hall 27 2
 repeat first | apply lk | apply ll
 refine wp_cond_false e27_4 ?_
 repeat first | apply lk | apply ll
 refine wp_skip ?_
 refine in_block8 ?_
 refine then_n ?_
 repeat first | apply lk | apply ll
 refine ld bb_4 [lf g5 1,kRow (zx),lf g6 1,kRow (zy),kIs (.int .i64 (ordI ((zx).natAbs : Int) ((zy).natAbs : Int))),kIs (.int .i64 (ordI ((zx).natAbs : Int) ((zy).natAbs : Int)))] [[],[0],[],[2],[1,3],[4]] [35,36,37,38,39,4] [] [] ?_ ?_
 ·
   refine p01 e5_4 ?_; refine aa rfl rfl (ar q5_4 rfl rfl) ?_; refine p01 e6_4 ?_; refine aa rfl rfl (ar q6_4 rfl rfl) ?_; refine aa rfl rfl (ap rfl rfl rfl fun hC h1 h2=>ti (vr_cmp (N:=159) h1 h2 U1.out U2.out (by decide))) ?_; refine p10 ?_; exact ag rfl
 intro W x a1 hC hall ha hN1 hD1 bb1
 have e1:=le ha hall 4 5
 repeat first | apply lk | apply ll
 refine wp_ret ?_
 repeat (first | refine then_r ?_ | refine gt ?_)
 exact bi (t:=4) rfl hD1 e1 ⟨rfl,bb1⟩
theorem r2_cmpX {w : World} {v1 v2 : Value} {x y : Int} (h1 : Zr w v1 159 x) (h2 : Zr w v2 159 y) : Calls Tryz.prog 72 #[v1,v2] w fun e w'=>e = .returned (.int .i64 (ordI x y)) ∧ Below w.heap.size w w':=by
 by_cases hx : x < 0 <;> by_cases hy : y < 0
 · have e : ordI ((y).natAbs : Int) ((x).natAbs : Int) = ordI x y:=by unfold ordI; split <;> split <;> (try split) <;> (try split) <;> omega
   rw [← e]; exact r2_cmp_nnX (decide_eq_true hx) (decide_eq_true hy) h1 h2
 · rw [ord_lt (show x < y by omega)]; exact r2_cmp_npX (decide_eq_true hx) (decide_eq_false hy) h1 h2
 · rw [ord_gt (show y < x by omega)]; exact r2_cmp_pnX (decide_eq_false hx) (decide_eq_true hy) h1 h2
 · have e : ordI ((x).natAbs : Int) ((y).natAbs : Int) = ordI x y:=by unfold ordI; split <;> split <;> (try split) <;> (try split) <;> omega
   rw [← e]; exact r2_cmp_ppX (decide_eq_false hx) (decide_eq_false hy) h1 h2
def TellsDMX (w : World) (q r : Int) (e : Ending) (w' : World) : Prop:=∃ v v',e = .returned (.tuple #[v,v',.int .i64 (0)]) ∧ Zr w' v 160 q ∧ Zr w' v' 160 r ∧ Below w.heap.size w w'
def Mul2X (a b : Int) : Prop:=a.natAbs < 1000000000 ^ 159 ∧ (a * b).natAbs < 1000000000 ^ 159
theorem r2_mul2X {w : World} {v : Value} {S0 : Nat} {x : Nat → Value} {j k : Nat} {a b : Int} (h : (kZRs [(j,a),(k,b)]).sem S0 x v w) (hm : Mul2X a b) (hj : j ≤ 159:=by decide) (hk : k ≤ 159:=by decide) : Calls Tryz.prog 50 #[v] w (TellsZ w 159 (a * b)):=by
 obtain ⟨g,e,_,h2,h3⟩:=h
 have h:=r2_mulX (l:=[(j,a),(k,b)]) ⟨g,e,h2,h3⟩ (fun q hq=>by
   rcases List.mem_cons.1 hq with h | h
   · rw [h]; exact hj
   · rw [List.mem_singleton.1 h]; exact hk) (by simp) (fun i hi=>by
   have hi2 : i ≤ 2:=hi; have h3 : i = 0 ∨ i = 1 ∨ i = 2:=by omega
   rcases h3 with rfl | rfl | rfl
   · exact (by decide : (1 : Int).natAbs < 1000000000 ^ 159)
   · simpa [qprod] using hm.1
   · simpa [qprod] using hm.2)
 simpa [qprod] using h
section
theorem r2_div_AX {w : World} {v1 v2 : Value} {x y : Int} (hy : ¬ y = 0) (hq19 : (((x.natAbs / y.natAbs : Nat) : Int)).natAbs < 1000000000 ^ 79) (hm39 : Mul2X (zOf (x.natAbs / y.natAbs) (decide (x < 0) != decide (y < 0))) y) (hr19 : ((x - (zOf (x.natAbs / y.natAbs) (decide (x < 0) != decide (y < 0))) * y)).natAbs < 1000000000 ^ 79) (hr0 : decide ((x - (zOf (x.natAbs / y.natAbs) (decide (x < 0) != decide (y < 0))) * y) ≠ 0) = false) (h1 : Zr w v1 79 x) (h2 : Zr w v2 79 y) :
   Calls Tryz.prog 75 #[v1,v2] w (TellsDMX w (zOf (x.natAbs / y.natAbs) (decide (x < 0) != decide (y < 0))) (x - (zOf (x.natAbs / y.natAbs) (decide (x < 0) != decide (y < 0))) * y)):=by
 obtain ⟨qq,hqq⟩ : ∃ u,u = (zOf (x.natAbs / y.natAbs) (decide (x < 0) != decide (y < 0))):=⟨_,rfl⟩
 obtain ⟨rr_,hrr⟩ : ∃ u,u = (x - (zOf (x.natAbs / y.natAbs) (decide (x < 0) != decide (y < 0))) * y):=⟨_,rfl⟩
 rw [← hrr,← hqq]
 have HQ:=Lib.hid (And.intro hqq hrr)
 clear hqq hrr
 obtain ⟨A1,l1,c1,rfl,r1,u1⟩:=h1
 obtain ⟨b1,hb1⟩ : ∃ s,s = decide (x < 0):=⟨_,rfl⟩
 have H1:=Lib.hid (show _ ∧ _ ∧ _ from ⟨hb1,r1,u1⟩)
 obtain ⟨A2,l2,c2,rfl,r2,u2⟩:=h2
 obtain ⟨b2,hb2⟩ : ∃ s,s = decide (y < 0):=⟨_,rfl⟩
 have H2:=Lib.hid (show _ ∧ _ ∧ _ from ⟨hb2,r2,u2⟩)
 show Calls _ _ #[.agg #[.bool (decide (x < 0)),.slice A1 l1 c1],.agg #[.bool (decide (y < 0)),.slice A2 l2 c2]] _ _
 rw [← hb1,← hb2]
 clear hb1 r1 u1 hb2 r2 u2
 go_enter Tryz.func75,Tryz.ntmps75
 repeat apply wp_seq
 refine ls fun K HK=>?_
 go_wp2
 refine HK.out _ _ (then_n ?_)
 obtain ⟨W_0,hW⟩ : ∃ W,W = (((w.alloc (Obj.cells #[Value.bool b1,Value.slice A1 l1 c1] 24)).alloc (Obj.cells #[Value.bool b2,Value.slice A2 l2 c2] 24)).alloc (Obj.cells #[Value.bool false,Value.slice none 0 0] 24)).alloc (Obj.cells #[Value.bool false,Value.slice none 0 0] 24):=⟨_,rfl⟩
 have bb_0 : Below w.heap.size w W_0:=by rw [hW]; exact bal (bal (bal (bal (Below.refl _ _) _) _) _) _
 have K0 : W_0.heap[w.heap.size]? = some (Obj.cells #[Value.bool b1,Value.slice A1 l1 c1] 24):=by rw [hW]; rw [Below.heap_alloc _ _ _ (by simp <;> omega)]; rw [Below.heap_alloc _ _ _ (by simp <;> omega)]; rw [Below.heap_alloc _ _ _ (by simp <;> omega)]; exact new_at (by simp)
 have K1 : W_0.heap[w.heap.size + 1]? = some (Obj.cells #[Value.bool b2,Value.slice A2 l2 c2] 24):=by rw [hW]; rw [Below.heap_alloc _ _ _ (by simp <;> omega)]; rw [Below.heap_alloc _ _ _ (by simp <;> omega)]; exact new_at (by simp)
 have K2 : W_0.heap[w.heap.size + 1 + 1]? = some (Obj.cells #[Value.bool false,Value.slice none 0 0] 24):=by rw [hW]; rw [Below.heap_alloc _ _ _ (by simp <;> omega)]; exact new_at (by simp)
 have K3 : W_0.heap[w.heap.size + 1 + 1 + 1]? = some (Obj.cells #[Value.bool false,Value.slice none 0 0] 24):=by rw [hW]; exact new_at (by simp)
 rw [← hW]
 obtain ⟨m1,n1,_,_⟩:=cell_of_two K0
 have f1_0 : AtR W_0 (w.heap.size) 0 79 x:=⟨A1,l1,c1,by rw [← H1.out.1]; exact m1,n1,A1,l1,c1,rfl,H1.out.2.1.below bb_0,H1.out.2.2⟩
 obtain ⟨m2,n2,_,_⟩:=cell_of_two K1
 have f2_0 : AtR W_0 (w.heap.size + 1) 0 79 y:=⟨A2,l2,c2,by rw [← H2.out.1]; exact m2,n2,A2,l2,c2,rfl,H2.out.2.1.below bb_0,H2.out.2.2⟩
 have R4_0:=lc K2
 have R5_0:=lc K3
 clear hW K0 K1 K2 K3 m1 n1 m2 n2
 refine lm (G:=fun a=>Code.wp _ _ _ a _) 65 ?_
 intro a_0 ha hN_0 hD_0
 have e2_0:=lj ha 2 w.heap.size
 have e3_0:=lj ha 3 (w.heap.size + 1)
 have e4_0:=lj ha 4 (w.heap.size + 1 + 1)
 have e5_0:=lj ha 5 (w.heap.size + 1 + 1 + 1)
 repeat first | apply lk | apply ll
 refine ld bb_0 [kZ 79 x,kZ 79 x,kZ 79 y,kZ 79 y,PK.fresh 2,PK.fresh 2,kPutZ 4 79 x,kPutZ 5 79 y] [[],[0],[],[2],[],[],[4,1],[5,3]] [14,15,16,17,7,8,999,999] [] [] ?_ ?_
 ·
   refine ai f1_0 e2_0 ?_; refine aa rfl rfl (ae rfl rfl fun hC h1=>tz (r2_norm ((rr h1).zc (by decide)) (by decide))) ?_; refine ai f2_0 e3_0 ?_; refine aa rfl rfl (ae rfl rfl fun hC h1=>tz (r2_norm ((rr h1).zc (by decide)) (by decide))) ?_; refine au ?_; refine au ?_; refine bc ?_; refine bc ?_; exact ag rfl
 intro W_1 z a_1 hC hall ha hN_1 hD_1 bb_1
 obtain ⟨g7,hx7,hge7,hl7⟩:=cb (lr hall 6)
 obtain ⟨g8,hx8,hge8,hl8⟩:=cb (lr hall 7)
 have d7:=Nat.lt_of_lt_of_le R5_0.lt hge7
 have d8:=Nat.lt_of_lt_of_le R5_0.lt hge8
 have e4_1:=ab ha e4_0
 have e5_1:=ab ha e5_0
 have e7_1:=(an (t:=7) (i:=4) ha).trans (hx7)
 have e8_1:=(an (t:=8) (i:=5) ha).trans (hx8)
 have R4_1:=hC.holds R4_0
 have R5_1:=hC.holds R5_0
 have x7_1:=hl7
 have x8_1:=hl8
 clear hx7 hx8 hge7 hge8 hl7 hl8 hC hall
 repeat first | apply lk | apply ll
 refine ld bb_1 [lf g8 1,kRow y,kLen y,lh] [[],[0],[1],[2]] [18,19,20,21] [] [] ?_ ?_
 ·
   refine p01 e8_1 ?_; refine aa rfl rfl (ar x8_1.atR rfl rfl) ?_; refine aa rfl rfl (ge rfl rfl) ?_; refine aa rfl rfl (st_len0 (decide_eq_false hy) rfl rfl) ?_; exact ag rfl
 intro W_2 z a_2 hC hall ha hN_2 hD_2 bb_2
 have e4_2:=ab ha e4_1
 have e5_2:=ab ha e5_1
 have e7_2:=ab ha e7_1
 have e8_2:=ab ha e8_1
 have e21_2:=le ha hall 21 3
 have R4_2:=hC.holds R4_1
 have R5_2:=hC.holds R5_1
 have x7_2:=hC.locR x7_1
 have x8_2:=hC.locR x8_1
 clear hC hall
 refine wp_cond_false e21_2 ?_
 refine wp_skip ?_
 refine then_n ?_
 clear e21_2
 repeat first | apply lk | apply ll
 refine ld bb_2 [lf g7 1,kRow x,lf g8 1,kRow y,kRRB ((x.natAbs / y.natAbs : Nat) : Int) ((x.natAbs % y.natAbs : Nat) : Int),kRRB ((x.natAbs / y.natAbs : Nat) : Int) ((x.natAbs % y.natAbs : Nat) : Int),kRow ((x.natAbs / y.natAbs : Nat) : Int),kRow ((x.natAbs % y.natAbs : Nat) : Int),lg,kRow ((x.natAbs / y.natAbs : Nat) : Int),kRow ((x.natAbs % y.natAbs : Nat) : Int),lg] [[],[0],[],[2],[1,3],[4],[5],[5],[5],[6],[7],[8]] [25,26,27,28,29,24,30,31,32,9,10,11] [] [] ?_ ?_
 ·
   refine p01 e7_2 ?_; refine aa rfl rfl (ar x7_2.atR rfl rfl) ?_; refine p01 e8_2 ?_; refine aa rfl rfl (ar x8_2.atR rfl rfl) ?_; refine aa rfl rfl (ap rfl rfl rfl fun hC h1 h2=>r1_div (N:=79) h1 h2 H1.out.2.2 H2.out.2.2 (by decide) (Int.natAbs_pos.2 hy)) ?_; refine aa rfl rfl (cw rfl rfl) ?_; refine bf ext_d0 ?_; refine bf ext_d1 ?_; refine bf ext_d2 ?_; refine aa rfl rfl (fb rfl rfl) ?_; refine aa rfl rfl (fb rfl rfl) ?_; refine p10 ?_; exact ag rfl
 intro W_3 z a_3 hC hall ha hN_3 hD_3 bb_3
 obtain ⟨v9,hv9⟩ : ∃ v,v = z 9:=⟨_,rfl⟩
 have e4_3:=ab ha e4_2
 have e5_3:=ab ha e5_2
 have e7_3:=ab ha e7_2
 have e8_3:=ab ha e8_2
 have e9_3:=(an (t:=9) (i:=9) ha).trans (hv9.symm)
 have R4_3:=hC.holds R4_2
 have R5_3:=hC.holds R5_2
 have x7_3:=hC.locR x7_2
 have x8_3:=hC.locR x8_2
 have z9_3 : Rr W_3 v9 (((x.natAbs / y.natAbs : Nat) : Int)).natAbs:=by rw [hv9]; exact hall 9 (of_decide_eq_true (by kernel_rfl))
 clear hC hall hv9
 repeat first | apply lk | apply ll
 refine ld bb_3 [lf g7 0,kIs (.bool (decide (x < 0))),lf g8 0,kIs (.bool (decide (y < 0))),kIs (.bool (decide (x < 0) != decide (y < 0))),kRow ((x.natAbs / y.natAbs : Nat) : Int),kZ 79 (zOf (x.natAbs / y.natAbs) (decide (x < 0) != decide (y < 0))),PK.fresh 2,kPutZ 7 79 (zOf (x.natAbs / y.natAbs) (decide (x < 0) != decide (y < 0)))] [[],[0],[],[2],[1,3],[],[4,5],[],[7,6]] [33,34,35,36,37,38,39,12,999] [] [] ?_ ?_
 ·
   refine p01 e7_3 ?_; refine aq (s:=decide (x < 0)) x7_3.atR rfl ?_; refine p01 e8_3 ?_; refine aq (s:=decide (y < 0)) x8_3.atR rfl ?_; refine p20 ?_; refine aa rfl rfl (eh e9_3 z9_3 (fun w hC=>hC.rr z9_3) rfl) ?_; refine aa rfl rfl (ap rfl rfl rfl fun hC h1 h2=>tz (r2_mkB h1 h2 hq19 (by decide))) ?_; refine au ?_; refine bc ?_; exact ag rfl
 intro W_4 z a_4 hC hall ha hN_4 hD_4 bb_4
 obtain ⟨g12,hx,hge,hl⟩:=cb (lr hall 8)
 have d12 : w.heap.size + 1 + 1 + 1 < g12 ∧ g7 < g12 ∧ g8 < g12:=⟨Nat.lt_of_lt_of_le R5_3.lt hge,Nat.lt_of_lt_of_le (loc_lt x7_3) hge,Nat.lt_of_lt_of_le (loc_lt x8_3) hge⟩
 have e4_4:=ab ha e4_3
 have e5_4:=ab ha e5_3
 have e7_4:=ab ha e7_3
 have e8_4:=ab ha e8_3
 have e12_4:=(an (t:=12) (i:=7) ha).trans (hx)
 have R4_4:=hC.holds R4_3
 have R5_4:=hC.holds R5_3
 have x7_4:=hC.locR x7_3
 have x8_4:=hC.locR x8_3
 have x12_4:=hl
 clear hx hge hl hC hall
 repeat first | apply lk | apply ll
 refine ld bb_4 [kZ 79 x,kZ 79 (zOf (x.natAbs / y.natAbs) (decide (x < 0) != decide (y < 0))),kZ 79 y,kZRs [(79,(zOf (x.natAbs / y.natAbs) (decide (x < 0) != decide (y < 0)))),(79,y)],kZ 159 ((zOf (x.natAbs / y.natAbs) (decide (x < 0) != decide (y < 0))) * y),kZ 160 (x - (zOf (x.natAbs / y.natAbs) (decide (x < 0) != decide (y < 0))) * y),PK.fresh 2,kPutZ 6 160 (x - (zOf (x.natAbs / y.natAbs) (decide (x < 0) != decide (y < 0))) * y)] [[],[],[],[1,2],[3],[0,4],[],[6,5]] [40,41,42,43,44,45,13,999] [] [] ?_ ?_
 ·
   refine ai x7_4.atR e7_4 ?_; refine ai x12_4.atR e12_4 ?_; refine ai x8_4.atR e8_4 ?_; refine aa rfl rfl (eb rfl rfl rfl) ?_; refine aa rfl rfl (ae rfl rfl fun hC h1=>tz (r2_mul2X h1 hm39)) ?_; refine aa rfl rfl (ap rfl rfl rfl fun hC h1 h2=>tz (r2_subM (M:=159) (Lib.hid (by decide)) ((rr h1).mono (by decide)) (rr h2))) ?_; refine au ?_; refine bc ?_; exact ag rfl
 intro W_5 z a_5 hC hall ha hN_5 hD_5 bb_5
 obtain ⟨g13,hx,hge,hl⟩:=cb (lr hall 7)
 have d13 : w.heap.size + 1 + 1 + 1 < g13 ∧ g7 < g13 ∧ g8 < g13 ∧ g12 < g13:=⟨Nat.lt_of_lt_of_le R5_4.lt hge,Nat.lt_of_lt_of_le (loc_lt x7_4) hge,Nat.lt_of_lt_of_le (loc_lt x8_4) hge,Nat.lt_of_lt_of_le (loc_lt x12_4) hge⟩
 have e4_5:=ab ha e4_4
 have e5_5:=ab ha e5_4
 have e12_5:=ab ha e12_4
 have e13_5:=(an (t:=13) (i:=6) ha).trans (hx)
 have R4_5:=hC.holds R4_4
 have R5_5:=hC.holds R5_4
 have x12_5:=hC.locR x12_4
 have x13_5 : LocR W_5 g13 79 (x - (zOf (x.natAbs / y.natAbs) (decide (x < 0) != decide (y < 0))) * y):=hl.tight hr19
 clear hx hge hl hC hall
 repeat first | apply lk | apply ll
 refine ld bb_5 [lf g13 1,kRow (x - (zOf (x.natAbs / y.natAbs) (decide (x < 0) != decide (y < 0))) * y),kLen (x - (zOf (x.natAbs / y.natAbs) (decide (x < 0) != decide (y < 0))) * y),lh,lh,li,li,li,li,li,lh] [[],[0],[1],[2],[3],[],[5],[],[7],[6,8],[4,9]] [46,47,48,49,50,51,52,53,54,55,56] [(4,false)] [5,6,7,8,9] ?_ ?_
 ·
   refine p01 e13_5 ?_; refine aa rfl rfl (ar x13_5.atR rfl rfl) ?_; refine aa rfl rfl (ge rfl rfl) ?_; refine aa rfl rfl (st_lenG hr0 rfl rfl) ?_; refine p10 ?_; refine ah rfl ?_; refine ah rfl ?_; refine ah rfl ?_; refine ah rfl ?_; refine ah rfl ?_; refine p20 ?_; exact ag rfl
 intro W_6 z a_6 hC hall ha hN_6 hD_6 bb_6
 have e4_6:=ab ha e4_5
 have e5_6:=ab ha e5_5
 have e12_6:=ab ha e12_5
 have e13_6:=ab ha e13_5
 have e56_6:=le ha hall 56 10
 have R4_6:=hC.holds R4_5
 have R5_6:=hC.holds R5_5
 have x12_6:=hC.locR x12_5
 have x13_6:=hC.locR x13_5
 clear hC hall
 refine wp_cond_false e56_6 ?_
 clear e56_6
 refine wp_skip ?_
 refine then_n ?_
 repeat first | apply lk | apply ll
 refine az (hchk:=(by rw [hN_6]; kernel_rfl)) w.heap.size [kZ 79 (zOf (x.natAbs / y.natAbs) (decide (x < 0) != decide (y < 0))),kZ 79 (x - (zOf (x.natAbs / y.natAbs) (decide (x < 0) != decide (y < 0))) * y),kResZ (w.heap.size + 1 + 1) 79 (zOf (x.natAbs / y.natAbs) (decide (x < 0) != decide (y < 0))),kResZ (w.heap.size + 1 + 1 + 1) 79 (x - (zOf (x.natAbs / y.natAbs) (decide (x < 0) != decide (y < 0))) * y),kIs (.int .i64 (0))] [ [],[],[(0,some 63)],[(1,some 64)],[] ] [(0,some 63),(1,some 64),(2,none),(3,none),(4,some 6)] [] [] (show [w.heap.size + 1 + 1,w.heap.size + 1 + 1 + 1].Nodup by simp) (show ∀ g ∈ [w.heap.size + 1 + 1,w.heap.size + 1 + 1 + 1],w.heap.size ≤ g by simp; omega) bb_6.size ?_ ?_ ?_
 · intro g hg; have hg2 : g ∈ [w.heap.size + 1 + 1,w.heap.size + 1 + 1 + 1]:=hg; have hg' : g = w.heap.size + 1 + 1 ∨ g = w.heap.size + 1 + 1 + 1:=by simpa using hg2
   rcases hg' with rfl | rfl
   · exact ⟨_,R4_6⟩
   · exact ⟨_,R5_6⟩
 · show PkFrom _ _ _ _ (Reg _ _ [w.heap.size + 1 + 1,w.heap.size + 1 + 1 + 1]) _ _ _ _
   refine ai (hG:=(by simp only [List.mem_cons,List.not_mem_nil,or_false]; omega)) x12_6.atR e12_6 ?_; refine ai (hG:=(by simp only [List.mem_cons,List.not_mem_nil,or_false]; omega)) x13_6.atR e13_6 ?_; refine aa rfl rfl (ce R4_6 e4_6 rfl rfl) ?_; refine aa rfl rfl (ce R5_6 e5_6 rfl rfl) ?_; refine p00 ?_; exact ag rfl
 intro W_9 z hC hall
 refine then_n ?_
 have hC' : Reg w.heap.size W_6 [w.heap.size + 1 + 1,w.heap.size + 1 + 1 + 1] W_9:=hC
 obtain ⟨a1,ha⟩ : ∃ a,a = putE z a_6 [(0,some 63),(1,some 64),(2,none),(3,none),(4,some 6)]:=⟨_,rfl⟩
 rw [← ha]
 have hD1:=defers_behind ha hD_6
 have bb1:=bb_6.trans hC'.below
 have q1:=res_locR (show (kResZ (w.heap.size + 1 + 1) 79 (zOf (x.natAbs / y.natAbs) (decide (x < 0) != decide (y < 0)))).sem _ _ _ _ from hall 2 (of_decide_eq_true (by kernel_rfl)))
 have q2:=res_locR (show (kResZ (w.heap.size + 1 + 1 + 1) 79 (x - (zOf (x.natAbs / y.natAbs) (decide (x < 0) != decide (y < 0))) * y)).sem _ _ _ _ from hall 3 (of_decide_eq_true (by kernel_rfl)))
 have i4:=ab (t:=4) ha e4_6
 have i5:=ab (t:=5) ha e5_6
 have i6:=le ha hall 6 4
 repeat first | apply lk | apply ll
 refine wp_ret ?_
 repeat (refine then_r ?_)
 exact kw (t:=4) (t':=5) (u:=6) rfl hD1 i4 i5 i6 q1 q2 fun v v' hv hv'=>⟨v,v',rfl,by rw [HQ.out.1]; exact hv.mono (show 79 ≤ 160 by decide),by rw [HQ.out.2]; exact hv'.mono (show 79 ≤ 160 by decide),bb1⟩
theorem r2_div_BX {w : World} {v1 v2 : Value} {x y : Int} (hy : ¬ y = 0) (hq19 : (((x.natAbs / y.natAbs : Nat) : Int)).natAbs < 1000000000 ^ 79) (hm39 : Mul2X (zOf (x.natAbs / y.natAbs) (decide (x < 0) != decide (y < 0))) y) (hr19 : ((x - (zOf (x.natAbs / y.natAbs) (decide (x < 0) != decide (y < 0))) * y)).natAbs < 1000000000 ^ 79) (hr0 : decide ((x - (zOf (x.natAbs / y.natAbs) (decide (x < 0) != decide (y < 0))) * y) ≠ 0) = true) (hs : (decide ((x - (zOf (x.natAbs / y.natAbs) (decide (x < 0) != decide (y < 0))) * y) < 0) != decide (y < 0)) = false) (h1 : Zr w v1 79 x) (h2 : Zr w v2 79 y) :
   Calls Tryz.prog 75 #[v1,v2] w (TellsDMX w (zOf (x.natAbs / y.natAbs) (decide (x < 0) != decide (y < 0))) (x - (zOf (x.natAbs / y.natAbs) (decide (x < 0) != decide (y < 0))) * y)):=by
 obtain ⟨qq,hqq⟩ : ∃ u,u = (zOf (x.natAbs / y.natAbs) (decide (x < 0) != decide (y < 0))):=⟨_,rfl⟩
 obtain ⟨rr_,hrr⟩ : ∃ u,u = (x - (zOf (x.natAbs / y.natAbs) (decide (x < 0) != decide (y < 0))) * y):=⟨_,rfl⟩
 rw [← hrr,← hqq]
 have HQ:=Lib.hid (And.intro hqq hrr)
 clear hqq hrr
 obtain ⟨A1,l1,c1,rfl,r1,u1⟩:=h1
 obtain ⟨b1,hb1⟩ : ∃ s,s = decide (x < 0):=⟨_,rfl⟩
 have H1:=Lib.hid (show _ ∧ _ ∧ _ from ⟨hb1,r1,u1⟩)
 obtain ⟨A2,l2,c2,rfl,r2,u2⟩:=h2
 obtain ⟨b2,hb2⟩ : ∃ s,s = decide (y < 0):=⟨_,rfl⟩
 have H2:=Lib.hid (show _ ∧ _ ∧ _ from ⟨hb2,r2,u2⟩)
 show Calls _ _ #[.agg #[.bool (decide (x < 0)),.slice A1 l1 c1],.agg #[.bool (decide (y < 0)),.slice A2 l2 c2]] _ _
 rw [← hb1,← hb2]
 clear hb1 r1 u1 hb2 r2 u2
 go_enter Tryz.func75,Tryz.ntmps75
 repeat apply wp_seq
 refine ls fun K HK=>?_
 go_wp2
 refine HK.out _ _ (then_n ?_)
 obtain ⟨W_0,hW⟩ : ∃ W,W = (((w.alloc (Obj.cells #[Value.bool b1,Value.slice A1 l1 c1] 24)).alloc (Obj.cells #[Value.bool b2,Value.slice A2 l2 c2] 24)).alloc (Obj.cells #[Value.bool false,Value.slice none 0 0] 24)).alloc (Obj.cells #[Value.bool false,Value.slice none 0 0] 24):=⟨_,rfl⟩
 have bb_0 : Below w.heap.size w W_0:=by rw [hW]; exact bal (bal (bal (bal (Below.refl _ _) _) _) _) _
 have K0 : W_0.heap[w.heap.size]? = some (Obj.cells #[Value.bool b1,Value.slice A1 l1 c1] 24):=by rw [hW]; rw [Below.heap_alloc _ _ _ (by simp <;> omega)]; rw [Below.heap_alloc _ _ _ (by simp <;> omega)]; rw [Below.heap_alloc _ _ _ (by simp <;> omega)]; exact new_at (by simp)
 have K1 : W_0.heap[w.heap.size + 1]? = some (Obj.cells #[Value.bool b2,Value.slice A2 l2 c2] 24):=by rw [hW]; rw [Below.heap_alloc _ _ _ (by simp <;> omega)]; rw [Below.heap_alloc _ _ _ (by simp <;> omega)]; exact new_at (by simp)
 have K2 : W_0.heap[w.heap.size + 1 + 1]? = some (Obj.cells #[Value.bool false,Value.slice none 0 0] 24):=by rw [hW]; rw [Below.heap_alloc _ _ _ (by simp <;> omega)]; exact new_at (by simp)
 have K3 : W_0.heap[w.heap.size + 1 + 1 + 1]? = some (Obj.cells #[Value.bool false,Value.slice none 0 0] 24):=by rw [hW]; exact new_at (by simp)
 rw [← hW]
 obtain ⟨m1,n1,_,_⟩:=cell_of_two K0
 have f1_0 : AtR W_0 (w.heap.size) 0 79 x:=⟨A1,l1,c1,by rw [← H1.out.1]; exact m1,n1,A1,l1,c1,rfl,H1.out.2.1.below bb_0,H1.out.2.2⟩
 obtain ⟨m2,n2,_,_⟩:=cell_of_two K1
 have f2_0 : AtR W_0 (w.heap.size + 1) 0 79 y:=⟨A2,l2,c2,by rw [← H2.out.1]; exact m2,n2,A2,l2,c2,rfl,H2.out.2.1.below bb_0,H2.out.2.2⟩
 have R4_0:=lc K2
 have R5_0:=lc K3
 clear hW K0 K1 K2 K3 m1 n1 m2 n2
 refine lm (G:=fun a=>Code.wp _ _ _ a _) 65 ?_
 intro a_0 ha hN_0 hD_0
 have e2_0:=lj ha 2 w.heap.size
 have e3_0:=lj ha 3 (w.heap.size + 1)
 have e4_0:=lj ha 4 (w.heap.size + 1 + 1)
 have e5_0:=lj ha 5 (w.heap.size + 1 + 1 + 1)
 repeat first | apply lk | apply ll
 refine ld bb_0 [kZ 79 x,kZ 79 x,kZ 79 y,kZ 79 y,PK.fresh 2,PK.fresh 2,kPutZ 4 79 x,kPutZ 5 79 y] [[],[0],[],[2],[],[],[4,1],[5,3]] [14,15,16,17,7,8,999,999] [] [] ?_ ?_
 ·
   refine ai f1_0 e2_0 ?_; refine aa rfl rfl (ae rfl rfl fun hC h1=>tz (r2_norm ((rr h1).zc (by decide)) (by decide))) ?_; refine ai f2_0 e3_0 ?_; refine aa rfl rfl (ae rfl rfl fun hC h1=>tz (r2_norm ((rr h1).zc (by decide)) (by decide))) ?_; refine au ?_; refine au ?_; refine bc ?_; refine bc ?_; exact ag rfl
 intro W_1 z a_1 hC hall ha hN_1 hD_1 bb_1
 obtain ⟨g7,hx7,hge7,hl7⟩:=cb (lr hall 6)
 obtain ⟨g8,hx8,hge8,hl8⟩:=cb (lr hall 7)
 have d7:=Nat.lt_of_lt_of_le R5_0.lt hge7
 have d8:=Nat.lt_of_lt_of_le R5_0.lt hge8
 have e4_1:=ab ha e4_0
 have e5_1:=ab ha e5_0
 have e7_1:=(an (t:=7) (i:=4) ha).trans (hx7)
 have e8_1:=(an (t:=8) (i:=5) ha).trans (hx8)
 have R4_1:=hC.holds R4_0
 have R5_1:=hC.holds R5_0
 have x7_1:=hl7
 have x8_1:=hl8
 clear hx7 hx8 hge7 hge8 hl7 hl8 hC hall
 repeat first | apply lk | apply ll
 refine ld bb_1 [lf g8 1,kRow y,kLen y,lh] [[],[0],[1],[2]] [18,19,20,21] [] [] ?_ ?_
 ·
   refine p01 e8_1 ?_; refine aa rfl rfl (ar x8_1.atR rfl rfl) ?_; refine aa rfl rfl (ge rfl rfl) ?_; refine aa rfl rfl (st_len0 (decide_eq_false hy) rfl rfl) ?_; exact ag rfl
 intro W_2 z a_2 hC hall ha hN_2 hD_2 bb_2
 have e4_2:=ab ha e4_1
 have e5_2:=ab ha e5_1
 have e7_2:=ab ha e7_1
 have e8_2:=ab ha e8_1
 have e21_2:=le ha hall 21 3
 have R4_2:=hC.holds R4_1
 have R5_2:=hC.holds R5_1
 have x7_2:=hC.locR x7_1
 have x8_2:=hC.locR x8_1
 clear hC hall
 refine wp_cond_false e21_2 ?_
 refine wp_skip ?_
 refine then_n ?_
 clear e21_2
 repeat first | apply lk | apply ll
 refine ld bb_2 [lf g7 1,kRow x,lf g8 1,kRow y,kRRB ((x.natAbs / y.natAbs : Nat) : Int) ((x.natAbs % y.natAbs : Nat) : Int),kRRB ((x.natAbs / y.natAbs : Nat) : Int) ((x.natAbs % y.natAbs : Nat) : Int),kRow ((x.natAbs / y.natAbs : Nat) : Int),kRow ((x.natAbs % y.natAbs : Nat) : Int),lg,kRow ((x.natAbs / y.natAbs : Nat) : Int),kRow ((x.natAbs % y.natAbs : Nat) : Int),lg] [[],[0],[],[2],[1,3],[4],[5],[5],[5],[6],[7],[8]] [25,26,27,28,29,24,30,31,32,9,10,11] [] [] ?_ ?_
 ·
   refine p01 e7_2 ?_; refine aa rfl rfl (ar x7_2.atR rfl rfl) ?_; refine p01 e8_2 ?_; refine aa rfl rfl (ar x8_2.atR rfl rfl) ?_; refine aa rfl rfl (ap rfl rfl rfl fun hC h1 h2=>r1_div (N:=79) h1 h2 H1.out.2.2 H2.out.2.2 (by decide) (Int.natAbs_pos.2 hy)) ?_; refine aa rfl rfl (cw rfl rfl) ?_; refine bf ext_d0 ?_; refine bf ext_d1 ?_; refine bf ext_d2 ?_; refine aa rfl rfl (fb rfl rfl) ?_; refine aa rfl rfl (fb rfl rfl) ?_; refine p10 ?_; exact ag rfl
 intro W_3 z a_3 hC hall ha hN_3 hD_3 bb_3
 obtain ⟨v9,hv9⟩ : ∃ v,v = z 9:=⟨_,rfl⟩
 have e4_3:=ab ha e4_2
 have e5_3:=ab ha e5_2
 have e7_3:=ab ha e7_2
 have e8_3:=ab ha e8_2
 have e9_3:=(an (t:=9) (i:=9) ha).trans (hv9.symm)
 have R4_3:=hC.holds R4_2
 have R5_3:=hC.holds R5_2
 have x7_3:=hC.locR x7_2
 have x8_3:=hC.locR x8_2
 have z9_3 : Rr W_3 v9 (((x.natAbs / y.natAbs : Nat) : Int)).natAbs:=by rw [hv9]; exact hall 9 (of_decide_eq_true (by kernel_rfl))
 clear hC hall hv9
 repeat first | apply lk | apply ll
 refine ld bb_3 [lf g7 0,kIs (.bool (decide (x < 0))),lf g8 0,kIs (.bool (decide (y < 0))),kIs (.bool (decide (x < 0) != decide (y < 0))),kRow ((x.natAbs / y.natAbs : Nat) : Int),kZ 79 (zOf (x.natAbs / y.natAbs) (decide (x < 0) != decide (y < 0))),PK.fresh 2,kPutZ 7 79 (zOf (x.natAbs / y.natAbs) (decide (x < 0) != decide (y < 0)))] [[],[0],[],[2],[1,3],[],[4,5],[],[7,6]] [33,34,35,36,37,38,39,12,999] [] [] ?_ ?_
 ·
   refine p01 e7_3 ?_; refine aq (s:=decide (x < 0)) x7_3.atR rfl ?_; refine p01 e8_3 ?_; refine aq (s:=decide (y < 0)) x8_3.atR rfl ?_; refine p20 ?_; refine aa rfl rfl (eh e9_3 z9_3 (fun w hC=>hC.rr z9_3) rfl) ?_; refine aa rfl rfl (ap rfl rfl rfl fun hC h1 h2=>tz (r2_mkB h1 h2 hq19 (by decide))) ?_; refine au ?_; refine bc ?_; exact ag rfl
 intro W_4 z a_4 hC hall ha hN_4 hD_4 bb_4
 obtain ⟨g12,hx,hge,hl⟩:=cb (lr hall 8)
 have d12 : w.heap.size + 1 + 1 + 1 < g12 ∧ g7 < g12 ∧ g8 < g12:=⟨Nat.lt_of_lt_of_le R5_3.lt hge,Nat.lt_of_lt_of_le (loc_lt x7_3) hge,Nat.lt_of_lt_of_le (loc_lt x8_3) hge⟩
 have e4_4:=ab ha e4_3
 have e5_4:=ab ha e5_3
 have e7_4:=ab ha e7_3
 have e8_4:=ab ha e8_3
 have e12_4:=(an (t:=12) (i:=7) ha).trans (hx)
 have R4_4:=hC.holds R4_3
 have R5_4:=hC.holds R5_3
 have x7_4:=hC.locR x7_3
 have x8_4:=hC.locR x8_3
 have x12_4:=hl
 clear hx hge hl hC hall
 repeat first | apply lk | apply ll
 refine ld bb_4 [kZ 79 x,kZ 79 (zOf (x.natAbs / y.natAbs) (decide (x < 0) != decide (y < 0))),kZ 79 y,kZRs [(79,(zOf (x.natAbs / y.natAbs) (decide (x < 0) != decide (y < 0)))),(79,y)],kZ 159 ((zOf (x.natAbs / y.natAbs) (decide (x < 0) != decide (y < 0))) * y),kZ 160 (x - (zOf (x.natAbs / y.natAbs) (decide (x < 0) != decide (y < 0))) * y),PK.fresh 2,kPutZ 6 160 (x - (zOf (x.natAbs / y.natAbs) (decide (x < 0) != decide (y < 0))) * y)] [[],[],[],[1,2],[3],[0,4],[],[6,5]] [40,41,42,43,44,45,13,999] [] [] ?_ ?_
 ·
   refine ai x7_4.atR e7_4 ?_; refine ai x12_4.atR e12_4 ?_; refine ai x8_4.atR e8_4 ?_; refine aa rfl rfl (eb rfl rfl rfl) ?_; refine aa rfl rfl (ae rfl rfl fun hC h1=>tz (r2_mul2X h1 hm39)) ?_; refine aa rfl rfl (ap rfl rfl rfl fun hC h1 h2=>tz (r2_subM (M:=159) (Lib.hid (by decide)) ((rr h1).mono (by decide)) (rr h2))) ?_; refine au ?_; refine bc ?_; exact ag rfl
 intro W_5 z a_5 hC hall ha hN_5 hD_5 bb_5
 obtain ⟨g13,hx,hge,hl⟩:=cb (lr hall 7)
 have d13 : w.heap.size + 1 + 1 + 1 < g13 ∧ g7 < g13 ∧ g8 < g13 ∧ g12 < g13:=⟨Nat.lt_of_lt_of_le R5_4.lt hge,Nat.lt_of_lt_of_le (loc_lt x7_4) hge,Nat.lt_of_lt_of_le (loc_lt x8_4) hge,Nat.lt_of_lt_of_le (loc_lt x12_4) hge⟩
 have e4_5:=ab ha e4_4
 have e5_5:=ab ha e5_4
 have e8_5:=ab ha e8_4
 have e12_5:=ab ha e12_4
 have e13_5:=(an (t:=13) (i:=6) ha).trans (hx)
 have R4_5:=hC.holds R4_4
 have R5_5:=hC.holds R5_4
 have x8_5:=hC.locR x8_4
 have x12_5:=hC.locR x12_4
 have x13_5 : LocR W_5 g13 79 (x - (zOf (x.natAbs / y.natAbs) (decide (x < 0) != decide (y < 0))) * y):=hl.tight hr19
 clear hx hge hl hC hall
 repeat first | apply lk | apply ll
 refine ld bb_5 [lf g13 1,kRow (x - (zOf (x.natAbs / y.natAbs) (decide (x < 0) != decide (y < 0))) * y),kLen (x - (zOf (x.natAbs / y.natAbs) (decide (x < 0) != decide (y < 0))) * y),lg,lg,lf g13 0,kIs (.bool (decide ((x - (zOf (x.natAbs / y.natAbs) (decide (x < 0) != decide (y < 0))) * y) < 0))),lf g8 0,kIs (.bool (decide (y < 0))),lh,lh] [[],[0],[1],[2],[3],[],[5],[],[7],[6,8],[4,9]] [46,47,48,49,50,51,52,53,54,55,56] [(4,true)] [] ?_ ?_
 ·
   refine p01 e13_5 ?_; refine aa rfl rfl (ar x13_5.atR rfl rfl) ?_; refine aa rfl rfl (ge rfl rfl) ?_; refine aa rfl rfl (st_lenG hr0 rfl rfl) ?_; refine p10 ?_; refine p01 e13_5 ?_; refine aq (s:=decide ((x - (zOf (x.natAbs / y.natAbs) (decide (x < 0) != decide (y < 0))) * y) < 0)) x13_5.atR rfl ?_; refine p01 e8_5 ?_; refine aq (s:=decide (y < 0)) x8_5.atR rfl ?_; refine aa rfl rfl (ke [.bool (decide ((x - (zOf (x.natAbs / y.natAbs) (decide (x < 0) != decide (y < 0))) * y) < 0)),.bool (decide (y < 0))] [] (.bool (decide ((x - (zOf (x.natAbs / y.natAbs) (decide (x < 0) != decide (y < 0))) * y) < 0) != decide (y < 0))) (.bool false) (congrArg Value.bool hs) rfl old0) ?_; refine p20 ?_; exact ag rfl
 intro W_6 z a_6 hC hall ha hN_6 hD_6 bb_6
 have e4_6:=ab ha e4_5
 have e5_6:=ab ha e5_5
 have e12_6:=ab ha e12_5
 have e13_6:=ab ha e13_5
 have e56_6:=le ha hall 56 10
 have R4_6:=hC.holds R4_5
 have R5_6:=hC.holds R5_5
 have x12_6:=hC.locR x12_5
 have x13_6:=hC.locR x13_5
 clear hC hall
 refine wp_cond_false e56_6 ?_
 clear e56_6
 refine wp_skip ?_
 refine then_n ?_
 repeat first | apply lk | apply ll
 refine az (hchk:=(by rw [hN_6]; kernel_rfl)) w.heap.size [kZ 79 (zOf (x.natAbs / y.natAbs) (decide (x < 0) != decide (y < 0))),kZ 79 (x - (zOf (x.natAbs / y.natAbs) (decide (x < 0) != decide (y < 0))) * y),kResZ (w.heap.size + 1 + 1) 79 (zOf (x.natAbs / y.natAbs) (decide (x < 0) != decide (y < 0))),kResZ (w.heap.size + 1 + 1 + 1) 79 (x - (zOf (x.natAbs / y.natAbs) (decide (x < 0) != decide (y < 0))) * y),kIs (.int .i64 (0))] [ [],[],[(0,some 63)],[(1,some 64)],[] ] [(0,some 63),(1,some 64),(2,none),(3,none),(4,some 6)] [] [] (show [w.heap.size + 1 + 1,w.heap.size + 1 + 1 + 1].Nodup by simp) (show ∀ g ∈ [w.heap.size + 1 + 1,w.heap.size + 1 + 1 + 1],w.heap.size ≤ g by simp; omega) bb_6.size ?_ ?_ ?_
 · intro g hg; have hg2 : g ∈ [w.heap.size + 1 + 1,w.heap.size + 1 + 1 + 1]:=hg; have hg' : g = w.heap.size + 1 + 1 ∨ g = w.heap.size + 1 + 1 + 1:=by simpa using hg2
   rcases hg' with rfl | rfl
   · exact ⟨_,R4_6⟩
   · exact ⟨_,R5_6⟩
 · show PkFrom _ _ _ _ (Reg _ _ [w.heap.size + 1 + 1,w.heap.size + 1 + 1 + 1]) _ _ _ _
   refine ai (hG:=(by simp only [List.mem_cons,List.not_mem_nil,or_false]; omega)) x12_6.atR e12_6 ?_; refine ai (hG:=(by simp only [List.mem_cons,List.not_mem_nil,or_false]; omega)) x13_6.atR e13_6 ?_; refine aa rfl rfl (ce R4_6 e4_6 rfl rfl) ?_; refine aa rfl rfl (ce R5_6 e5_6 rfl rfl) ?_; refine p00 ?_; exact ag rfl
 intro W_9 z hC hall
 refine then_n ?_
 have hC' : Reg w.heap.size W_6 [w.heap.size + 1 + 1,w.heap.size + 1 + 1 + 1] W_9:=hC
 obtain ⟨a1,ha⟩ : ∃ a,a = putE z a_6 [(0,some 63),(1,some 64),(2,none),(3,none),(4,some 6)]:=⟨_,rfl⟩
 rw [← ha]
 have hD1:=defers_behind ha hD_6
 have bb1:=bb_6.trans hC'.below
 have q1:=res_locR (show (kResZ (w.heap.size + 1 + 1) 79 (zOf (x.natAbs / y.natAbs) (decide (x < 0) != decide (y < 0)))).sem _ _ _ _ from hall 2 (of_decide_eq_true (by kernel_rfl)))
 have q2:=res_locR (show (kResZ (w.heap.size + 1 + 1 + 1) 79 (x - (zOf (x.natAbs / y.natAbs) (decide (x < 0) != decide (y < 0))) * y)).sem _ _ _ _ from hall 3 (of_decide_eq_true (by kernel_rfl)))
 have i4:=ab (t:=4) ha e4_6
 have i5:=ab (t:=5) ha e5_6
 have i6:=le ha hall 6 4
 repeat first | apply lk | apply ll
 refine wp_ret ?_
 repeat (refine then_r ?_)
 exact kw (t:=4) (t':=5) (u:=6) rfl hD1 i4 i5 i6 q1 q2 fun v v' hv hv'=>⟨v,v',rfl,by rw [HQ.out.1]; exact hv.mono (show 79 ≤ 160 by decide),by rw [HQ.out.2]; exact hv'.mono (show 79 ≤ 160 by decide),bb1⟩
theorem r2_div_CX {w : World} {v1 v2 : Value} {x y : Int} (hy : ¬ y = 0) (hq19 : (((x.natAbs / y.natAbs : Nat) : Int)).natAbs < 1000000000 ^ 79) (hm39 : Mul2X (zOf (x.natAbs / y.natAbs) (decide (x < 0) != decide (y < 0))) y) (hr19 : ((x - (zOf (x.natAbs / y.natAbs) (decide (x < 0) != decide (y < 0))) * y)).natAbs < 1000000000 ^ 79) (hr0 : decide ((x - (zOf (x.natAbs / y.natAbs) (decide (x < 0) != decide (y < 0))) * y) ≠ 0) = true) (hs : (decide ((x - (zOf (x.natAbs / y.natAbs) (decide (x < 0) != decide (y < 0))) * y) < 0) != decide (y < 0)) = true) (h1 : Zr w v1 79 x) (h2 : Zr w v2 79 y) :
   Calls Tryz.prog 75 #[v1,v2] w (TellsDMX w ((zOf (x.natAbs / y.natAbs) (decide (x < 0) != decide (y < 0))) - 1) ((x - (zOf (x.natAbs / y.natAbs) (decide (x < 0) != decide (y < 0))) * y) + y)):=by
 obtain ⟨qq,hqq⟩ : ∃ u,u = ((zOf (x.natAbs / y.natAbs) (decide (x < 0) != decide (y < 0))) - 1):=⟨_,rfl⟩
 obtain ⟨rr_,hrr⟩ : ∃ u,u = ((x - (zOf (x.natAbs / y.natAbs) (decide (x < 0) != decide (y < 0))) * y) + y):=⟨_,rfl⟩
 rw [← hrr,← hqq]
 have HQ:=Lib.hid (And.intro hqq hrr)
 clear hqq hrr
 obtain ⟨A1,l1,c1,rfl,r1,u1⟩:=h1
 obtain ⟨b1,hb1⟩ : ∃ s,s = decide (x < 0):=⟨_,rfl⟩
 have H1:=Lib.hid (show _ ∧ _ ∧ _ from ⟨hb1,r1,u1⟩)
 obtain ⟨A2,l2,c2,rfl,r2,u2⟩:=h2
 obtain ⟨b2,hb2⟩ : ∃ s,s = decide (y < 0):=⟨_,rfl⟩
 have H2:=Lib.hid (show _ ∧ _ ∧ _ from ⟨hb2,r2,u2⟩)
 show Calls _ _ #[.agg #[.bool (decide (x < 0)),.slice A1 l1 c1],.agg #[.bool (decide (y < 0)),.slice A2 l2 c2]] _ _
 rw [← hb1,← hb2]
 clear hb1 r1 u1 hb2 r2 u2
 go_enter Tryz.func75,Tryz.ntmps75
 repeat apply wp_seq
 refine ls fun K HK=>?_
 go_wp2
 refine HK.out _ _ (then_n ?_)
 obtain ⟨W_0,hW⟩ : ∃ W,W = (((w.alloc (Obj.cells #[Value.bool b1,Value.slice A1 l1 c1] 24)).alloc (Obj.cells #[Value.bool b2,Value.slice A2 l2 c2] 24)).alloc (Obj.cells #[Value.bool false,Value.slice none 0 0] 24)).alloc (Obj.cells #[Value.bool false,Value.slice none 0 0] 24):=⟨_,rfl⟩
 have bb_0 : Below w.heap.size w W_0:=by rw [hW]; exact bal (bal (bal (bal (Below.refl _ _) _) _) _) _
 have K0 : W_0.heap[w.heap.size]? = some (Obj.cells #[Value.bool b1,Value.slice A1 l1 c1] 24):=by rw [hW]; rw [Below.heap_alloc _ _ _ (by simp <;> omega)]; rw [Below.heap_alloc _ _ _ (by simp <;> omega)]; rw [Below.heap_alloc _ _ _ (by simp <;> omega)]; exact new_at (by simp)
 have K1 : W_0.heap[w.heap.size + 1]? = some (Obj.cells #[Value.bool b2,Value.slice A2 l2 c2] 24):=by rw [hW]; rw [Below.heap_alloc _ _ _ (by simp <;> omega)]; rw [Below.heap_alloc _ _ _ (by simp <;> omega)]; exact new_at (by simp)
 have K2 : W_0.heap[w.heap.size + 1 + 1]? = some (Obj.cells #[Value.bool false,Value.slice none 0 0] 24):=by rw [hW]; rw [Below.heap_alloc _ _ _ (by simp <;> omega)]; exact new_at (by simp)
 have K3 : W_0.heap[w.heap.size + 1 + 1 + 1]? = some (Obj.cells #[Value.bool false,Value.slice none 0 0] 24):=by rw [hW]; exact new_at (by simp)
 rw [← hW]
 obtain ⟨m1,n1,_,_⟩:=cell_of_two K0
 have f1_0 : AtR W_0 (w.heap.size) 0 79 x:=⟨A1,l1,c1,by rw [← H1.out.1]; exact m1,n1,A1,l1,c1,rfl,H1.out.2.1.below bb_0,H1.out.2.2⟩
 obtain ⟨m2,n2,_,_⟩:=cell_of_two K1
 have f2_0 : AtR W_0 (w.heap.size + 1) 0 79 y:=⟨A2,l2,c2,by rw [← H2.out.1]; exact m2,n2,A2,l2,c2,rfl,H2.out.2.1.below bb_0,H2.out.2.2⟩
 have R4_0:=lc K2
 have R5_0:=lc K3
 clear hW K0 K1 K2 K3 m1 n1 m2 n2
 refine lm (G:=fun a=>Code.wp _ _ _ a _) 65 ?_
 intro a_0 ha hN_0 hD_0
 have e2_0:=lj ha 2 w.heap.size
 have e3_0:=lj ha 3 (w.heap.size + 1)
 have e4_0:=lj ha 4 (w.heap.size + 1 + 1)
 have e5_0:=lj ha 5 (w.heap.size + 1 + 1 + 1)
 repeat first | apply lk | apply ll
 refine ld bb_0 [kZ 79 x,kZ 79 x,kZ 79 y,kZ 79 y,PK.fresh 2,PK.fresh 2,kPutZ 4 79 x,kPutZ 5 79 y] [[],[0],[],[2],[],[],[4,1],[5,3]] [14,15,16,17,7,8,999,999] [] [] ?_ ?_
 ·
   refine ai f1_0 e2_0 ?_; refine aa rfl rfl (ae rfl rfl fun hC h1=>tz (r2_norm ((rr h1).zc (by decide)) (by decide))) ?_; refine ai f2_0 e3_0 ?_; refine aa rfl rfl (ae rfl rfl fun hC h1=>tz (r2_norm ((rr h1).zc (by decide)) (by decide))) ?_; refine au ?_; refine au ?_; refine bc ?_; refine bc ?_; exact ag rfl
 intro W_1 z a_1 hC hall ha hN_1 hD_1 bb_1
 obtain ⟨g7,hx7,hge7,hl7⟩:=cb (lr hall 6)
 obtain ⟨g8,hx8,hge8,hl8⟩:=cb (lr hall 7)
 have d7:=Nat.lt_of_lt_of_le R5_0.lt hge7
 have d8:=Nat.lt_of_lt_of_le R5_0.lt hge8
 have e4_1:=ab ha e4_0
 have e5_1:=ab ha e5_0
 have e7_1:=(an (t:=7) (i:=4) ha).trans (hx7)
 have e8_1:=(an (t:=8) (i:=5) ha).trans (hx8)
 have R4_1:=hC.holds R4_0
 have R5_1:=hC.holds R5_0
 have x7_1:=hl7
 have x8_1:=hl8
 clear hx7 hx8 hge7 hge8 hl7 hl8 hC hall
 repeat first | apply lk | apply ll
 refine ld bb_1 [lf g8 1,kRow y,kLen y,lh] [[],[0],[1],[2]] [18,19,20,21] [] [] ?_ ?_
 ·
   refine p01 e8_1 ?_; refine aa rfl rfl (ar x8_1.atR rfl rfl) ?_; refine aa rfl rfl (ge rfl rfl) ?_; refine aa rfl rfl (st_len0 (decide_eq_false hy) rfl rfl) ?_; exact ag rfl
 intro W_2 z a_2 hC hall ha hN_2 hD_2 bb_2
 have e4_2:=ab ha e4_1
 have e5_2:=ab ha e5_1
 have e7_2:=ab ha e7_1
 have e8_2:=ab ha e8_1
 have e21_2:=le ha hall 21 3
 have R4_2:=hC.holds R4_1
 have R5_2:=hC.holds R5_1
 have x7_2:=hC.locR x7_1
 have x8_2:=hC.locR x8_1
 clear hC hall
 refine wp_cond_false e21_2 ?_
 refine wp_skip ?_
 refine then_n ?_
 clear e21_2
 repeat first | apply lk | apply ll
 refine ld bb_2 [lf g7 1,kRow x,lf g8 1,kRow y,kRRB ((x.natAbs / y.natAbs : Nat) : Int) ((x.natAbs % y.natAbs : Nat) : Int),kRRB ((x.natAbs / y.natAbs : Nat) : Int) ((x.natAbs % y.natAbs : Nat) : Int),kRow ((x.natAbs / y.natAbs : Nat) : Int),kRow ((x.natAbs % y.natAbs : Nat) : Int),lg,kRow ((x.natAbs / y.natAbs : Nat) : Int),kRow ((x.natAbs % y.natAbs : Nat) : Int),lg] [[],[0],[],[2],[1,3],[4],[5],[5],[5],[6],[7],[8]] [25,26,27,28,29,24,30,31,32,9,10,11] [] [] ?_ ?_
 ·
   refine p01 e7_2 ?_; refine aa rfl rfl (ar x7_2.atR rfl rfl) ?_; refine p01 e8_2 ?_; refine aa rfl rfl (ar x8_2.atR rfl rfl) ?_; refine aa rfl rfl (ap rfl rfl rfl fun hC h1 h2=>r1_div (N:=79) h1 h2 H1.out.2.2 H2.out.2.2 (by decide) (Int.natAbs_pos.2 hy)) ?_; refine aa rfl rfl (cw rfl rfl) ?_; refine bf ext_d0 ?_; refine bf ext_d1 ?_; refine bf ext_d2 ?_; refine aa rfl rfl (fb rfl rfl) ?_; refine aa rfl rfl (fb rfl rfl) ?_; refine p10 ?_; exact ag rfl
 intro W_3 z a_3 hC hall ha hN_3 hD_3 bb_3
 obtain ⟨v9,hv9⟩ : ∃ v,v = z 9:=⟨_,rfl⟩
 have e4_3:=ab ha e4_2
 have e5_3:=ab ha e5_2
 have e7_3:=ab ha e7_2
 have e8_3:=ab ha e8_2
 have e9_3:=(an (t:=9) (i:=9) ha).trans (hv9.symm)
 have R4_3:=hC.holds R4_2
 have R5_3:=hC.holds R5_2
 have x7_3:=hC.locR x7_2
 have x8_3:=hC.locR x8_2
 have z9_3 : Rr W_3 v9 (((x.natAbs / y.natAbs : Nat) : Int)).natAbs:=by rw [hv9]; exact hall 9 (of_decide_eq_true (by kernel_rfl))
 clear hC hall hv9
 repeat first | apply lk | apply ll
 refine ld bb_3 [lf g7 0,kIs (.bool (decide (x < 0))),lf g8 0,kIs (.bool (decide (y < 0))),kIs (.bool (decide (x < 0) != decide (y < 0))),kRow ((x.natAbs / y.natAbs : Nat) : Int),kZ 79 (zOf (x.natAbs / y.natAbs) (decide (x < 0) != decide (y < 0))),PK.fresh 2,kPutZ 7 79 (zOf (x.natAbs / y.natAbs) (decide (x < 0) != decide (y < 0)))] [[],[0],[],[2],[1,3],[],[4,5],[],[7,6]] [33,34,35,36,37,38,39,12,999] [] [] ?_ ?_
 ·
   refine p01 e7_3 ?_; refine aq (s:=decide (x < 0)) x7_3.atR rfl ?_; refine p01 e8_3 ?_; refine aq (s:=decide (y < 0)) x8_3.atR rfl ?_; refine p20 ?_; refine aa rfl rfl (eh e9_3 z9_3 (fun w hC=>hC.rr z9_3) rfl) ?_; refine aa rfl rfl (ap rfl rfl rfl fun hC h1 h2=>tz (r2_mkB h1 h2 hq19 (by decide))) ?_; refine au ?_; refine bc ?_; exact ag rfl
 intro W_4 z a_4 hC hall ha hN_4 hD_4 bb_4
 obtain ⟨g12,hx,hge,hl⟩:=cb (lr hall 8)
 have d12 : w.heap.size + 1 + 1 + 1 < g12 ∧ g7 < g12 ∧ g8 < g12:=⟨Nat.lt_of_lt_of_le R5_3.lt hge,Nat.lt_of_lt_of_le (loc_lt x7_3) hge,Nat.lt_of_lt_of_le (loc_lt x8_3) hge⟩
 have e4_4:=ab ha e4_3
 have e5_4:=ab ha e5_3
 have e7_4:=ab ha e7_3
 have e8_4:=ab ha e8_3
 have e12_4:=(an (t:=12) (i:=7) ha).trans (hx)
 have R4_4:=hC.holds R4_3
 have R5_4:=hC.holds R5_3
 have x7_4:=hC.locR x7_3
 have x8_4:=hC.locR x8_3
 have x12_4:=hl
 clear hx hge hl hC hall
 repeat first | apply lk | apply ll
 refine ld bb_4 [kZ 79 x,kZ 79 (zOf (x.natAbs / y.natAbs) (decide (x < 0) != decide (y < 0))),kZ 79 y,kZRs [(79,(zOf (x.natAbs / y.natAbs) (decide (x < 0) != decide (y < 0)))),(79,y)],kZ 159 ((zOf (x.natAbs / y.natAbs) (decide (x < 0) != decide (y < 0))) * y),kZ 160 (x - (zOf (x.natAbs / y.natAbs) (decide (x < 0) != decide (y < 0))) * y),PK.fresh 2,kPutZ 6 160 (x - (zOf (x.natAbs / y.natAbs) (decide (x < 0) != decide (y < 0))) * y)] [[],[],[],[1,2],[3],[0,4],[],[6,5]] [40,41,42,43,44,45,13,999] [] [] ?_ ?_
 ·
   refine ai x7_4.atR e7_4 ?_; refine ai x12_4.atR e12_4 ?_; refine ai x8_4.atR e8_4 ?_; refine aa rfl rfl (eb rfl rfl rfl) ?_; refine aa rfl rfl (ae rfl rfl fun hC h1=>tz (r2_mul2X h1 hm39)) ?_; refine aa rfl rfl (ap rfl rfl rfl fun hC h1 h2=>tz (r2_subM (M:=159) (Lib.hid (by decide)) ((rr h1).mono (by decide)) (rr h2))) ?_; refine au ?_; refine bc ?_; exact ag rfl
 intro W_5 z a_5 hC hall ha hN_5 hD_5 bb_5
 obtain ⟨g13,hx,hge,hl⟩:=cb (lr hall 7)
 have d13 : w.heap.size + 1 + 1 + 1 < g13 ∧ g7 < g13 ∧ g8 < g13 ∧ g12 < g13:=⟨Nat.lt_of_lt_of_le R5_4.lt hge,Nat.lt_of_lt_of_le (loc_lt x7_4) hge,Nat.lt_of_lt_of_le (loc_lt x8_4) hge,Nat.lt_of_lt_of_le (loc_lt x12_4) hge⟩
 have e4_5:=ab ha e4_4
 have e5_5:=ab ha e5_4
 have e8_5:=ab ha e8_4
 have e12_5:=ab ha e12_4
 have e13_5:=(an (t:=13) (i:=6) ha).trans (hx)
 have R4_5:=hC.holds R4_4
 have R5_5:=hC.holds R5_4
 have x7_5:=hC.locR x7_4
 have x8_5:=hC.locR x8_4
 have x12_5:=hC.locR x12_4
 have x13_5 : LocR W_5 g13 79 (x - (zOf (x.natAbs / y.natAbs) (decide (x < 0) != decide (y < 0))) * y):=hl.tight hr19
 clear hx hge hl hC hall
 repeat first | apply lk | apply ll
 refine ld bb_5 [lf g13 1,kRow (x - (zOf (x.natAbs / y.natAbs) (decide (x < 0) != decide (y < 0))) * y),kLen (x - (zOf (x.natAbs / y.natAbs) (decide (x < 0) != decide (y < 0))) * y),lg,lg,lf g13 0,kIs (.bool (decide ((x - (zOf (x.natAbs / y.natAbs) (decide (x < 0) != decide (y < 0))) * y) < 0))),lf g8 0,kIs (.bool (decide (y < 0))),lg,lg] [[],[0],[1],[2],[3],[],[5],[],[7],[6,8],[4,9]] [46,47,48,49,50,51,52,53,54,55,56] [(4,true)] [] ?_ ?_
 ·
   refine p01 e13_5 ?_; refine aa rfl rfl (ar x13_5.atR rfl rfl) ?_; refine aa rfl rfl (ge rfl rfl) ?_; refine aa rfl rfl (st_lenG hr0 rfl rfl) ?_; refine p10 ?_; refine p01 e13_5 ?_; refine aq (s:=decide ((x - (zOf (x.natAbs / y.natAbs) (decide (x < 0) != decide (y < 0))) * y) < 0)) x13_5.atR rfl ?_; refine p01 e8_5 ?_; refine aq (s:=decide (y < 0)) x8_5.atR rfl ?_; refine aa rfl rfl (ke [.bool (decide ((x - (zOf (x.natAbs / y.natAbs) (decide (x < 0) != decide (y < 0))) * y) < 0)),.bool (decide (y < 0))] [] (.bool (decide ((x - (zOf (x.natAbs / y.natAbs) (decide (x < 0) != decide (y < 0))) * y) < 0) != decide (y < 0))) (.bool true) (congrArg Value.bool hs) rfl old0) ?_; refine p20 ?_; exact ag rfl
 intro W_6 z a_6 hC hall ha hN_6 hD_6 bb_6
 have e4_6:=ab ha e4_5
 have e5_6:=ab ha e5_5
 have e8_6:=ab ha e8_5
 have e12_6:=ab ha e12_5
 have e13_6:=ab ha e13_5
 have e56_6:=le ha hall 56 10
 have R4_6:=hC.holds R4_5
 have R5_6:=hC.holds R5_5
 have x7_6:=hC.locR x7_5
 have x8_6:=hC.locR x8_5
 have x12_6:=hC.locR x12_5
 have x13_6:=hC.locR x13_5
 clear hC hall
 refine wp_cond_true e56_6 ?_
 clear e56_6
 repeat first | apply lk | apply ll
 obtain ⟨u3,v3,X3⟩ : ∃ u v,Holds_ W_6 g12 #[u,v]:=by obtain ⟨A,m,c,hh,_⟩:=x12_6; exact ⟨_,_,hh⟩
 refine Wk9 bb_6 X3 3 [0] [kZ 79 (zOf (x.natAbs / y.natAbs) (decide (x < 0) != decide (y < 0))),kZ 1 1,kZ 160 ((zOf (x.natAbs / y.natAbs) (decide (x < 0) != decide (y < 0))) - 1),kResZ g12 160 ((zOf (x.natAbs / y.natAbs) (decide (x < 0) != decide (y < 0))) - 1)] [[],[],[0,1],[2]] [57,58,59,999] [] [] ?_ ?_
 ·
   refine cp rfl rfl rfl ?_ ?_
   · exact gw x12_6.atR e12_6 rfl
   refine aj rfl rfl (be [.int .i64 (1)] rfl rfl fun hC=>tz (r2_of (1) (by decide) (by decide) (by decide))) ?_; refine aj rfl rfl (ap rfl rfl rfl fun hC h1 h2=>tz (r2_subM (M:=159) (Lib.hid (by decide)) ((rr h1).mono (by decide)) ((rr h2).mono (by decide)))) ?_; refine aj rfl rfl (ce X3 e12_6 rfl rfl) ?_; exact fa rfl
 intro W_7 z a_7 hC hall ha hN_7 hD_7 bb_7
 have X2:=res_locR (show (kResZ g12 160 ((zOf (x.natAbs / y.natAbs) (decide (x < 0) != decide (y < 0))) - 1)).sem _ _ _ _ from hall 3 (of_decide_eq_true (by kernel_rfl)))
 have e4_7:=ab ha e4_6
 have e5_7:=ab ha e5_6
 have e8_7:=ab ha e8_6
 have e12_7:=ab ha e12_6
 have e13_7:=ab ha e13_6
 have R4_7:=hC.holdsG (by simp only [List.mem_singleton]; omega) R4_6
 have R5_7:=hC.holdsG (by simp only [List.mem_singleton]; omega) R5_6
 have x7_7:=locG hC (by simp only [List.mem_singleton]; omega) x7_6
 have x8_7:=locG hC (by simp only [List.mem_singleton]; omega) x8_6
 have x12_7:=X2
 have x13_7:=locG hC (by simp only [List.mem_singleton]; omega) x13_6
 clear hC hall X2 X3
 repeat first | apply lk | apply ll
 obtain ⟨u3,v3,X3⟩ : ∃ u v,Holds_ W_7 g13 #[u,v]:=by obtain ⟨A,m,c,hh,_⟩:=x13_7; exact ⟨_,_,hh⟩
 refine Wk9 bb_7 X3 3 [0] [kZ 79 (x - (zOf (x.natAbs / y.natAbs) (decide (x < 0) != decide (y < 0))) * y),kZ 79 y,kZ 160 ((x - (zOf (x.natAbs / y.natAbs) (decide (x < 0) != decide (y < 0))) * y) + y),kResZ g13 160 ((x - (zOf (x.natAbs / y.natAbs) (decide (x < 0) != decide (y < 0))) * y) + y)] [[],[],[0,1],[2]] [60,61,62,999] [] [] ?_ ?_
 ·
   refine cp rfl rfl rfl ?_ ?_
   · exact gw x13_7.atR e13_7 rfl
   refine aj rfl rfl (kf (hG:=(by simp only [List.mem_singleton]; omega)) x8_7.atR e8_7 rfl) ?_; refine aj rfl rfl (ap rfl rfl rfl fun hC h1 h2=>tz (r2_plusM (M:=159) (Lib.hid (by decide)) ((rr h1).mono (by decide)) ((rr h2).mono (by decide)))) ?_; refine aj rfl rfl (ce X3 e13_7 rfl rfl) ?_; exact fa rfl
 intro W_8 z a_8 hC hall ha hN_8 hD_8 bb_8
 have X2:=res_locR (show (kResZ g13 160 ((x - (zOf (x.natAbs / y.natAbs) (decide (x < 0) != decide (y < 0))) * y) + y)).sem _ _ _ _ from hall 3 (of_decide_eq_true (by kernel_rfl)))
 have e4_8:=ab ha e4_7
 have e5_8:=ab ha e5_7
 have e12_8:=ab ha e12_7
 have e13_8:=ab ha e13_7
 have R4_8:=hC.holdsG (by simp only [List.mem_singleton]; omega) R4_7
 have R5_8:=hC.holdsG (by simp only [List.mem_singleton]; omega) R5_7
 have x7_8:=locG hC (by simp only [List.mem_singleton]; omega) x7_7
 have x8_8:=locG hC (by simp only [List.mem_singleton]; omega) x8_7
 have x12_8:=locG hC (by simp only [List.mem_singleton]; omega) x12_7
 have x13_8:=X2
 clear hC hall X2 X3
 repeat first | apply lk | apply ll
 refine az (hchk:=(by rw [hN_8]; kernel_rfl)) w.heap.size [kZ 160 ((zOf (x.natAbs / y.natAbs) (decide (x < 0) != decide (y < 0))) - 1),kZ 160 ((x - (zOf (x.natAbs / y.natAbs) (decide (x < 0) != decide (y < 0))) * y) + y),kResZ (w.heap.size + 1 + 1) 160 ((zOf (x.natAbs / y.natAbs) (decide (x < 0) != decide (y < 0))) - 1),kResZ (w.heap.size + 1 + 1 + 1) 160 ((x - (zOf (x.natAbs / y.natAbs) (decide (x < 0) != decide (y < 0))) * y) + y),kIs (.int .i64 (0))] [ [],[],[(0,some 63)],[(1,some 64)],[] ] [(0,some 63),(1,some 64),(2,none),(3,none),(4,some 6)] [] [] (show [w.heap.size + 1 + 1,w.heap.size + 1 + 1 + 1].Nodup by simp) (show ∀ g ∈ [w.heap.size + 1 + 1,w.heap.size + 1 + 1 + 1],w.heap.size ≤ g by simp; omega) bb_8.size ?_ ?_ ?_
 · intro g hg; have hg2 : g ∈ [w.heap.size + 1 + 1,w.heap.size + 1 + 1 + 1]:=hg; have hg' : g = w.heap.size + 1 + 1 ∨ g = w.heap.size + 1 + 1 + 1:=by simpa using hg2
   rcases hg' with rfl | rfl
   · exact ⟨_,R4_8⟩
   · exact ⟨_,R5_8⟩
 · show PkFrom _ _ _ _ (Reg _ _ [w.heap.size + 1 + 1,w.heap.size + 1 + 1 + 1]) _ _ _ _
   refine ai (hG:=(by simp only [List.mem_cons,List.not_mem_nil,or_false]; omega)) x12_8.atR e12_8 ?_; refine ai (hG:=(by simp only [List.mem_cons,List.not_mem_nil,or_false]; omega)) x13_8.atR e13_8 ?_; refine aa rfl rfl (ce R4_8 e4_8 rfl rfl) ?_; refine aa rfl rfl (ce R5_8 e5_8 rfl rfl) ?_; refine p00 ?_; exact ag rfl
 intro W_9 z hC hall
 refine then_n ?_
 have hC' : Reg w.heap.size W_8 [w.heap.size + 1 + 1,w.heap.size + 1 + 1 + 1] W_9:=hC
 obtain ⟨a1,ha⟩ : ∃ a,a = putE z a_8 [(0,some 63),(1,some 64),(2,none),(3,none),(4,some 6)]:=⟨_,rfl⟩
 rw [← ha]
 have hD1:=defers_behind ha hD_8
 have bb1:=bb_8.trans hC'.below
 have q1:=res_locR (show (kResZ (w.heap.size + 1 + 1) 160 ((zOf (x.natAbs / y.natAbs) (decide (x < 0) != decide (y < 0))) - 1)).sem _ _ _ _ from hall 2 (of_decide_eq_true (by kernel_rfl)))
 have q2:=res_locR (show (kResZ (w.heap.size + 1 + 1 + 1) 160 ((x - (zOf (x.natAbs / y.natAbs) (decide (x < 0) != decide (y < 0))) * y) + y)).sem _ _ _ _ from hall 3 (of_decide_eq_true (by kernel_rfl)))
 have i4:=ab (t:=4) ha e4_8
 have i5:=ab (t:=5) ha e5_8
 have i6:=le ha hall 6 4
 repeat first | apply lk | apply ll
 refine wp_ret ?_
 repeat (refine then_r ?_)
 exact kw (t:=4) (t':=5) (u:=6) rfl hD1 i4 i5 i6 q1 q2 fun v v' hv hv'=>⟨v,v',rfl,by rw [HQ.out.1]; exact hv.mono (show 160 ≤ 160 by decide),by rw [HQ.out.2]; exact hv'.mono (show 160 ≤ 160 by decide),bb1⟩
end
theorem r2_divModX {w : World} {v1 v2 : Value} {x y : Int} (hy : y ≠ 0) (h1 : Zr w v1 79 x) (h2 : Zr w v2 79 y) : Calls Tryz.prog 75 #[v1,v2] w (TellsDMX w (zq x y) (zm x y)):=by
 have hx19 : x.natAbs < 1000000000 ^ 79:=by obtain ⟨_,_,_,_,_,h⟩:=h1; exact h
 have hy19 : y.natAbs < 1000000000 ^ 79:=by obtain ⟨_,_,_,_,_,h⟩:=h2; exact h
 have hy0 : 0 < y.natAbs:=Int.natAbs_pos.2 hy
 have r0:=rest0 x y
 have hdl : x.natAbs / y.natAbs ≤ x.natAbs:=Nat.div_le_self _ _
 have hml : x.natAbs % y.natAbs < y.natAbs:=Nat.mod_lt _ hy0
 have hq19 : (((x.natAbs / y.natAbs : Nat) : Int)).natAbs < 1000000000 ^ 79:=Nat.lt_of_le_of_lt hdl hx19
 have hr19 : (x - zOf (x.natAbs / y.natAbs) (decide (x < 0) != decide (y < 0)) * y).natAbs < 1000000000 ^ 79:=by rw [r0,bg]; exact Nat.lt_trans hml hy19
 have hm39 : Mul2X (zOf (x.natAbs / y.natAbs) (decide (x < 0) != decide (y < 0))) y:=by
   refine ⟨?_,?_⟩
   · rw [bg]; exact Nat.lt_of_lt_of_le (Nat.lt_of_le_of_lt hdl hx19) (pow_le (by decide))
   · rw [Int.natAbs_mul,bg]; exact Nat.lt_of_lt_of_le (Nat.lt_of_le_of_lt (Nat.div_mul_le_self _ _) hx19) (pow_le (by decide))
 by_cases hz : x.natAbs % y.natAbs = 0
 · have e0 : x - zOf (x.natAbs / y.natAbs) (decide (x < 0) != decide (y < 0)) * y = 0:=by rw [r0,hz]; unfold zOf; split <;> rfl
   have h:=r2_div_AX hy hq19 hm39 hr19 (decide_eq_false (fun h=>h e0)) h1 h2; have eq1 : zOf (x.natAbs / y.natAbs) (decide (x < 0) != decide (y < 0)) = zq x y:=by unfold zq divQ; rw [if_pos (.inr hz)]
   have eq2 : x - zOf (x.natAbs / y.natAbs) (decide (x < 0) != decide (y < 0)) * y = zm x y:=by rw [e0]; unfold zm divR; rw [if_pos (.inr hz),hz]; unfold zOf; split <;> rfl
   rw [eq2,eq1] at h; exact h
 · have hne : x - zOf (x.natAbs / y.natAbs) (decide (x < 0) != decide (y < 0)) * y ≠ 0:=by
     rw [r0]; unfold zOf; split <;> omega
   have hsg : decide (x - zOf (x.natAbs / y.natAbs) (decide (x < 0) != decide (y < 0)) * y < 0) = decide (x < 0):=by
     rw [r0]
     by_cases hx : x < 0
     · rw [decide_eq_true hx]; unfold zOf; rw [if_pos rfl]; exact decide_eq_true (by omega)
     · rw [decide_eq_false hx]; unfold zOf; rw [if_neg (by decide)]; exact decide_eq_false (by omega)
   by_cases hs : decide (x < 0) = decide (y < 0)
   · have h:=r2_div_BX hy hq19 hm39 hr19 (decide_eq_true hne) (by rw [hsg,hs]; simp) h1 h2; have eq1 : zOf (x.natAbs / y.natAbs) (decide (x < 0) != decide (y < 0)) = zq x y:=by unfold zq divQ; rw [if_pos (.inl (by rw [hs]; simp))]
     have eq2 : x - zOf (x.natAbs / y.natAbs) (decide (x < 0) != decide (y < 0)) * y = zm x y:=by rw [r0]; unfold zm divR; rw [if_pos (.inl (by rw [hs]; simp)),hs]
     rw [eq2,eq1] at h; exact h
   · have hne2 : (decide (x < 0) != decide (y < 0)) = true:=by simpa using hs
     have hne3 : ¬ ((decide (x < 0) == decide (y < 0)) = true ∨ x.natAbs % y.natAbs = 0):=by
       rintro (h | h)
       · exact hs (by simpa using h)
       · exact hz h
     have h:=r2_div_CX hy hq19 hm39 hr19 (decide_eq_true hne) (by rw [hsg]; exact hne2) h1 h2; have eq1 : zOf (x.natAbs / y.natAbs) (decide (x < 0) != decide (y < 0)) - 1 = zq x y:=by unfold zq divQ; rw [if_neg hne3,hne2]; unfold zOf; rw [if_pos rfl,if_pos rfl]; omega
     have eq2 : x - zOf (x.natAbs / y.natAbs) (decide (x < 0) != decide (y < 0)) * y + y = zm x y:=by
       rw [r0]; unfold zm divR; rw [if_neg hne3]; unfold zOf
       by_cases hx : x < 0
       · have hy' : ¬ y < 0:=fun h=>hs (by rw [decide_eq_true hx,decide_eq_true h]); rw [decide_eq_true hx,decide_eq_false hy',if_pos rfl,if_neg (by decide)]; omega
       · have hy' : y < 0:=by
           rcases Int.lt_or_le y 0 with h | h
           · exact h
           · exact absurd (by rw [decide_eq_false hx,decide_eq_false (by omega)]) hs
         rw [decide_eq_false hx,decide_eq_true hy',if_pos rfl,if_neg (by decide)]; omega
     rw [eq2,eq1] at h; exact h
theorem tdmX {P : Program} {F : FuncId} {vs : Array Value} {w : World} {S0 : Nat} {x : Nat → Value} {q r : Int} (h : Calls P F vs w (TellsDMX w q r)) : Calls P F vs w (Told (kZQ 160 160 q r 0) S0 x w) :=
 h.mono fun _ _ ⟨v,v',he,h1,h2,hb⟩=>⟨_,he,hb,v,v',rfl,h1,h2⟩
theorem refOf_PX {w : World} {v1 v2 : Value} {n d : Int} (hd : 0 < d) (hg : ((zgcd [(n),(d)] : Nat) : Int) ≠ 0) (h1 : Zr w v1 79 n) (h2 : Zr w v2 79 d) :
   Calls Tryz.prog 15 #[v1,v2] w (fun e w'=>∃ v,e = .returned (.tuple #[v,.int .i64 (0)]) ∧ Pr w' v 160 (zq n ((zgcd [(n),(d)] : Nat) : Int)) (zq d ((zgcd [(n),(d)] : Nat) : Int)) ∧ Below w.heap.size w w'):=by
 obtain ⟨qq,hqq⟩ : ∃ u,u = (zq n ((zgcd [(n),(d)] : Nat) : Int)):=⟨_,rfl⟩
 obtain ⟨rr_,hrr⟩ : ∃ u,u = (zq d ((zgcd [(n),(d)] : Nat) : Int)):=⟨_,rfl⟩
 rw [← hrr,← hqq]
 have HQ:=Lib.hid (And.intro hqq hrr)
 clear hqq hrr
 obtain ⟨A1,l1,c1,rfl,r1,u1⟩:=h1
 obtain ⟨b1,hb1⟩ : ∃ s,s = decide (n < 0):=⟨_,rfl⟩
 have H1:=Lib.hid (show _ ∧ _ ∧ _ from ⟨hb1,r1,u1⟩)
 obtain ⟨A2,l2,c2,rfl,r2,u2⟩:=h2
 obtain ⟨b2,hb2⟩ : ∃ s,s = decide (d < 0):=⟨_,rfl⟩
 have H2:=Lib.hid (show _ ∧ _ ∧ _ from ⟨hb2,r2,u2⟩)
 show Calls _ _ #[.agg #[.bool (decide (n < 0)),.slice A1 l1 c1],.agg #[.bool (decide (d < 0)),.slice A2 l2 c2]] _ _
 rw [← hb1,← hb2]
 clear hb1 r1 u1 hb2 r2 u2
 go_enter Tryz.func15,Tryz.ntmps15
 repeat apply wp_seq
 refine ls fun K HK=>?_
 go_wp2
 refine HK.out _ _ (then_n ?_)
 refine O39 (G:=fun W=>Code.wp _ _ _ _ W) ?_
 intro W_0 bb_0 K0 K1 K2
 have f1_0 : LocR W_0 (w.heap.size) 79 n:=⟨A1,l1,c1,by rw [← H1.out.1]; exact ⟨⟨_,K0⟩,by simp [noDig]⟩,A1,l1,c1,rfl,H1.out.2.1.below bb_0,H1.out.2.2⟩
 have f2_0 : LocR W_0 (w.heap.size + 1) 79 d:=⟨A2,l2,c2,by rw [← H2.out.1]; exact ⟨⟨_,K1⟩,by simp [noDig]⟩,A2,l2,c2,rfl,H2.out.2.1.below bb_0,H2.out.2.2⟩
 have R4_0:=kg K2
 clear K0 K1 K2
 refine lm (G:=fun a=>Code.wp _ _ _ a _) 56 ?_
 intro a_0 ha hN_0 hD_0
 have e2_0:=lj ha 2 w.heap.size
 have e3_0:=lj ha 3 (w.heap.size + 1)
 have e4_0:=lj ha 4 (w.heap.size + 1 + 1)
 repeat first | apply lk | apply ll
 refine ld bb_0 [kZ 79 n,lg,lh,lh,kZ 79 d,lg,lh,lh] [[],[0],[1],[2],[],[4],[5],[3,6]] [13,14,15,16,17,18,19,20] [(3,false)] [] ?_ ?_
 ·
   refine ai f1_0.atR e2_0 ?_; refine aa rfl rfl (ae rfl rfl fun hC h1=>ti (r2_right (rr h1))) ?_; refine p10 ?_; refine p10 ?_; refine ai f2_0.atR e3_0 ?_; refine aa rfl rfl (ae rfl rfl fun hC h1=>ti (r2_right (rr h1))) ?_; refine p10 ?_; refine p20 ?_; exact ag rfl
 intro W_1 z a_1 hC hall ha hN_1 hD_1 bb_1
 have e2_1:=ab ha e2_0
 have e3_1:=ab ha e3_0
 have e4_1:=ab ha e4_0
 have e20_1:=le ha hall 20 7
 have f1_1:=hC.locR f1_0
 have f2_1:=hC.locR f2_0
 have R4_1:=hC.holds R4_0
 clear hC hall
 refine wp_cond_false e20_1 ?_
 refine wp_skip ?_
 refine then_n ?_
 clear e20_1
 repeat first | apply lk | apply ll
 refine ld bb_1 [kZ 79 d,kZ 1 0,kIs (.int .i64 (1)),lh] [[],[],[0,1],[2]] [22,23,24,25] [] [] ?_ ?_
 ·
   refine ai f2_1.atR e3_1 ?_; refine aa rfl rfl (be [] rfl rfl fun hC=>tz fh) ?_; refine aa rfl rfl (ap rfl rfl rfl fun hC h1 h2=>ti (cmp_is (ord_gt hd) (r2_cmpX ((rr h1).mono (by decide)) ((rr h2).mono (by decide))))) ?_; refine p10 ?_; exact ag rfl
 intro W_2 z a_2 hC hall ha hN_2 hD_2 bb_2
 have e2_2:=ab ha e2_1
 have e3_2:=ab ha e3_1
 have e4_2:=ab ha e4_1
 have e25_2:=le ha hall 25 3
 have f1_2:=hC.locR f1_1
 have f2_2:=hC.locR f2_1
 have R4_2:=hC.holds R4_1
 clear hC hall
 refine wp_cond_false e25_2 ?_
 clear e25_2
 refine wp_skip ?_
 refine then_n ?_
 repeat first | apply lk | apply ll
 refine ld bb_2 [kZ 79 d,kZ 1 0,kIs (.int .i64 (1)),lh] [[],[],[0,1],[2]] [27,28,29,30] [] [] ?_ ?_
 ·
   refine ai f2_2.atR e3_2 ?_; refine aa rfl rfl (be [] rfl rfl fun hC=>tz fh) ?_; refine aa rfl rfl (ap rfl rfl rfl fun hC h1 h2=>ti (cmp_is (ord_gt hd) (r2_cmpX ((rr h1).mono (by decide)) ((rr h2).mono (by decide))))) ?_; refine p10 ?_; exact ag rfl
 intro W_3 z a_3 hC hall ha hN_3 hD_3 bb_3
 have e2_3:=ab ha e2_2
 have e3_3:=ab ha e3_2
 have e4_3:=ab ha e4_2
 have e30_3:=le ha hall 30 3
 have f1_3:=hC.locR f1_2
 have f2_3:=hC.locR f2_2
 have R4_3:=hC.holds R4_2
 clear hC hall
 refine wp_cond_false e30_3 ?_
 clear e30_3
 refine wp_skip ?_
 refine then_n ?_
 repeat first | apply lk | apply ll
 refine ld bb_3 [kZ 79 n,kZ 79 d,kZRs [(79,n),(79,d)],kZ 79 ((zgcd [(n),(d)] : Nat) : Int),PK.fresh 2,kPutZ 4 79 ((zgcd [(n),(d)] : Nat) : Int)] [[],[],[0,1],[2],[],[4,3]] [35,36,37,38,6,999] [] [] ?_ ?_
 ·
   refine ai f1_3.atR e2_3 ?_; refine ai f2_3.atR e3_3 ?_; refine aa rfl rfl (eb rfl rfl rfl) ?_; refine aa rfl rfl (ae rfl rfl fun hC h1=>tz (r2_gcd 79 h1 (by kernel_rfl) (by decide) (by simp))) ?_; refine au ?_; refine bc ?_; exact ag rfl
 intro W_4 z a_4 hC hall ha hN_4 hD_4 bb_4
 obtain ⟨g6,hx,hge,hl⟩:=cb (lr hall 5)
 have d6:=Nat.lt_of_lt_of_le R4_3.lt hge
 have e2_4:=ab ha e2_3
 have e3_4:=ab ha e3_3
 have e4_4:=ab ha e4_3
 have e6_4:=(an (t:=6) (i:=4) ha).trans (hx)
 have f1_4:=hC.locR f1_3
 have f2_4:=hC.locR f2_3
 have R4_4:=hC.holds R4_3
 have x6_4:=hl
 clear hx hge hl hC hall
 repeat first | apply lk | apply ll
 refine ld bb_4 [kZ 79 n,kZ 79 ((zgcd [(n),(d)] : Nat) : Int),kZQ 160 160 (zq n ((zgcd [(n),(d)] : Nat) : Int)) (zm n ((zgcd [(n),(d)] : Nat) : Int)) 0,kZQ 160 160 (zq n ((zgcd [(n),(d)] : Nat) : Int)) (zm n ((zgcd [(n),(d)] : Nat) : Int)) 0,kZ 160 (zq n ((zgcd [(n),(d)] : Nat) : Int)),kZ 160 (zm n ((zgcd [(n),(d)] : Nat) : Int)),kIs (.int .i64 (0)),PK.fresh 2,PK.fresh 2,kPutZ 7 160 (zq n ((zgcd [(n),(d)] : Nat) : Int)),kPutZ 8 160 (zm n ((zgcd [(n),(d)] : Nat) : Int)),kIs (.int .i64 (0))] [[],[],[0,1],[2],[3],[3],[3],[],[],[7,4],[8,5],[6]] [40,41,42,39,43,44,45,7,8,999,999,9] [] [] ?_ ?_
 ·
   refine ai f1_4.atR e2_4 ?_; refine ai x6_4.atR e6_4 ?_; refine aa rfl rfl (ap rfl rfl rfl fun hC h1 h2=>tdmX (r2_divModX hg (rr h1) (rr h2))) ?_; refine aa rfl rfl (cw rfl rfl) ?_; refine bf ext_q ?_; refine bf ext_r ?_; refine bf ext_e ?_; refine au ?_; refine au ?_; refine bc ?_; refine bc ?_; refine p10 ?_; exact ag rfl
 intro W_5 z a_5 hC hall ha hN_5 hD_5 bb_5
 obtain ⟨g7,hx,hge,hl⟩:=cb (lr hall 9)
 have d7:=Nat.lt_of_lt_of_le R4_4.lt hge
 have e3_5:=ab ha e3_4
 have e4_5:=ab ha e4_4
 have e6_5:=ab ha e6_4
 have e7_5:=(an (t:=7) (i:=7) ha).trans (hx)
 have f2_5:=hC.locR f2_4
 have R4_5:=hC.holds R4_4
 have x6_5:=hC.locR x6_4
 have x7_5:=hl
 clear hx hge hl hC hall
 repeat first | apply lk | apply ll
 refine ld bb_5 [kZ 79 d,kZ 79 ((zgcd [(n),(d)] : Nat) : Int),kZQ 160 160 (zq d ((zgcd [(n),(d)] : Nat) : Int)) (zm d ((zgcd [(n),(d)] : Nat) : Int)) 0,kZQ 160 160 (zq d ((zgcd [(n),(d)] : Nat) : Int)) (zm d ((zgcd [(n),(d)] : Nat) : Int)) 0,kZ 160 (zq d ((zgcd [(n),(d)] : Nat) : Int)),kZ 160 (zm d ((zgcd [(n),(d)] : Nat) : Int)),kIs (.int .i64 (0)),PK.fresh 2,PK.fresh 2,kPutZ 7 160 (zq d ((zgcd [(n),(d)] : Nat) : Int)),kPutZ 8 160 (zm d ((zgcd [(n),(d)] : Nat) : Int)),kIs (.int .i64 (0))] [[],[],[0,1],[2],[3],[3],[3],[],[],[7,4],[8,5],[6]] [47,48,49,46,50,51,52,10,11,999,999,12] [] [] ?_ ?_
 ·
   refine ai f2_5.atR e3_5 ?_; refine ai x6_5.atR e6_5 ?_; refine aa rfl rfl (ap rfl rfl rfl fun hC h1 h2=>tdmX (r2_divModX hg (rr h1) (rr h2))) ?_; refine aa rfl rfl (cw rfl rfl) ?_; refine bf ext_q ?_; refine bf ext_r ?_; refine bf ext_e ?_; refine au ?_; refine au ?_; refine bc ?_; refine bc ?_; refine p10 ?_; exact ag rfl
 intro W_6 z a_6 hC hall ha hN_6 hD_6 bb_6
 obtain ⟨g10,hx,hge,hl⟩:=cb (lr hall 9)
 have d10:=Nat.lt_of_lt_of_le R4_5.lt hge
 have e4_6:=ab ha e4_5
 have e7_6:=ab ha e7_5
 have e10_6:=(an (t:=10) (i:=7) ha).trans (hx)
 have R4_6:=hC.holds R4_5
 have x7_6:=hC.locR x7_5
 have x10_6:=hl
 clear hx hge hl hC hall
 repeat first | apply lk | apply ll
 refine lu bb_6 R4_6 [kZ 160 (zq n ((zgcd [(n),(d)] : Nat) : Int)),kZ 160 (zq d ((zgcd [(n),(d)] : Nat) : Int)),kP 160 (zq n ((zgcd [(n),(d)] : Nat) : Int)) (zq d ((zgcd [(n),(d)] : Nat) : Int)),kRes (w.heap.size + 1 + 1) 160 (zq n ((zgcd [(n),(d)] : Nat) : Int)) (zq d ((zgcd [(n),(d)] : Nat) : Int)),kIs (.int .i64 (0))] [[],[],[0,1],[2],[]] [53,54,55,999,5] [] [] ?_ ?_
 ·
   refine ai (hG:=(by simp only [List.mem_singleton]; omega)) x7_6.atR e7_6 ?_; refine ai (hG:=(by simp only [List.mem_singleton]; omega)) x10_6.atR e10_6 ?_; refine aa rfl rfl (fx (k:=160) rfl rfl rfl) ?_; refine aa rfl rfl (eu R4_6 rfl e4_6 rfl rfl) ?_; refine p00 ?_; exact ag rfl
 intro W z a1 hC hall ha hN1 hD1 bb1
 obtain ⟨cs,hgg,hP⟩:=lr hall 3
 have i4:=ab (t:=4) ha e4_6
 have i5:=le ha hall 5 4
 repeat first | apply lk | apply ll
 refine wp_ret ?_
 repeat (refine then_r ?_)
 exact im (t:=4) (u:=5) rfl hD1 i4 i5 hgg hP fun v hv=>⟨v,rfl,by rw [HQ.out.1,HQ.out.2]; exact hv,bb1⟩
theorem refOf_NX {w : World} {v1 v2 : Value} {n d : Int} (hd : d < 0) (hg : ((zgcd [((-n)),((-d))] : Nat) : Int) ≠ 0) (h1 : Zr w v1 79 n) (h2 : Zr w v2 79 d) :
   Calls Tryz.prog 15 #[v1,v2] w (fun e w'=>∃ v,e = .returned (.tuple #[v,.int .i64 (0)]) ∧ Pr w' v 160 (zq (-n) ((zgcd [((-n)),((-d))] : Nat) : Int)) (zq (-d) ((zgcd [((-n)),((-d))] : Nat) : Int)) ∧ Below w.heap.size w w'):=by
 obtain ⟨qq,hqq⟩ : ∃ u,u = (zq (-n) ((zgcd [((-n)),((-d))] : Nat) : Int)):=⟨_,rfl⟩
 obtain ⟨rr_,hrr⟩ : ∃ u,u = (zq (-d) ((zgcd [((-n)),((-d))] : Nat) : Int)):=⟨_,rfl⟩
 rw [← hrr,← hqq]
 have HQ:=Lib.hid (And.intro hqq hrr)
 clear hqq hrr
 obtain ⟨A1,l1,c1,rfl,r1,u1⟩:=h1
 obtain ⟨b1,hb1⟩ : ∃ s,s = decide (n < 0):=⟨_,rfl⟩
 have H1:=Lib.hid (show _ ∧ _ ∧ _ from ⟨hb1,r1,u1⟩)
 obtain ⟨A2,l2,c2,rfl,r2,u2⟩:=h2
 obtain ⟨b2,hb2⟩ : ∃ s,s = decide (d < 0):=⟨_,rfl⟩
 have H2:=Lib.hid (show _ ∧ _ ∧ _ from ⟨hb2,r2,u2⟩)
 show Calls _ _ #[.agg #[.bool (decide (n < 0)),.slice A1 l1 c1],.agg #[.bool (decide (d < 0)),.slice A2 l2 c2]] _ _
 rw [← hb1,← hb2]
 clear hb1 r1 u1 hb2 r2 u2
 go_enter Tryz.func15,Tryz.ntmps15
 repeat apply wp_seq
 refine ls fun K HK=>?_
 go_wp2
 refine HK.out _ _ (then_n ?_)
 refine O39 (G:=fun W=>Code.wp _ _ _ _ W) ?_
 intro W_0 bb_0 K0 K1 K2
 have f1_0 : LocR W_0 (w.heap.size) 79 n:=⟨A1,l1,c1,by rw [← H1.out.1]; exact ⟨⟨_,K0⟩,by simp [noDig]⟩,A1,l1,c1,rfl,H1.out.2.1.below bb_0,H1.out.2.2⟩
 have f2_0 : LocR W_0 (w.heap.size + 1) 79 d:=⟨A2,l2,c2,by rw [← H2.out.1]; exact ⟨⟨_,K1⟩,by simp [noDig]⟩,A2,l2,c2,rfl,H2.out.2.1.below bb_0,H2.out.2.2⟩
 have R4_0:=kg K2
 clear K0 K1 K2
 refine lm (G:=fun a=>Code.wp _ _ _ a _) 56 ?_
 intro a_0 ha hN_0 hD_0
 have e2_0:=lj ha 2 w.heap.size
 have e3_0:=lj ha 3 (w.heap.size + 1)
 have e4_0:=lj ha 4 (w.heap.size + 1 + 1)
 repeat first | apply lk | apply ll
 refine ld bb_0 [kZ 79 n,lg,lh,lh,kZ 79 d,lg,lh,lh] [[],[0],[1],[2],[],[4],[5],[3,6]] [13,14,15,16,17,18,19,20] [(3,false)] [] ?_ ?_
 ·
   refine ai f1_0.atR e2_0 ?_; refine aa rfl rfl (ae rfl rfl fun hC h1=>ti (r2_right (rr h1))) ?_; refine p10 ?_; refine p10 ?_; refine ai f2_0.atR e3_0 ?_; refine aa rfl rfl (ae rfl rfl fun hC h1=>ti (r2_right (rr h1))) ?_; refine p10 ?_; refine p20 ?_; exact ag rfl
 intro W_1 z a_1 hC hall ha hN_1 hD_1 bb_1
 have e2_1:=ab ha e2_0
 have e3_1:=ab ha e3_0
 have e4_1:=ab ha e4_0
 have e20_1:=le ha hall 20 7
 have f1_1:=hC.locR f1_0
 have f2_1:=hC.locR f2_0
 have R4_1:=hC.holds R4_0
 clear hC hall
 refine wp_cond_false e20_1 ?_
 refine wp_skip ?_
 refine then_n ?_
 clear e20_1
 repeat first | apply lk | apply ll
 refine ld bb_1 [kZ 79 d,kZ 1 0,kIs (.int .i64 (-1)),lh] [[],[],[0,1],[2]] [22,23,24,25] [] [] ?_ ?_
 ·
   refine ai f2_1.atR e3_1 ?_; refine aa rfl rfl (be [] rfl rfl fun hC=>tz fh) ?_; refine aa rfl rfl (ap rfl rfl rfl fun hC h1 h2=>ti (cmp_is (ord_lt hd) (r2_cmpX ((rr h1).mono (by decide)) ((rr h2).mono (by decide))))) ?_; refine p10 ?_; exact ag rfl
 intro W_2 z a_2 hC hall ha hN_2 hD_2 bb_2
 have e2_2:=ab ha e2_1
 have e3_2:=ab ha e3_1
 have e4_2:=ab ha e4_1
 have e25_2:=le ha hall 25 3
 have f1_2:=hC.locR f1_1
 have f2_2:=hC.locR f2_1
 have R4_2:=hC.holds R4_1
 clear hC hall
 refine wp_cond_false e25_2 ?_
 clear e25_2
 refine wp_skip ?_
 refine then_n ?_
 repeat first | apply lk | apply ll
 refine ld bb_2 [kZ 79 d,kZ 1 0,kIs (.int .i64 (-1)),lg] [[],[],[0,1],[2]] [27,28,29,30] [] [] ?_ ?_
 ·
   refine ai f2_2.atR e3_2 ?_; refine aa rfl rfl (be [] rfl rfl fun hC=>tz fh) ?_; refine aa rfl rfl (ap rfl rfl rfl fun hC h1 h2=>ti (cmp_is (ord_lt hd) (r2_cmpX ((rr h1).mono (by decide)) ((rr h2).mono (by decide))))) ?_; refine p10 ?_; exact ag rfl
 intro W_3 z a_3 hC hall ha hN_3 hD_3 bb_3
 have e2_3:=ab ha e2_2
 have e3_3:=ab ha e3_2
 have e4_3:=ab ha e4_2
 have e30_3:=le ha hall 30 3
 have f1_3:=hC.locR f1_2
 have f2_3:=hC.locR f2_2
 have R4_3:=hC.holds R4_2
 clear hC hall
 refine wp_cond_true e30_3 ?_
 clear e30_3
 repeat first | apply lk | apply ll
 obtain ⟨u3,v3,X3⟩ : ∃ u v,Holds_ W_3 (w.heap.size) #[u,v]:=by obtain ⟨A,m,c,hh,_⟩:=f1_3; exact ⟨_,_,hh⟩
 refine Wk9 bb_3 X3 2 [0] [kZ 79 n,kZ 79 (-n),kResZ (w.heap.size) 79 (-n)] [[],[0],[1]] [31,32,999] [] [] ?_ ?_
 ·
   refine cp rfl rfl rfl ?_ ?_
   · exact gw f1_3.atR e2_3 rfl
   refine aj rfl rfl (ae rfl rfl fun hC h1=>tz (r2_neg (rr h1) (by decide))) ?_; refine aj rfl rfl (ce X3 e2_3 rfl rfl) ?_; exact fa rfl
 intro W_4 z a_4 hC hall ha hN_4 hD_4 bb_4
 have X2:=res_locR (show (kResZ (w.heap.size) 79 (-n)).sem _ _ _ _ from hall 2 (of_decide_eq_true (by kernel_rfl)))
 have e2_4:=ab ha e2_3
 have e3_4:=ab ha e3_3
 have e4_4:=ab ha e4_3
 have f1_4:=X2
 have f2_4:=locG hC (by simp only [List.mem_singleton]; omega) f2_3
 have R4_4:=hC.holdsG (by simp only [List.mem_singleton]; omega) R4_3
 clear hC hall X2 X3
 repeat first | apply lk | apply ll
 obtain ⟨u3,v3,X3⟩ : ∃ u v,Holds_ W_4 (w.heap.size + 1) #[u,v]:=by obtain ⟨A,m,c,hh,_⟩:=f2_4; exact ⟨_,_,hh⟩
 refine Wk9 bb_4 X3 2 [0] [kZ 79 d,kZ 79 (-d),kResZ (w.heap.size + 1) 79 (-d)] [[],[0],[1]] [33,34,999] [] [] ?_ ?_
 ·
   refine cp rfl rfl rfl ?_ ?_
   · exact gw f2_4.atR e3_4 rfl
   refine aj rfl rfl (ae rfl rfl fun hC h1=>tz (r2_neg (rr h1) (by decide))) ?_; refine aj rfl rfl (ce X3 e3_4 rfl rfl) ?_; exact fa rfl
 intro W_5 z a_5 hC hall ha hN_5 hD_5 bb_5
 have X2:=res_locR (show (kResZ (w.heap.size + 1) 79 (-d)).sem _ _ _ _ from hall 2 (of_decide_eq_true (by kernel_rfl)))
 have e2_5:=ab ha e2_4
 have e3_5:=ab ha e3_4
 have e4_5:=ab ha e4_4
 have f1_5:=locG hC (by simp only [List.mem_singleton]; omega) f1_4
 have f2_5:=X2
 have R4_5:=hC.holdsG (by simp only [List.mem_singleton]; omega) R4_4
 clear hC hall X2 X3
 repeat first | apply lk | apply ll
 refine ld bb_5 [kZ 79 (-n),kZ 79 (-d),kZRs [(79,(-n)),(79,(-d))],kZ 79 ((zgcd [((-n)),((-d))] : Nat) : Int),PK.fresh 2,kPutZ 4 79 ((zgcd [((-n)),((-d))] : Nat) : Int)] [[],[],[0,1],[2],[],[4,3]] [35,36,37,38,6,999] [] [] ?_ ?_
 ·
   refine ai f1_5.atR e2_5 ?_; refine ai f2_5.atR e3_5 ?_; refine aa rfl rfl (eb rfl rfl rfl) ?_; refine aa rfl rfl (ae rfl rfl fun hC h1=>tz (r2_gcd 79 h1 (by kernel_rfl) (by decide) (by simp))) ?_; refine au ?_; refine bc ?_; exact ag rfl
 intro W_6 z a_6 hC hall ha hN_6 hD_6 bb_6
 obtain ⟨g6,hx,hge,hl⟩:=cb (lr hall 5)
 have d6:=Nat.lt_of_lt_of_le R4_5.lt hge
 have e2_6:=ab ha e2_5
 have e3_6:=ab ha e3_5
 have e4_6:=ab ha e4_5
 have e6_6:=(an (t:=6) (i:=4) ha).trans (hx)
 have f1_6:=hC.locR f1_5
 have f2_6:=hC.locR f2_5
 have R4_6:=hC.holds R4_5
 have x6_6:=hl
 clear hx hge hl hC hall
 repeat first | apply lk | apply ll
 refine ld bb_6 [kZ 79 (-n),kZ 79 ((zgcd [((-n)),((-d))] : Nat) : Int),kZQ 160 160 (zq (-n) ((zgcd [((-n)),((-d))] : Nat) : Int)) (zm (-n) ((zgcd [((-n)),((-d))] : Nat) : Int)) 0,kZQ 160 160 (zq (-n) ((zgcd [((-n)),((-d))] : Nat) : Int)) (zm (-n) ((zgcd [((-n)),((-d))] : Nat) : Int)) 0,kZ 160 (zq (-n) ((zgcd [((-n)),((-d))] : Nat) : Int)),kZ 160 (zm (-n) ((zgcd [((-n)),((-d))] : Nat) : Int)),kIs (.int .i64 (0)),PK.fresh 2,PK.fresh 2,kPutZ 7 160 (zq (-n) ((zgcd [((-n)),((-d))] : Nat) : Int)),kPutZ 8 160 (zm (-n) ((zgcd [((-n)),((-d))] : Nat) : Int)),kIs (.int .i64 (0))] [[],[],[0,1],[2],[3],[3],[3],[],[],[7,4],[8,5],[6]] [40,41,42,39,43,44,45,7,8,999,999,9] [] [] ?_ ?_
 ·
   refine ai f1_6.atR e2_6 ?_; refine ai x6_6.atR e6_6 ?_; refine aa rfl rfl (ap rfl rfl rfl fun hC h1 h2=>tdmX (r2_divModX hg (rr h1) (rr h2))) ?_; refine aa rfl rfl (cw rfl rfl) ?_; refine bf ext_q ?_; refine bf ext_r ?_; refine bf ext_e ?_; refine au ?_; refine au ?_; refine bc ?_; refine bc ?_; refine p10 ?_; exact ag rfl
 intro W_7 z a_7 hC hall ha hN_7 hD_7 bb_7
 obtain ⟨g7,hx,hge,hl⟩:=cb (lr hall 9)
 have d7:=Nat.lt_of_lt_of_le R4_6.lt hge
 have e3_7:=ab ha e3_6
 have e4_7:=ab ha e4_6
 have e6_7:=ab ha e6_6
 have e7_7:=(an (t:=7) (i:=7) ha).trans (hx)
 have f2_7:=hC.locR f2_6
 have R4_7:=hC.holds R4_6
 have x6_7:=hC.locR x6_6
 have x7_7:=hl
 clear hx hge hl hC hall
 repeat first | apply lk | apply ll
 refine ld bb_7 [kZ 79 (-d),kZ 79 ((zgcd [((-n)),((-d))] : Nat) : Int),kZQ 160 160 (zq (-d) ((zgcd [((-n)),((-d))] : Nat) : Int)) (zm (-d) ((zgcd [((-n)),((-d))] : Nat) : Int)) 0,kZQ 160 160 (zq (-d) ((zgcd [((-n)),((-d))] : Nat) : Int)) (zm (-d) ((zgcd [((-n)),((-d))] : Nat) : Int)) 0,kZ 160 (zq (-d) ((zgcd [((-n)),((-d))] : Nat) : Int)),kZ 160 (zm (-d) ((zgcd [((-n)),((-d))] : Nat) : Int)),kIs (.int .i64 (0)),PK.fresh 2,PK.fresh 2,kPutZ 7 160 (zq (-d) ((zgcd [((-n)),((-d))] : Nat) : Int)),kPutZ 8 160 (zm (-d) ((zgcd [((-n)),((-d))] : Nat) : Int)),kIs (.int .i64 (0))] [[],[],[0,1],[2],[3],[3],[3],[],[],[7,4],[8,5],[6]] [47,48,49,46,50,51,52,10,11,999,999,12] [] [] ?_ ?_
 ·
   refine ai f2_7.atR e3_7 ?_; refine ai x6_7.atR e6_7 ?_; refine aa rfl rfl (ap rfl rfl rfl fun hC h1 h2=>tdmX (r2_divModX hg (rr h1) (rr h2))) ?_; refine aa rfl rfl (cw rfl rfl) ?_; refine bf ext_q ?_; refine bf ext_r ?_; refine bf ext_e ?_; refine au ?_; refine au ?_; refine bc ?_; refine bc ?_; refine p10 ?_; exact ag rfl
 intro W_8 z a_8 hC hall ha hN_8 hD_8 bb_8
 obtain ⟨g10,hx,hge,hl⟩:=cb (lr hall 9)
 have d10:=Nat.lt_of_lt_of_le R4_7.lt hge
 have e4_8:=ab ha e4_7
 have e7_8:=ab ha e7_7
 have e10_8:=(an (t:=10) (i:=7) ha).trans (hx)
 have R4_8:=hC.holds R4_7
 have x7_8:=hC.locR x7_7
 have x10_8:=hl
 clear hx hge hl hC hall
 repeat first | apply lk | apply ll
 refine lu bb_8 R4_8 [kZ 160 (zq (-n) ((zgcd [((-n)),((-d))] : Nat) : Int)),kZ 160 (zq (-d) ((zgcd [((-n)),((-d))] : Nat) : Int)),kP 160 (zq (-n) ((zgcd [((-n)),((-d))] : Nat) : Int)) (zq (-d) ((zgcd [((-n)),((-d))] : Nat) : Int)),kRes (w.heap.size + 1 + 1) 160 (zq (-n) ((zgcd [((-n)),((-d))] : Nat) : Int)) (zq (-d) ((zgcd [((-n)),((-d))] : Nat) : Int)),kIs (.int .i64 (0))] [[],[],[0,1],[2],[]] [53,54,55,999,5] [] [] ?_ ?_
 ·
   refine ai (hG:=(by simp only [List.mem_singleton]; omega)) x7_8.atR e7_8 ?_; refine ai (hG:=(by simp only [List.mem_singleton]; omega)) x10_8.atR e10_8 ?_; refine aa rfl rfl (fx (k:=160) rfl rfl rfl) ?_; refine aa rfl rfl (eu R4_8 rfl e4_8 rfl rfl) ?_; refine p00 ?_; exact ag rfl
 intro W z a1 hC hall ha hN1 hD1 bb1
 obtain ⟨cs,hgg,hP⟩:=lr hall 3
 have i4:=ab (t:=4) ha e4_8
 have i5:=le ha hall 5 4
 repeat first | apply lk | apply ll
 refine wp_ret ?_
 repeat (refine then_r ?_)
 exact im (t:=4) (u:=5) rfl hD1 i4 i5 hgg hP fun v hv=>⟨v,rfl,by rw [HQ.out.1,HQ.out.2]; exact hv,bb1⟩
theorem refOf_yesX {w : World} {v1 v2 : Value} {n d : Int} (hd : d ≠ 0) (h1 : Zr w v1 79 n) (h2 : Zr w v2 79 d) :
   Calls Tryz.prog 15 #[v1,v2] w (fun e w'=>∃ v,e = .returned (.tuple #[v,.int .i64 (0)]) ∧ Pr w' v 160 (Rat.divInt n d).num ((Rat.divInt n d).den : Int) ∧ Below w.heap.size w w'):=by
 have hs : ∀ {p q : Int},0 < q → sdiv p q = ((zgcd [(p),(q)] : Nat) : Int):=fun {p q} hq=>by unfold sdiv; rw [if_neg (by omega)]
 rcases Int.lt_or_gt_of_ne hd with h | h
 · have hq : (0 : Int) < -d:=by omega
   have hne : -d ≠ 0:=by omega
   have hx:=refOf_NX h (by rw [← hs hq]; exact sdiv_ne hne) h1 h2; rw [← hs hq,jq hne,jr hne,Rat.neg_divInt_neg] at hx; exact hx
 · have hx:=refOf_PX h (by rw [← hs h]; exact sdiv_ne hd) h1 h2; rw [← hs h,jq hd,jr hd] at hx; exact hx
theorem mul2_ofX {a b : Int} (h1 : a.natAbs < 1000000000 ^ 79) (h2 : b.natAbs < 1000000000 ^ 79) : Mul2X a b:=by
 refine ⟨Nat.lt_of_lt_of_le h1 (pow_le (by decide)),?_⟩
 rw [Int.natAbs_mul]
 have h:=Nat.mul_lt_mul'' h1 h2
 rw [← Nat.pow_add] at h
 exact Nat.lt_of_lt_of_le h (pow_le (by decide))
theorem ref_mulX {w : World} {v1 v2 : Value} {zx zy : Int} (h1 : Zr w v1 79 (zx)) (h2 : Zr w v2 79 (zy)) :
   Calls Tryz.prog 68 #[v1,v2] w (TellsZ w 159 ((zx) * (zy))):=by
 have U1:=Lib.hid h1.lt
 obtain ⟨y1,z1,rfl,H1⟩:=h1.op
 have U2:=Lib.hid h2.lt
 obtain ⟨y2,z2,rfl,H2⟩:=h2.op
 go_enter Tryz.func68,Tryz.ntmps68
 repeat apply wp_seq
 refine ls fun K HK=>?_
 go_wp2
 refine HK.out _ _ (then_n ?_)
 refine O39 (G:=fun W=>Code.wp _ _ _ _ W) ?_
 intro W_0 bb_0 K0 K1 K2
 have f1_0:=H1.out _ _ _ bb_0 K0
 have f2_0:=H2.out _ _ _ bb_0 K1
 have R_0:=lc K2
 clear K0 K1 K2
 refine lm (G:=fun a=>Code.wp _ _ _ a _) 9 ?_
 intro a_0 ha hN_0 hD_0
 have e2_0:=lj ha 2 w.heap.size
 have e3_0:=lj ha 3 (w.heap.size + 1)
 have e4_0:=lj ha 4 (w.heap.size + 1 + 1)
 repeat first | apply lk | apply ll
 refine lu bb_0 R_0 [kZ 79 (zx),kZ 79 (zy),kZRs [(79,zx),(79,zy)],kZ 159 ((zx) * (zy)),kResZ (w.heap.size + 1 + 1) 159 ((zx) * (zy))] [[],[],[0,1],[2],[3]] [5,6,7,8,999] [] [] ?_ ?_
 ·
   refine ai (hG:=(by simp only [List.mem_singleton]; omega)) f1_0 e2_0 ?_; refine ai (hG:=(by simp only [List.mem_singleton]; omega)) f2_0 e3_0 ?_; refine aa rfl rfl (eb rfl rfl rfl) ?_; refine aa rfl rfl (ae rfl rfl fun hC h1=>tz (r2_mul2X h1 (mul2_ofX U1.out U2.out))) ?_; refine aa rfl rfl (ce R_0 e4_0 rfl rfl) ?_; exact ag rfl
 intro W x a1 hC hall ha hN1 hD1 bb1
 obtain ⟨cs,hg,hP⟩:=lr hall 4
 have e1:=ab (t:=4) ha e4_0
 repeat first | apply lk | apply ll
 refine wp_ret ?_
 repeat (refine then_r ?_)
 exact ci (t:=4) rfl hD1 e1 hg hP fun v hv=>⟨v,rfl,hv,bb1⟩
theorem mul79 {w : World} {v1 v2 : Value} {x y : Int} (h1 : Zr w v1 79 x) (h2 : Zr w v2 79 y) (hxy : (x * y).natAbs < 1000000000 ^ 78) : Calls Tryz.prog 68 #[v1,v2] w (TellsZ w 78 (x * y)) :=
 (ref_mulX h1 h2).mono fun _ _ ⟨v,e,hz,hb⟩=>⟨v,e,hz.tight hxy,hb⟩
theorem add79 {w : World} {v : Value} {S0 : Nat} {x : Nat → Value} {a b : Int} (h : (kZRs [(78,a),(78,b)]).sem S0 x v w) (ha : a.natAbs < 1000000000 ^ 78) (hb : b.natAbs < 1000000000 ^ 78) : Calls Tryz.prog 48 #[v] w (TellsZ w 79 (a + b)):=by
 obtain ⟨g,rfl,_,hg,hz⟩:=h
 have hab : (a + b).natAbs < 1000000000 ^ 79:=by
   have h1:=Int.natAbs_add_le a b; rw [show (1000000000 : Nat) ^ 79 = 1000000000 ^ 78 * 1000000000 from Nat.pow_succ ..]; omega
 have h:=r2_addC (M:=79) (Lib.hid (by decide)) (by decide) (c0:=2) (l:=[(78,a),(78,b)]) (zcs_of hz hg (by simp)) (by simp) (by simp) (fun i hi=>by
   have hi2 : i ≤ 2:=hi; have h3 : i = 0 ∨ i = 1 ∨ i = 2:=by omega
   have ha' : a.natAbs < 1000000000 ^ 79:=Nat.lt_of_lt_of_le ha (pow_le (by decide)); rcases h3 with rfl | rfl | rfl
   · exact (by decide : (0 : Int).natAbs < 1000000000 ^ 79)
   · simpa [qsum] using ha'
   · simpa [qsum] using hab)
 simpa [qsum] using h
end Go.Proofs.YtifgcjpgelbelaaGreatDoor
set_option linter.unusedVariables false
set_option linter.unusedSimpArgs false
namespace Go.Proofs.YtifgcjpgelbelaaGreatDoor
open Go.RowKit
def ElA (Sb : Nat) (W : World) (A0 : Option Addr) (i : Nat) (E : Value → World → Prop) : Prop:=∃ ad,A0 = some ad ∧ ad.block < Sb ∧ ∃ u0 u1 u2 u3,CellsQ W (ad.add (i * 4)) u0 u1 u2 u3 ∧ E (.agg #[u0,u1,u2,u3]) W
theorem CellsQ.below {W w' : World} {p : Addr} {u0 u1 u2 u3 : Value} (h : CellsQ W p u0 u1 u2 u3) (hb : Below W.heap.size W w') : CellsQ w' p u0 u1 u2 u3 :=
 ⟨(hb.cell (cell_lt h.1)).trans h.1,(hb.cell (cell_lt h.2.1)).trans h.2.1,(hb.cell (cell_lt h.2.2.1)).trans h.2.2.1,(hb.cell (cell_lt h.2.2.2)).trans h.2.2.2⟩
theorem CellsQ.regG {B : Nat} {W0 w : World} {G : List Nat} {p : Addr} {u0 u1 u2 u3 : Value} (h : CellsQ W0 p u0 u1 u2 u3) (hg : p.block ∉ G) (hC : Reg B W0 G w) : CellsQ w p u0 u1 u2 u3 :=
 ⟨hC.cellAt hg h.1,hC.cellAt hg h.2.1,hC.cellAt hg h.2.2.1,hC.cellAt hg h.2.2.2⟩
theorem ElA.below {Sb : Nat} {W w' : World} {A0 : Option Addr} {i : Nat} {E : Value → World → Prop} (h : ElA Sb W A0 i E) (hE : ∀ v w w',E v w → Below w.heap.size w w' → E v w') (hb : Below W.heap.size W w') : ElA Sb w' A0 i E:=by
 obtain ⟨ad,e,hs,u0,u1,u2,u3,h1,h2⟩:=h
 exact ⟨ad,e,hs,u0,u1,u2,u3,h1.below hb,hE _ _ _ h2 hb⟩
theorem ElA.regG {Sb B : Nat} {W w : World} {A0 : Option Addr} {i : Nat} {G : List Nat} {E : Nat → Value → World → Prop} (h : ElA Sb W A0 i (E i)) (hE : ∀ i v B (W0 : World) G w,Reg B W0 G w → E i v W0 → E i v w) (hG : ∀ g ∈ G,Sb ≤ g) (hC : Reg B W G w) : ElA Sb w A0 i (E i):=by
 obtain ⟨ad,e,hs,u0,u1,u2,u3,h1,h2⟩:=h
 exact ⟨ad,e,hs,u0,u1,u2,u3,h1.regG (by rw [fo]; intro hg; have:=hG _ hg; omega) hC,hE _ _ _ _ _ _ hC h2⟩
theorem AtR.tightM {W : World} {g o j k : Nat} {z : Int} (h : AtR W g o j z) (hz : z.natAbs < 1000000000 ^ k) : AtR W g o k z:=by
 obtain ⟨A,l,c,h1,h2,h3⟩:=h
 exact ⟨A,l,c,h1,h2,h3.tight hz⟩
theorem LocP.tight {W : World} {g j k : Nat} {x y : Int} (h : LocP W g j x y) (hx : x.natAbs < 1000000000 ^ k) (hy : y.natAbs < 1000000000 ^ k) : LocP W g k x y:=⟨h.1,h.2.1.tightM hx,h.2.2.tightM hy⟩
theorem mul_lt78 {a b : Nat} (h1 : a < 1000000000 ^ 49) (h2 : b < 1000000000 ^ 9) : a * b < 1000000000 ^ 78:=by
 have h:=Nat.mul_lt_mul'' h1 h2
 rw [← Nat.pow_add] at h
 exact Nat.lt_of_lt_of_le h (pow_le (by decide))
theorem mul57 {a b : Int} (h1 : a.natAbs < 1000000000 ^ 49) (h2 : b.natAbs < 1000000000 ^ 9) : (a * b).natAbs < 1000000000 ^ 78:=by
 rw [Int.natAbs_mul]; exact mul_lt78 h1 h2
theorem mul58 {a : Int} {b : Nat} (h1 : a.natAbs < 1000000000 ^ 49) (h2 : b < 1000000000 ^ 9) : (a * (b : Int)).natAbs < 1000000000 ^ 78:=mul57 h1 h2
theorem mul59 {a : Int} {b : Nat} (h1 : a.natAbs < 1000000000 ^ 9) (h2 : b < 1000000000 ^ 49) : (a * (b : Int)).natAbs < 1000000000 ^ 78:=by
 rw [Int.mul_comm]; exact mul57 (a:=(b : Int)) h2 h1
section
variable {G : List Nat} {S0 B : Nat} {ks : List PK} {a0 : Act} {i : Nat} {N : Nat} {W0 : World} {T : TypeId} {pos : String} {af : Array Edge} {gu : Option (Nat × Bool)}
theorem jj {d t j n : Nat} {p : Addr} {u0 u1 u2 u3 : Value} {E : Nat → Value → World → Prop} {hb hs} (hl : CellsQ W0 p u0 u1 u2 u3) (hv : E n (.agg #[u0,u1,u2,u3]) W0) (hE : ∀ i v B (W0 : World) G w,Reg B W0 G w → E i v W0 → E i v w)     (hj : at_ ks j = kIs (.pointer (some p))) (hi : at_ ks i = .p (E n) hb hs) (hG : p.block ∉ G:=by simp) (hN : a0.tmps.size = N:=by assumption) (hd : decide (d < N) = true:=by kernel_rfl) (ht : decide (t < N) = true:=by kernel_rfl) :
   PkStep Tryz.prog (Reg B W0 G) S0 ks a0 i { dst:=some d,op:=.load 26 (.tmp t),type:=T,pos:=pos,after:=af,guard:=gu } [(j,some t)]:=by
 intro w x hC
 refine aw _ fun hdeps K hK=>?_
 have h1:=hdeps (j,some t) (by simp)
 rw [hj] at h1
 have e1 : (putE x a0 [(j,some t)]).eval (.tmp t) = x j:=putE_new _ _ (by rw [hN]; exact of_decide_eq_true ht) (by simp [slotAt])
 obtain ⟨m1,m2,m3,m4⟩:=hl.regG hG hC
 refine bj (w':=w) rfl (by rw [ax,hN]) hd (ex_load (e1.trans h1) (run_loadQA m1 m2 m3 m4)) (hK _ _ ?_ ?_)
 · rw [hi]; exact Below.refl _ _
 · rw [hi]; exact hE _ _ _ _ _ _ hC hv
end
theorem refAddN {w : World} {A0 : Option Addr} {n c0 : Nat} {E : Nat → Value → World → Prop} {A S : Nat → Rat} (hEb : ∀ i v w w', E i v w → Below w.heap.size w w' → E i v w') (hEs : ∀ i v w w' g, E i v w → Stored g w w' → E i v w') (hER : ∀ i v B (W0 : World) G w, Reg B W0 G w → E i v W0 → E i v w)
   (HT : ∀ i,i < n → ∀ (W : World) (v : Value),Below w.heap.size w W → E i v W → Calls Tryz.prog 67 #[v] W (TellsP W 9 (A i).num ((A i).den : Int)))
   (h : ∀ i,i < n → ElA w.heap.size w A0 i (E i)) (hn : n ≤ 100000) (hS0 : S 0 = 0) (hS : ∀ i,i < n → S (i + 1) = S i + A i) (hSb : ∀ i,i ≤ n → (S i).num.natAbs < 1000000000 ^ 49 ∧ (S i).den < 1000000000 ^ 49) (hAb : ∀ i,i < n → (A i).num.natAbs < 1000000000 ^ 9 ∧ (A i).den < 1000000000 ^ 9) :
   Calls Tryz.prog 36 #[.slice A0 n c0] w (TellsP w 49 (S n).num ((S n).den : Int)):=by
 have hl2:=h
 clear h
 go_enter Tryz.func36,Tryz.ntmps36
 repeat apply wp_seq
 refine ls fun K HK=>?_
 go_wp2
 refine HK.out _ _ (then_n ?_)
 refine lp (G:=fun W=>Code.wp _ _ _ _ W) ?_
 intro W_0 bb_0 K0
 have R4_0:=kg K0
 have LL_0 : ∀ i,i < n → ElA w.heap.size W_0 A0 i (E i):=fun i hi=>(hl2 i hi).below (hEb i) bb_0
 clear K0 hl2
 refine lm (G:=fun a=>Code.wp _ _ _ a _) 40 ?_
 intro a_0 ha hN_0 hD_0
 have e0_0 : a_0.eval (.tmp 0) = (.slice A0 n c0):=ln ha
 have e2_0:=lj ha 2 w.heap.size
 repeat first | apply lk | apply ll
 refine ld bb_0 [kP 1 0 1,PK.fresh 4,kPutP 1 1 0 1] [[],[],[1,0]] [6,3,999] [] [] ?_ ?_
 ·
   refine aa rfl rfl (be [] rfl rfl fun hC=>tp ref_nought) ?_; refine aa rfl rfl (ea rfl) ?_; refine aa rfl rfl (ju rfl rfl rfl) ?_; exact ag rfl
 intro W_1 z a_1 hC hall ha hN_1 hD_1 bb_1
 obtain ⟨g3,hx,hge,y1,y2⟩:=jt (lr hall 2)
 obtain ⟨u1,u2,u3,u4,hh⟩:=put_four (show (kPutP 1 1 0 1).sem _ _ _ _ from hall 2 (of_decide_eq_true (by kernel_rfl))) hx
 have d3:=Nat.lt_of_lt_of_le R4_0.lt hge
 have e0_1:=ab ha e0_0
 have e2_1:=ab ha e2_0
 have e3_1:=(an (t:=3) (i:=1) ha).trans (hx)
 have R4_1:=hC.holds R4_0
 have LL_1:=(fun i hi=>(LL_0 i hi).regG hER (by simp) hC)
 have X_1 : LocP W_1 g3 49 (S 0).num ((S 0).den : Int):=by rw [hS0]; exact ⟨⟨_,_,_,_,hh⟩,y1.up (by decide),y2.up (by decide)⟩
 clear hx hge hC hall y1 y2 hh
 repeat first | apply lk | apply ll
 refine wp_set fun z hx=>?_
 refine then_n ?_
 obtain ⟨a_2,ha⟩ : ∃ a,a = putE z a_1 [(0,some 4)]:=⟨_,rfl⟩
 rw [← ha]
 have hN_2:=size_behind ha hN_1
 have hD_2:=defers_behind ha hD_1
 have e0_2:=ab ha e0_1
 have e2_2:=ab ha e2_1
 have e3_2:=ab ha e3_1
 have e4_2:=(an (t:=4) (i:=0) ha).trans (hx)
 have bb_2:=bb_1
 have R4_2:=R4_1
 have LL_2:=LL_1
 have X_2:=X_1
 clear hx
 repeat first | apply lk | apply ll
 refine wp_block ?_
 refine wp_loop (fun a W=>a.tmps.size = 40 ∧ a.defers = [] ∧ a.eval (.tmp 0) = (.slice A0 n c0) ∧ a.eval (.tmp 2) = (.pointer (some ⟨w.heap.size,0,none⟩)) ∧ a.eval (.tmp 3) = .pointer (some ⟨g3,0,none⟩) ∧ Below w.heap.size w W ∧ Holds_ W w.heap.size #[Value.bool false,Value.slice none 0 0,Value.bool false,Value.slice none 0 0] ∧ (∀ i,i < n → ElA w.heap.size W A0 i (E i)) ∧ ∃ i : Nat,i ≤ n ∧ a.eval (.tmp 4) = .int .i64 (i : Int) ∧ LocP W g3 49 (S i).num ((S i).den : Int)) (fun a _=>n - (intOf (a.eval (.tmp 4))).toNat) ?_ ?_
 · exact ⟨hN_2,hD_2,e0_2,e2_2,e3_2,bb_2,R4_2,LL_2,0,Nat.zero_le _,e4_2,X_2⟩
 clear hN_2 hD_2 e0_2 e2_2 e3_2 e4_2 bb_2 R4_2 LL_2 X_2
 rintro a_10 W_10 ⟨hN_10,hD_10,e0_10,e2_10,e3_10,bb_10,R4_10,LL_10,i,hi7,e4_10,X_10⟩
 have hm : intOf (a_10.eval (.tmp 4)) = (i : Int):=by rw [e4_10]; rfl
 rw [hm]
 clear hm
 repeat first | apply lk | apply ll
 refine wp_less e4_10 e0_10 (len_runR _ _ _ _) (less_run _ _) fun z hx=>?_
 refine then_n ?_
 obtain ⟨a_11,ha⟩ : ∃ a,a = putE z a_10 [(0,some 7),(1,some 8),(2,some 9),(3,some 10)]:=⟨_,rfl⟩
 rw [← ha]
 have hN_11:=size_behind ha hN_10
 have hD_11:=defers_behind ha hD_10
 have e0_11:=ab ha e0_10
 have e2_11:=ab ha e2_10
 have e3_11:=ab ha e3_10
 have e4_11:=ab ha e4_10
 have e10_11:=(an (t:=10) (i:=3) ha).trans (hx)
 have bb_11:=bb_10
 have R4_11:=R4_10
 have LL_11:=LL_10
 have X_11:=X_10
 clear hx
 by_cases hi : i < n
 ·
   have hc : decide ((i : Int) < (n : Int)) = true:=decide_eq_true (by omega); rw [hc] at e10_11; clear hc; refine wp_cond_true e10_11 ?_; refine wp_skip ?_; refine then_n ?_
   repeat first | apply lk | apply ll
   refine wp_block ?_
   repeat first | apply lk | apply ll
   obtain ⟨ad,rfl,hbk,u00,u01,u02,u03,hcq,hEi⟩:=LL_11 i hi; refine ld bb_11 [kIs ((.slice (some ad) n c0)),kIs (.int .i64 (i : Int)),kIs (.pointer (some (ad.add (i * 4)))),PK.p (E i) (hEb i) (hEs i),kP 9 (A i).num ((A i).den : Int),PK.fresh 4,kPutP 5 9 (A i).num ((A i).den : Int)] [[],[],[0,1],[2],[3],[],[5,4]] [13,14,15,16,17,5,999] [] [] ?_ ?_
   ·
     refine p01 e0_11 ?_; refine p01 e4_11 ?_; refine aa rfl rfl (ky hi hN_11 rfl rfl rfl) ?_; refine aa rfl rfl (jj hcq hEi hER rfl rfl) ?_; refine aa rfl rfl (ae rfl rfl fun hC h1=>tp (HT i hi _ _ (bb_11.trans hC.below) h1)) ?_; refine aa rfl rfl (ea rfl) ?_; refine aa rfl rfl (ju rfl rfl rfl) ?_; exact ag rfl
   intro W_11 z a_12 hC hall ha hN_12 hD_12 bb_12; obtain ⟨g5,hx,hge,y1,y2⟩:=jt (lr hall 6); have d5 : g3 < g5:=by obtain ⟨⟨_,_,_,_,hh⟩,_⟩:=X_11; exact Nat.lt_of_lt_of_le hh.lt hge
   have e0_12:=ab ha e0_11; have e2_12:=ab ha e2_11; have e3_12:=ab ha e3_11; have e4_12:=ab ha e4_11; have e5_12:=(an (t:=5) (i:=5) ha).trans (hx); have R4_12:=hC.holds R4_11
   have LL_12:=(fun i hi=>(LL_11 i hi).regG hER (by simp) hC)
   have X_12:=hC.locP (by simp) X_11; have y1_12:=y1; have y2_12:=y2; clear hx hge hC hall y1 y2 hcq hEi
   repeat first | apply lk | apply ll
   obtain ⟨⟨u1, u2, u3, u4, X3⟩, s1, s2⟩ := X_12; have t1 := s1; have t2 := s2; have hsi := hSb i (Nat.le_of_lt hi); have hai := hAb i hi; have bd : ((((S i).den : Int) * ((A i).den : Int))).natAbs < 1000000000 ^ 78 := mul58 hsi.2 hai.2; have bx : (((S i).num * ((A i).den : Int))).natAbs < 1000000000 ^ 78 := mul58 hsi.1 hai.2; have by_ : (((A i).num * ((S i).den : Int))).natAbs < 1000000000 ^ 78 := mul59 hai.1 hsi.2; refine ec hN_12 w.heap.size g3 X3 (by omega) 21 [1, 8, 13] [kIs (.pointer (some ⟨g3, 0, none⟩)), kZ 49 (S i).num, kIs (.pointer (some ⟨g5, 2, none⟩)), kZ 9 ((A i).den : Int), kZ 78 ((S i).num * ((A i).den : Int)), kIs (.pointer (some ⟨g5, 0, none⟩)), kZ 9 (A i).num, kIs (.pointer (some ⟨g3, 2, none⟩)), kZ 49 ((S i).den : Int), kZ 78 ((A i).num * ((S i).den : Int)), kZRs [(78, ((S i).num * ((A i).den : Int))), (78, ((A i).num * ((S i).den : Int)))], kZ 79 (((S i).num * ((A i).den : Int)) + ((A i).num * ((S i).den : Int))), kIs (.pointer (some ⟨g3, 2, none⟩)), kZ 49 ((S i).den : Int), kIs (.pointer (some ⟨g5, 2, none⟩)), kZ 9 ((A i).den : Int), kZ 78 (((S i).den : Int) * ((A i).den : Int)), kPT 160 ((Rat.divInt (((S i).num * ((A i).den : Int)) + ((A i).num * ((S i).den : Int))) (((S i).den : Int) * ((A i).den : Int))).num) (((Rat.divInt (((S i).num * ((A i).den : Int)) + ((A i).num * ((S i).den : Int))) (((S i).den : Int) * ((A i).den : Int))).den : Int)) (.int .i64 (0)), kPT 160 ((Rat.divInt (((S i).num * ((A i).den : Int)) + ((A i).num * ((S i).den : Int))) (((S i).den : Int) * ((A i).den : Int))).num) (((Rat.divInt (((S i).num * ((A i).den : Int)) + ((A i).num * ((S i).den : Int))) (((S i).den : Int) * ((A i).den : Int))).den : Int)) (.int .i64 (0)), kP 160 ((Rat.divInt (((S i).num * ((A i).den : Int)) + ((A i).num * ((S i).den : Int))) (((S i).den : Int) * ((A i).den : Int))).num) (((Rat.divInt (((S i).num * ((A i).den : Int)) + ((A i).num * ((S i).den : Int))) (((S i).den : Int) * ((A i).den : Int))).den : Int)), kIs (.int .i64 (0)), kRes g3 160 ((Rat.divInt (((S i).num * ((A i).den : Int)) + ((A i).num * ((S i).den : Int))) (((S i).den : Int) * ((A i).den : Int))).num) (((Rat.divInt (((S i).num * ((A i).den : Int)) + ((A i).num * ((S i).den : Int))) (((S i).den : Int) * ((A i).den : Int))).den : Int))]
     [ [],[(0,some 19)],[],[(2,some 21)],[(1,some 20),(3,some 22)],[],[(5,some 24)],[],[(7,some 26)],[(6,some 25),(8,some 27)],[(4,some 23),(9,some 28)],[(10,some 29)],[],[(12,some 31)],[],[(14,some 33)],[(13,some 32),(15,some 34)],[(11,some 30),(16,some 35)],[(17,some 36)],[(18,some 18)],[(18,some 18)],[(19,some 37)] ] [(0,some 19),(1,some 20),(2,some 21),(3,some 22),(4,some 23),(5,some 24),(6,some 25),(7,some 26),(8,some 27),(9,some 28),(10,some 29),(11,some 30),(12,some 31),(13,some 32),(14,some 33),(15,some 34),(16,some 35),(17,some 36),(18,some 18),(19,some 37),(20,some 38),(21,none)] [] [] (by kernel_rfl) (by kernel_rfl) (by kernel_rfl) (by kernel_rfl) (by kernel_rfl) (by kernel_rfl) (by kernel_rfl) rfl rfl (by kernel_rfl) (by kernel_rfl) bb_12.size ?_ ?_
   ·
     refine aj rfl rfl (br [] [(3,.pointer (some ⟨g3,0,none⟩))] (.pointer (some ⟨g3,0,none⟩)) rfl (old1 e3_12)) ?_; refine cp rfl rfl rfl ?_ ?_
     · exact gy t1 rfl rfl
     refine aj rfl rfl (br [] [(5,.pointer (some ⟨g5,0,none⟩))] (.pointer (some ⟨g5,2,none⟩)) rfl (old1 e5_12)) ?_; refine aj rfl rfl (ik (hG:=(by simp only [List.mem_singleton]; omega)) y2_12 rfl rfl) ?_; refine aj rfl rfl (ap rfl rfl rfl fun hC h1 h2=>tz (mul79 ((rr h1).mono (by decide)) ((rr h2).mono (by decide)) bx)) ?_; refine aj rfl rfl (br [] [(5,.pointer (some ⟨g5,0,none⟩))] (.pointer (some ⟨g5,0,none⟩)) rfl (old1 e5_12)) ?_; refine aj rfl rfl (ik (hG:=(by simp only [List.mem_singleton]; omega)) y1_12 rfl rfl) ?_; refine aj rfl rfl (br [] [(3,.pointer (some ⟨g3,0,none⟩))] (.pointer (some ⟨g3,2,none⟩)) rfl (old1 e3_12)) ?_; refine cp rfl rfl rfl ?_ ?_
     · exact gy t2 rfl rfl
     refine aj rfl rfl (ap rfl rfl rfl fun hC h1 h2=>tz (mul79 ((rr h1).mono (by decide)) ((rr h2).mono (by decide)) by_)) ?_; refine aj rfl rfl (eb rfl rfl rfl) ?_; refine aj rfl rfl (ae rfl rfl fun hC h1=>tz (add79 h1 bx by_)) ?_; refine aj rfl rfl (br [] [(3,.pointer (some ⟨g3,0,none⟩))] (.pointer (some ⟨g3,2,none⟩)) rfl (old1 e3_12)) ?_; refine cp rfl rfl rfl ?_ ?_
     · exact gy t2 rfl rfl
     refine aj rfl rfl (br [] [(5,.pointer (some ⟨g5,0,none⟩))] (.pointer (some ⟨g5,2,none⟩)) rfl (old1 e5_12)) ?_; refine aj rfl rfl (ik (hG:=(by simp only [List.mem_singleton]; omega)) y2_12 rfl rfl) ?_; refine aj rfl rfl (ap rfl rfl rfl fun hC h1 h2=>tz (mul79 ((rr h1).mono (by decide)) ((rr h2).mono (by decide)) bd)) ?_; refine aj rfl rfl (ap rfl rfl rfl fun hC h1 h2=>tpt (refOf_yesX (Int.mul_ne_zero (den_ne _) (den_ne _)) ((rr h1).mono (by decide)) ((rr h2).mono (by decide)))) ?_; refine aj rfl rfl (cw rfl rfl) ?_; refine aj rfl rfl (jg rfl rfl ext_p) ?_; refine aj rfl rfl (jg rfl rfl ext_v) ?_; refine aj rfl rfl (eu X3 rfl e3_12 rfl rfl) ?_; exact fa rfl
   intro W_20 z hC hall; have hres:=show (kRes g3 160 ((Rat.divInt (((S i).num * ((A i).den : Int)) + ((A i).num * ((S i).den : Int))) (((S i).den : Int) * ((A i).den : Int))).num) (((Rat.divInt (((S i).num * ((A i).den : Int)) + ((A i).num * ((S i).den : Int))) (((S i).den : Int) * ((A i).den : Int))).den : Int))).sem _ _ _ _ from hall 21 (of_decide_eq_true (by kernel_rfl))
   have X2 : LocP W_20 g3 49 (S (i + 1)).num ((S (i + 1)).den : Int):=by have h:=res_locP hres; rw [q_add,← hS i hi] at h; exact h.tight (hSb (i + 1) hi).1 (hSb (i + 1) hi).2
   obtain ⟨a_13,ha⟩ : ∃ a,a = putE z a_12 [(0,some 19),(1,some 20),(2,some 21),(3,some 22),(4,some 23),(5,some 24),(6,some 25),(7,some 26),(8,some 27),(9,some 28),(10,some 29),(11,some 30),(12,some 31),(13,some 32),(14,some 33),(15,some 34),(16,some 35),(17,some 36),(18,some 18),(19,some 37),(20,some 38),(21,none)]:=⟨_,rfl⟩
   rw [← ha]; have hN_13:=size_behind ha hN_12; have hD_13:=defers_behind ha hD_12; have e0_13:=ab ha e0_12; have e2_13:=ab ha e2_12; have e3_13:=ab ha e3_12; have e4_13:=ab ha e4_12; have bb_13:=bb_12.trans hC.below; have R4_13:=hC.holdsG (by simp only [List.mem_singleton]; omega) R4_12
   have LL_13:=(fun i hi=>(LL_12 i hi).regG hER (fun g hg=>by rw [List.mem_singleton.1 hg]; omega) hC)
   have X_13:=X2; clear hres X2 hC hall X3 t1 t2 s1 s2 y1_12 y2_12; refine io ?_; refine then_n ?_; refine wp_incr (n:=(i : Int)) (m:=((i + 1 : Nat) : Int)) e4_13 (add_run i 1 (by omega)) fun z hx=>?_
   obtain ⟨a_14,ha⟩ : ∃ a,a = putE z a_13 [(0,some 11),(1,some 12),(2,some 4)]:=⟨_,rfl⟩
   rw [← ha]; have hN_14:=size_behind ha hN_13; have hD_14:=defers_behind ha hD_13; have e0_14:=ab ha e0_13; have e2_14:=ab ha e2_13; have e3_14:=ab ha e3_13; have e4_14:=(an (t:=4) (i:=2) ha).trans (hx); have bb_14:=bb_13; have R4_14:=R4_13; have LL_14:=LL_13; have X_14:=X_13; refine then_n ⟨⟨hN_14,hD_14,e0_14,e2_14,e3_14,bb_14,R4_14,LL_14,i + 1,by omega,e4_14,X_14⟩,?_⟩; rw [show intOf (a_14.eval (.tmp 4)) = ((i + 1 : Nat) : Int) by rw [e4_14]; rfl]; omega
 ·
   have hc : decide ((i : Int) < (n : Int)) = false:=decide_eq_false (by omega); rw [hc] at e10_11; clear hc; refine wp_cond_false e10_11 ?_; refine wp_exit ?_; refine gn ?_; refine gn ?_; refine gd ?_; refine then_n ?_; obtain rfl : i = n:=by omega
   obtain ⟨_,s1,s2⟩:=X_11
   repeat first | apply lk | apply ll
   refine lu bb_11 R4_11 [kP 49 (S i).num ((S i).den : Int),kRes w.heap.size 49 (S i).num ((S i).den : Int)] [[],[0]] [39,999] [] [] ?_ ?_
   ·
     refine aa rfl rfl (cf (hG:=(by simp only [List.mem_singleton]; omega)) s1 s2 e3_11 rfl) ?_; refine aa rfl rfl (eu R4_11 rfl e2_11 rfl rfl) ?_; exact ag rfl
   intro W z a1 hC hall ha hN1 hD1 bb1; obtain ⟨cs,hgg,hP⟩:=lr hall 1; have i2:=ab (t:=2) ha e2_11
   repeat first | apply lk | apply ll
   refine wp_ret ?_
   repeat (refine then_r ?_)
   exact fy (t:=2) rfl hD1 i2 hgg hP fun v hv=>⟨v,rfl,hv,bb1⟩
theorem refMulN {w : World} {A0 : Option Addr} {n c0 : Nat} {E : Nat → Value → World → Prop} {A S : Nat → Rat} (hEb : ∀ i v w w', E i v w → Below w.heap.size w w' → E i v w') (hEs : ∀ i v w w' g, E i v w → Stored g w w' → E i v w') (hER : ∀ i v B (W0 : World) G w, Reg B W0 G w → E i v W0 → E i v w)
   (HT : ∀ i,i < n → ∀ (W : World) (v : Value),Below w.heap.size w W → E i v W → Calls Tryz.prog 67 #[v] W (TellsP W 9 (A i).num ((A i).den : Int)))
   (h : ∀ i,i < n → ElA w.heap.size w A0 i (E i)) (hn : n ≤ 100000) (hS0 : S 0 = 1) (hS : ∀ i,i < n → S (i + 1) = S i * A i) (hSb : ∀ i,i ≤ n → (S i).num.natAbs < 1000000000 ^ 49 ∧ (S i).den < 1000000000 ^ 49) (hAb : ∀ i,i < n → (A i).num.natAbs < 1000000000 ^ 9 ∧ (A i).den < 1000000000 ^ 9) :
   Calls Tryz.prog 37 #[.slice A0 n c0] w (TellsP w 49 (S n).num ((S n).den : Int)):=by
 have hl2:=h
 clear h
 go_enter Tryz.func37,Tryz.ntmps37
 repeat apply wp_seq
 refine ls fun K HK=>?_
 go_wp2
 refine HK.out _ _ (then_n ?_)
 refine lp (G:=fun W=>Code.wp _ _ _ _ W) ?_
 intro W_0 bb_0 K0
 have R4_0:=kg K0
 have LL_0 : ∀ i,i < n → ElA w.heap.size W_0 A0 i (E i):=fun i hi=>(hl2 i hi).below (hEb i) bb_0
 clear K0 hl2
 refine lm (G:=fun a=>Code.wp _ _ _ a _) 34 ?_
 intro a_0 ha hN_0 hD_0
 have e0_0 : a_0.eval (.tmp 0) = (.slice A0 n c0):=ln ha
 have e2_0:=lj ha 2 w.heap.size
 repeat first | apply lk | apply ll
 refine ld bb_0 [kZ 1 1,kP 19 1 1,PK.fresh 4,kPutP 2 19 1 1] [[],[0],[],[2,1]] [6,7,3,999] [] [] ?_ ?_
 ·
   refine aa rfl rfl (be [] rfl rfl fun hC=>tz ku) ?_; refine aa rfl rfl (ae rfl rfl fun hC h1=>tp (refWhole ((rr h1).mono (by decide)))) ?_; refine aa rfl rfl (ea rfl) ?_; refine aa rfl rfl (ju rfl rfl rfl) ?_; exact ag rfl
 intro W_1 z a_1 hC hall ha hN_1 hD_1 bb_1
 obtain ⟨g3,hx,hge,y1,y2⟩:=jt (lr hall 3)
 obtain ⟨u1,u2,u3,u4,hh⟩:=put_four (show (kPutP 2 19 1 1).sem _ _ _ _ from hall 3 (of_decide_eq_true (by kernel_rfl))) hx
 have d3:=Nat.lt_of_lt_of_le R4_0.lt hge
 have e0_1:=ab ha e0_0
 have e2_1:=ab ha e2_0
 have e3_1:=(an (t:=3) (i:=2) ha).trans (hx)
 have R4_1:=hC.holds R4_0
 have LL_1:=(fun i hi=>(LL_0 i hi).regG hER (by simp) hC)
 have X_1 : LocP W_1 g3 49 (S 0).num ((S 0).den : Int):=by rw [hS0]; exact ⟨⟨_,_,_,_,hh⟩,y1.up (by decide),y2.up (by decide)⟩
 clear hx hge hC hall y1 y2 hh
 repeat first | apply lk | apply ll
 refine wp_set fun z hx=>?_
 refine then_n ?_
 obtain ⟨a_2,ha⟩ : ∃ a,a = putE z a_1 [(0,some 4)]:=⟨_,rfl⟩
 rw [← ha]
 have hN_2:=size_behind ha hN_1
 have hD_2:=defers_behind ha hD_1
 have e0_2:=ab ha e0_1
 have e2_2:=ab ha e2_1
 have e3_2:=ab ha e3_1
 have e4_2:=(an (t:=4) (i:=0) ha).trans (hx)
 have bb_2:=bb_1
 have R4_2:=R4_1
 have LL_2:=LL_1
 have X_2:=X_1
 clear hx
 repeat first | apply lk | apply ll
 refine wp_block ?_
 refine wp_loop (fun a W=>a.tmps.size = 34 ∧ a.defers = [] ∧ a.eval (.tmp 0) = (.slice A0 n c0) ∧ a.eval (.tmp 2) = (.pointer (some ⟨w.heap.size,0,none⟩)) ∧ a.eval (.tmp 3) = .pointer (some ⟨g3,0,none⟩) ∧ Below w.heap.size w W ∧ Holds_ W w.heap.size #[Value.bool false,Value.slice none 0 0,Value.bool false,Value.slice none 0 0] ∧ (∀ i,i < n → ElA w.heap.size W A0 i (E i)) ∧ ∃ i : Nat,i ≤ n ∧ a.eval (.tmp 4) = .int .i64 (i : Int) ∧ LocP W g3 49 (S i).num ((S i).den : Int)) (fun a _=>n - (intOf (a.eval (.tmp 4))).toNat) ?_ ?_
 · exact ⟨hN_2,hD_2,e0_2,e2_2,e3_2,bb_2,R4_2,LL_2,0,Nat.zero_le _,e4_2,X_2⟩
 clear hN_2 hD_2 e0_2 e2_2 e3_2 e4_2 bb_2 R4_2 LL_2 X_2
 rintro a_10 W_10 ⟨hN_10,hD_10,e0_10,e2_10,e3_10,bb_10,R4_10,LL_10,i,hi7,e4_10,X_10⟩
 have hm : intOf (a_10.eval (.tmp 4)) = (i : Int):=by rw [e4_10]; rfl
 rw [hm]
 clear hm
 repeat first | apply lk | apply ll
 refine wp_less e4_10 e0_10 (len_runR _ _ _ _) (less_run _ _) fun z hx=>?_
 refine then_n ?_
 obtain ⟨a_11,ha⟩ : ∃ a,a = putE z a_10 [(0,some 8),(1,some 9),(2,some 10),(3,some 11)]:=⟨_,rfl⟩
 rw [← ha]
 have hN_11:=size_behind ha hN_10
 have hD_11:=defers_behind ha hD_10
 have e0_11:=ab ha e0_10
 have e2_11:=ab ha e2_10
 have e3_11:=ab ha e3_10
 have e4_11:=ab ha e4_10
 have e11_11:=(an (t:=11) (i:=3) ha).trans (hx)
 have bb_11:=bb_10
 have R4_11:=R4_10
 have LL_11:=LL_10
 have X_11:=X_10
 clear hx
 by_cases hi : i < n
 ·
   have hc : decide ((i : Int) < (n : Int)) = true:=decide_eq_true (by omega); rw [hc] at e11_11; clear hc; refine wp_cond_true e11_11 ?_; refine wp_skip ?_; refine then_n ?_
   repeat first | apply lk | apply ll
   refine wp_block ?_
   repeat first | apply lk | apply ll
   obtain ⟨ad,rfl,hbk,u00,u01,u02,u03,hcq,hEi⟩:=LL_11 i hi; refine ld bb_11 [kIs ((.slice (some ad) n c0)),kIs (.int .i64 (i : Int)),kIs (.pointer (some (ad.add (i * 4)))),PK.p (E i) (hEb i) (hEs i),kP 9 (A i).num ((A i).den : Int),PK.fresh 4,kPutP 5 9 (A i).num ((A i).den : Int)] [[],[],[0,1],[2],[3],[],[5,4]] [14,15,16,17,18,5,999] [] [] ?_ ?_
   ·
     refine p01 e0_11 ?_; refine p01 e4_11 ?_; refine aa rfl rfl (ky hi hN_11 rfl rfl rfl) ?_; refine aa rfl rfl (jj hcq hEi hER rfl rfl) ?_; refine aa rfl rfl (ae rfl rfl fun hC h1=>tp (HT i hi _ _ (bb_11.trans hC.below) h1)) ?_; refine aa rfl rfl (ea rfl) ?_; refine aa rfl rfl (ju rfl rfl rfl) ?_; exact ag rfl
   intro W_11 z a_12 hC hall ha hN_12 hD_12 bb_12; obtain ⟨g5,hx,hge,y1,y2⟩:=jt (lr hall 6); have d5 : g3 < g5:=by obtain ⟨⟨_,_,_,_,hh⟩,_⟩:=X_11; exact Nat.lt_of_lt_of_le hh.lt hge
   have e0_12:=ab ha e0_11; have e2_12:=ab ha e2_11; have e3_12:=ab ha e3_11; have e4_12:=ab ha e4_11; have e5_12:=(an (t:=5) (i:=5) ha).trans (hx); have R4_12:=hC.holds R4_11
   have LL_12:=(fun i hi=>(LL_11 i hi).regG hER (by simp) hC)
   have X_12:=hC.locP (by simp) X_11; have y1_12:=y1; have y2_12:=y2; clear hx hge hC hall y1 y2 hcq hEi
   repeat first | apply lk | apply ll
   obtain ⟨⟨u1, u2, u3, u4, X3⟩, s1, s2⟩ := X_12; have t1 := s1; have t2 := s2; have hsi := hSb i (Nat.le_of_lt hi); have hai := hAb i hi; have bd : ((((S i).den : Int) * ((A i).den : Int))).natAbs < 1000000000 ^ 78 := mul58 hsi.2 hai.2; have bx : (((S i).num * (A i).num)).natAbs < 1000000000 ^ 78 := mul57 hsi.1 hai.1; refine ec hN_12 w.heap.size g3 X3 (by omega) 14 [1, 6] [kIs (.pointer (some ⟨g3, 0, none⟩)), kZ 49 (S i).num, kIs (.pointer (some ⟨g5, 0, none⟩)), kZ 9 (A i).num, kZ 78 ((S i).num * (A i).num), kIs (.pointer (some ⟨g3, 2, none⟩)), kZ 49 ((S i).den : Int), kIs (.pointer (some ⟨g5, 2, none⟩)), kZ 9 ((A i).den : Int), kZ 78 (((S i).den : Int) * ((A i).den : Int)), kPT 160 ((Rat.divInt ((S i).num * (A i).num) (((S i).den : Int) * ((A i).den : Int))).num) (((Rat.divInt ((S i).num * (A i).num) (((S i).den : Int) * ((A i).den : Int))).den : Int)) (.int .i64 (0)), kPT 160 ((Rat.divInt ((S i).num * (A i).num) (((S i).den : Int) * ((A i).den : Int))).num) (((Rat.divInt ((S i).num * (A i).num) (((S i).den : Int) * ((A i).den : Int))).den : Int)) (.int .i64 (0)), kP 160 ((Rat.divInt ((S i).num * (A i).num) (((S i).den : Int) * ((A i).den : Int))).num) (((Rat.divInt ((S i).num * (A i).num) (((S i).den : Int) * ((A i).den : Int))).den : Int)), kIs (.int .i64 (0)), kRes g3 160 ((Rat.divInt ((S i).num * (A i).num) (((S i).den : Int) * ((A i).den : Int))).num) (((Rat.divInt ((S i).num * (A i).num) (((S i).den : Int) * ((A i).den : Int))).den : Int))]
     [ [],[(0,some 20)],[],[(2,some 22)],[(1,some 21),(3,some 23)],[],[(5,some 25)],[],[(7,some 27)],[(6,some 26),(8,some 28)],[(4,some 24),(9,some 29)],[(10,some 30)],[(11,some 19)],[(11,some 19)],[(12,some 31)] ] [(0,some 20),(1,some 21),(2,some 22),(3,some 23),(4,some 24),(5,some 25),(6,some 26),(7,some 27),(8,some 28),(9,some 29),(10,some 30),(11,some 19),(12,some 31),(13,some 32),(14,none)] [] [] (by kernel_rfl) (by kernel_rfl) (by kernel_rfl) (by kernel_rfl) (by kernel_rfl) (by kernel_rfl) (by kernel_rfl) rfl rfl (by kernel_rfl) (by kernel_rfl) bb_12.size ?_ ?_
   ·
     refine aj rfl rfl (br [] [(3,.pointer (some ⟨g3,0,none⟩))] (.pointer (some ⟨g3,0,none⟩)) rfl (old1 e3_12)) ?_; refine cp rfl rfl rfl ?_ ?_
     · exact gy t1 rfl rfl
     refine aj rfl rfl (br [] [(5,.pointer (some ⟨g5,0,none⟩))] (.pointer (some ⟨g5,0,none⟩)) rfl (old1 e5_12)) ?_; refine aj rfl rfl (ik (hG:=(by simp only [List.mem_singleton]; omega)) y1_12 rfl rfl) ?_; refine aj rfl rfl (ap rfl rfl rfl fun hC h1 h2=>tz (mul79 ((rr h1).mono (by decide)) ((rr h2).mono (by decide)) bx)) ?_; refine aj rfl rfl (br [] [(3,.pointer (some ⟨g3,0,none⟩))] (.pointer (some ⟨g3,2,none⟩)) rfl (old1 e3_12)) ?_; refine cp rfl rfl rfl ?_ ?_
     · exact gy t2 rfl rfl
     refine aj rfl rfl (br [] [(5,.pointer (some ⟨g5,0,none⟩))] (.pointer (some ⟨g5,2,none⟩)) rfl (old1 e5_12)) ?_; refine aj rfl rfl (ik (hG:=(by simp only [List.mem_singleton]; omega)) y2_12 rfl rfl) ?_; refine aj rfl rfl (ap rfl rfl rfl fun hC h1 h2=>tz (mul79 ((rr h1).mono (by decide)) ((rr h2).mono (by decide)) bd)) ?_; refine aj rfl rfl (ap rfl rfl rfl fun hC h1 h2=>tpt (refOf_yesX (Int.mul_ne_zero (den_ne _) (den_ne _)) ((rr h1).mono (by decide)) ((rr h2).mono (by decide)))) ?_; refine aj rfl rfl (cw rfl rfl) ?_; refine aj rfl rfl (jg rfl rfl ext_p) ?_; refine aj rfl rfl (jg rfl rfl ext_v) ?_; refine aj rfl rfl (eu X3 rfl e3_12 rfl rfl) ?_; exact fa rfl
   intro W_20 z hC hall; have hres:=show (kRes g3 160 ((Rat.divInt ((S i).num * (A i).num) (((S i).den : Int) * ((A i).den : Int))).num) (((Rat.divInt ((S i).num * (A i).num) (((S i).den : Int) * ((A i).den : Int))).den : Int))).sem _ _ _ _ from hall 14 (of_decide_eq_true (by kernel_rfl))
   have X2 : LocP W_20 g3 49 (S (i + 1)).num ((S (i + 1)).den : Int):=by have h:=res_locP hres; rw [q_mul,← hS i hi] at h; exact h.tight (hSb (i + 1) hi).1 (hSb (i + 1) hi).2
   obtain ⟨a_13,ha⟩ : ∃ a,a = putE z a_12 [(0,some 20),(1,some 21),(2,some 22),(3,some 23),(4,some 24),(5,some 25),(6,some 26),(7,some 27),(8,some 28),(9,some 29),(10,some 30),(11,some 19),(12,some 31),(13,some 32),(14,none)]:=⟨_,rfl⟩
   rw [← ha]; have hN_13:=size_behind ha hN_12; have hD_13:=defers_behind ha hD_12; have e0_13:=ab ha e0_12; have e2_13:=ab ha e2_12; have e3_13:=ab ha e3_12; have e4_13:=ab ha e4_12; have bb_13:=bb_12.trans hC.below; have R4_13:=hC.holdsG (by simp only [List.mem_singleton]; omega) R4_12
   have LL_13:=(fun i hi=>(LL_12 i hi).regG hER (fun g hg=>by rw [List.mem_singleton.1 hg]; omega) hC)
   have X_13:=X2; clear hres X2 hC hall X3 t1 t2 s1 s2 y1_12 y2_12; refine io ?_; refine then_n ?_; refine wp_incr (n:=(i : Int)) (m:=((i + 1 : Nat) : Int)) e4_13 (add_run i 1 (by omega)) fun z hx=>?_
   obtain ⟨a_14,ha⟩ : ∃ a,a = putE z a_13 [(0,some 12),(1,some 13),(2,some 4)]:=⟨_,rfl⟩
   rw [← ha]; have hN_14:=size_behind ha hN_13; have hD_14:=defers_behind ha hD_13; have e0_14:=ab ha e0_13; have e2_14:=ab ha e2_13; have e3_14:=ab ha e3_13; have e4_14:=(an (t:=4) (i:=2) ha).trans (hx); have bb_14:=bb_13; have R4_14:=R4_13; have LL_14:=LL_13; have X_14:=X_13; refine then_n ⟨⟨hN_14,hD_14,e0_14,e2_14,e3_14,bb_14,R4_14,LL_14,i + 1,by omega,e4_14,X_14⟩,?_⟩; rw [show intOf (a_14.eval (.tmp 4)) = ((i + 1 : Nat) : Int) by rw [e4_14]; rfl]; omega
 ·
   have hc : decide ((i : Int) < (n : Int)) = false:=decide_eq_false (by omega); rw [hc] at e11_11; clear hc; refine wp_cond_false e11_11 ?_; refine wp_exit ?_; refine gn ?_; refine gn ?_; refine gd ?_; refine then_n ?_; obtain rfl : i = n:=by omega
   obtain ⟨_,s1,s2⟩:=X_11
   repeat first | apply lk | apply ll
   refine lu bb_11 R4_11 [kP 49 (S i).num ((S i).den : Int),kRes w.heap.size 49 (S i).num ((S i).den : Int)] [[],[0]] [33,999] [] [] ?_ ?_
   ·
     refine aa rfl rfl (cf (hG:=(by simp only [List.mem_singleton]; omega)) s1 s2 e3_11 rfl) ?_; refine aa rfl rfl (eu R4_11 rfl e2_11 rfl rfl) ?_; exact ag rfl
   intro W z a1 hC hall ha hN1 hD1 bb1; obtain ⟨cs,hgg,hP⟩:=lr hall 1; have i2:=ab (t:=2) ha e2_11
   repeat first | apply lk | apply ll
   refine wp_ret ?_
   repeat (refine then_r ?_)
   exact fy (t:=2) rfl hD1 i2 hgg hP fun v hv=>⟨v,rfl,hv,bb1⟩
end Go.Proofs.YtifgcjpgelbelaaGreatDoor
set_option linter.unusedVariables false
set_option linter.unusedSimpArgs false
namespace Go.Proofs.YtifgcjpgelbelaaGreatDoor
open Go.RowKit
def LocO (W : World) (B g k : Nat) (x y : Int) : Prop:=∃ cs,Holds_ W g cs ∧ isPO B k x y cs W
theorem LocO.parts {W : World} {B g k : Nat} {x y : Int} (h : LocO W B g k x y) : ∃ A l c A' l' c',Holds_ W g #[.bool (decide (x < 0)),.slice A l c,.bool (decide (y < 0)),.slice A' l' c'] ∧ (Ro W B (.slice A l c) x.natAbs ∧ x.natAbs < 1000000000 ^ k) ∧ Ro W B (.slice A' l' c') y.natAbs ∧ y.natAbs < 1000000000 ^ k:=by
 obtain ⟨cs,hh,A,l,c,A',l',c',rfl,B1,m1,d1,B2,m2,d2,e,h1,h2,h3⟩:=h
 injection e with e; injection e with e
 injection e with _ e; injection e with q1 e; injection e with _ e; injection e with q2 e
 injection q1 with a1 a2 a3
 injection q2 with b1 b2 b3
 subst a1; subst a2; subst a3; subst b1; subst b2; subst b3
 exact ⟨_,_,_,_,_,_,hh,h1,h2,h3⟩
theorem LocO.of {W : World} {B g k : Nat} {x y : Int} {A A' : Option Addr} {l c l' c' : Nat} (hh : Holds_ W g #[.bool (decide (x < 0)),.slice A l c,.bool (decide (y < 0)),.slice A' l' c']) (h1 : Ro W B (.slice A l c) x.natAbs ∧ x.natAbs < 1000000000 ^ k) (h2 : Ro W B (.slice A' l' c') y.natAbs ∧ y.natAbs < 1000000000 ^ k) : LocO W B g k x y :=
 ⟨_,hh,A,l,c,A',l',c',rfl,A,l,c,A',l',c',rfl,h1,h2⟩
theorem LocO.p {W : World} {B g k : Nat} {x y : Int} (h : LocO W B g k x y) : LocP W g k x y:=by
 obtain ⟨A,l,c,A',l',c',hh,h1,h2⟩:=h.parts
 obtain ⟨m1,m2,m3,m4,_,_,_,_⟩:=hh.four
 exact ⟨⟨_,_,_,_,hh⟩,⟨A,l,c,m1,m2,A,l,c,rfl,h1.1.1,h1.2⟩,A',l',c',m3,m4,A',l',c',rfl,h2.1.1,h2.2⟩
theorem LocO.tight {W : World} {B g j k : Nat} {x y : Int} (h : LocO W B g j x y) (hx : x.natAbs < 1000000000 ^ k) (hy : y.natAbs < 1000000000 ^ k) : LocO W B g k x y:=by
 obtain ⟨A,l,c,A',l',c',hh,h1,h2⟩:=h.parts
 exact LocO.of hh ⟨h1.1,hx⟩ ⟨h2.1,hy⟩
theorem Reg.locO {B B' : Nat} {W0 w : World} {G : List Nat} (h : Reg B W0 G w) {g k : Nat} {x y : Int} (hg : g ∉ G) (hG : ∀ g ∈ G,g < B') (hl : LocO W0 B' g k x y) : LocO w B' g k x y:=by
 obtain ⟨A,l,c,A',l',c',hh,h1,h2⟩:=hl.parts
 exact LocO.of (h.holdsG hg hh) ⟨h.ro hG h1.1,h1.2⟩ ⟨h.ro hG h2.1,h2.2⟩
def EL (q : Nat → (Bool × List Nat) × Bool × List Nat) (i : Nat) (v : Value) (W : World) : Prop:=Lv W v (q i).1.1 (q i).1.2 (q i).2.1 (q i).2.2
theorem EL.b (q : Nat → (Bool × List Nat) × Bool × List Nat) : ∀ i v w w',EL q i v w → Below w.heap.size w w' → EL q i v w':=fun _ _ _ _ h hb=>Lv.below h hb
theorem EL.s (q : Nat → (Bool × List Nat) × Bool × List Nat) : ∀ i v w w' g,EL q i v w → Stored g w w' → EL q i v w':=fun _ _ _ _ _ h hs=>Lv.stored h hs
theorem EL.r (q : Nat → (Bool × List Nat) × Bool × List Nat) : ∀ i v B (W0 : World) G w,Reg B W0 G w → EL q i v W0 → EL q i v w:=fun _ _ _ _ _ _ hC h=>hC.lv h
section
variable {G : List Nat} {S0 B : Nat} {ks : List PK} {a0 : Act} {i : Nat} {N : Nat} {W0 : World} {T : TypeId} {pos : String} {af : Array Edge} {gu : Option (Nat × Bool)}
theorem st_loadFO {d t g k B' : Nat} {x1 x2 : Int} (hl : LocO W0 B' g k x1 x2)  (hGB : ∀ g ∈ G,g < B') (hp : a0.eval (.tmp t) = .pointer (some ⟨g,0,none⟩))   (hi : at_ ks i = kPO B' k x1 x2) (hG : g ∉ G:=by simp only [List.mem_singleton]; omega) (hN : a0.tmps.size = N:=by assumption) (hd : decide (d < N) = true:=by kernel_rfl) :
   PkStep Tryz.prog (Reg B W0 G) S0 ks a0 i { dst:=some d,op:=.load 72 (.tmp t),type:=T,pos:=pos,after:=af,guard:=gu } []:=by
 intro w x hC K hK
 obtain ⟨A,c,l,A',c',l',hh,h1,h2⟩:=(hC.locO hG hGB hl).parts
 obtain ⟨m1,m2,m3,m4,_,_,_,_⟩:=hh.four
 refine bj (w':=w) rfl hN hd (ex_load hp (run_load4F m1 m2 m3 m4)) (hK _ _ ?_ ?_)
 · rw [hi]; exact Below.refl _ _
 · rw [hi]; exact ⟨_,_,_,_,_,_,rfl,h1,h2⟩
theorem st_idxQ0 {C : World → Prop} {d t1 t2 k n c : Nat} {ad : Addr} (hk : k < n) (e1 : a0.eval (.tmp t1) = .slice (some ad) n c) (e2 : a0.eval (.tmp t2) = .int .i64 (k : Int))   (hi : at_ ks i = kIs (.pointer (some (ad.add (k * 4))))) (hN : a0.tmps.size = N:=by assumption) (hd : decide (d < N) = true:=by kernel_rfl) :
   PkStep Tryz.prog C S0 ks a0 i { dst:=some d,op:=.indexAddr 42 (.tmp t1) (.tmp t2),type:=T,pos:=pos,after:=af,guard:=gu } []:=by
 intro w x hC K hK
 refine bj (v:=.pointer (some (ad.add (k * 4)))) (w':=w) rfl hN hd (ex_idx e1 e2 (run_idxQ hk)) (hK _ _ ?_ ?_)
 · rw [hi]; exact Below.refl _ _
 · rw [hi]; rfl
theorem st_fieldFO {C : World → Prop} {d j t k B' : Nat} {x1 x2 : Int}    (hj : at_ ks j = kPO B' k x1 x2) (hi : at_ ks i = kPO B' k x1 x2) (hN : a0.tmps.size = N:=by assumption) (hd : decide (d < N) = true:=by kernel_rfl) (ht : decide (t < N) = true:=by kernel_rfl) :
   PkStep Tryz.prog C S0 ks a0 i { dst:=some d,op:=.field 72 (.tmp t) 0,type:=T,pos:=pos,after:=af,guard:=gu } [(j,some t)]:=by
 intro w x hC
 refine aw _ fun hdeps K hK=>?_
 have g1:=hdeps (j,some t) (by simp)
 rw [hj] at g1
 obtain ⟨A,l,c,A',l',c',hx,q⟩:=(show PrO w B' (x j) k x1 x2 from g1)
 have e1 : (putE x a0 [(j,some t)]).eval (.tmp t) = x j:=putE_new _ _ (by rw [hN]; exact of_decide_eq_true ht) (by simp [slotAt])
 refine bj (w':=w) rfl (by rw [ax,hN]) hd (ex_field (e1.trans hx) run_fieldF) (hK _ _ ?_ ?_)
 · rw [hi]; exact Below.refl _ _
 · rw [hi]; exact ⟨A,l,c,A',l',c',rfl,q⟩
theorem st_resPO {t u j g k B' : Nat} {x1 x2 : Int} {cs0 : Array Value} (h0 : Holds_ W0 g cs0) (hs0 : cs0.size = 4)  (hp : a0.eval (.tmp t) = .pointer (some ⟨g,0,none⟩))    (hj : at_ ks j = kPO B' k x1 x2) (hi : at_ ks i = kResO B' g k x1 x2) (hG : g ∈ G:=by simp) (hN : a0.tmps.size = N:=by assumption) (hu : decide (u < N) = true:=by kernel_rfl) (htu : decide (t = u) = false:=by kernel_rfl) :
   PkStep Tryz.prog (Reg B W0 G) S0 ks a0 i { dst:=none,op:=.store 26 (.tmp t) (.tmp u),type:=T,pos:=pos,after:=af,guard:=gu } [(j,some u)]:=by
 intro w x hC
 refine aw _ fun hdeps K hK=>?_
 have g1:=hdeps (j,some u) (by simp)
 rw [hj] at g1
 obtain ⟨A,l,c,A',l',c',hx,q1,q3,q4⟩:=(show PrO w B' (x j) k x1 x2 from g1)
 have htu' : t ≠ u:=of_decide_eq_false htu
 have e1 : (putE x a0 [(j,some u)]).eval (.tmp t) = .pointer (some ⟨g,0,none⟩):=(putE_old _ _ (by simp [slotAt,Ne.symm htu'])).trans hp
 have e2 : (putE x a0 [(j,some u)]).eval (.tmp u) = x j:=putE_new _ _ (by rw [hN]; exact of_decide_eq_true hu) (by simp [slotAt])
 obtain ⟨a,b,c0,d0,hg⟩:=hC.four hG h0 hs0
 obtain ⟨m1,m2,m3,m4,f1,f2,f3,f4⟩:=hg.four
 have hst:=bu hg (noDig_bool (decide (x1 < 0))) (noDig_slice A l c) (noDig_bool (decide (x2 < 0))) (noDig_slice A' l' c')
 refine gp (w':=put4 w g (.bool (decide (x1 < 0))) (.slice A l c) (.bool (decide (x2 < 0))) (.slice A' l' c')) rfl ?_ (hK _ _ ?_ ?_)
 · exact dz e1 (e2.trans hx) (run_storeP m1 m2 m3 m4 f1 f2 f3 f4)
 · rw [hi]; exact hst
 · rw [hi]; exact ⟨_,cd hg (noDig_bool _) (noDig_slice _ _ _) (noDig_bool _) (noDig_slice _ _ _),A,l,c,A',l',c',rfl,A,l,c,A',l',c',rfl,⟨q1.1.stored hst,q1.2⟩,q3.stored hst,q4⟩
end
theorem ret_cellPO {fn : Func} {R : Ending → World → Prop} {a : Act} {w : World} {t g k B : Nat} {x y : Int} {cs : Array Value} (hres : fn.results = #[.cell t 26 ]) (hd : a.defers = []) (hp : a.eval (.tmp t) = .pointer (some ⟨g,0,none⟩)) (hg : Holds_ w g cs) (hP : isPO B k x y cs w) (hR : ∀ v,PrO w B v k x y → R (.returned v) w) : bodyPost Tryz.prog fn R .ret a w:=by
 obtain ⟨A,l,c,A',l',c',rfl,h⟩:=hP
 obtain ⟨m1,m2,m3,m4,_,_,_,_⟩:=hg.four
 refine bodyPost_ret (v:=.agg #[.bool (decide (x < 0)),.slice A l c,.bool (decide (y < 0)),.slice A' l' c']) ?_ hd (hR _ h)
 have hp' : a.tmps[t]?.getD undef = .pointer (some ⟨g,0,none⟩):=by
   rw [← Array.getD_eq_getD_getElem?]; exact hp
 simp [results,hres,go_sem,hp',m1,m2,m3,m4]
theorem fold0 {w : World} {b b' : Bool} {A0 A1 A2 : Option Addr} {l1 c1 l2 c2 c0 : Nat} {v1 : Value} :
   Calls Tryz.prog 89 #[.agg #[.bool b,.slice A1 l1 c1,.bool b',.slice A2 l2 c2],v1,.slice A0 0 c0] w (fun e w'=>e = .returned (.agg #[.bool b,.slice A1 l1 c1,.bool b',.slice A2 l2 c2]) ∧ Below w.heap.size w w'):=by
 go_enter Tryz.func89,Tryz.ntmps89
 repeat apply wp_seq
 refine ls fun K HK=>?_
 go_wp2
 refine HK.out _ _ (then_n ?_)
 refine lq (G:=fun W=>Code.wp _ _ _ _ W) ?_
 intro W_0 bb_0 K0 K1
 obtain ⟨m1,m2,m3,m4,_,_,_,_⟩:=bz K0
 have hR:=kg K1
 have hP : Holds_ (put4 W_0 (w.heap.size + 1) (.bool b) (.slice A1 l1 c1) (.bool b') (.slice A2 l2 c2)) (w.heap.size + 1) #[.bool b,.slice A1 l1 c1,.bool b',.slice A2 l2 c2]:=cd hR (noDig_bool _) (noDig_slice _ _ _) (noDig_bool _) (noDig_slice _ _ _)
 have hst:=bu hR (noDig_bool b) (noDig_slice A1 l1 c1) (noDig_bool b') (noDig_slice A2 l2 c2)
 obtain ⟨k1,k2,k3,k4,f1,f2,f3,f4⟩:=hR.four
 have HP:=Lib.hid (show _ ∧ _ from ⟨hP,hst.below bb_0 (Nat.le_succ _)⟩)
 clear K0 K1 hR hP hst bb_0
 go_wp2_with fail
 go_loopw [11] (fun iv wr=>iv = .int .i64 0 ∧ wr = W_0) (fun _ _=>0)
 case atStart=>exact ⟨rfl,rfl⟩
 case round =>
   obtain ⟨rfl,rfl⟩:=hrel
   go_wp2
   obtain ⟨p1,p2,p3,p4,_,_,_,_⟩:=HP.out.1.four; refine bodyPost_ret (v:=.agg #[.bool b,.slice A1 l1 c1,.bool b',.slice A2 l2 c2]) ?_ rfl ⟨rfl,HP.out.2⟩; unfold put4 at p1 p2 p3 p4; simp [results,Tryz.results89,go_sem,p1,p2,p3,p4]
theorem foldn_plus {w : World} {v0 : Value} {A0 : Option Addr} {n c0 : Nat} {q : Nat → (Bool × List Nat) × Bool × List Nat} {A S : Nat → Rat}
   (h0 : Pr w v0 79 (S 0).num ((S 0).den : Int)) (HO : ∀ i,i < n → ∀ (W : World) (v : Value),EL q i v W → Calls Tryz.prog 62 #[v] W (TellsP W 9 (A i).num ((A i).den : Int)))
   (h : ∀ i,i < n → ElA w.heap.size w A0 i (EL q i)) (hn : n ≤ 100000) (hpos : 0 < n) (hS : ∀ i,i < n → S (i + 1) = S i + A i) (hSb : ∀ i,i ≤ n → (S i).num.natAbs < 1000000000 ^ 79 ∧ (S i).den < 1000000000 ^ 79) :
   Calls Tryz.prog 89 #[v0,.func (.func 81) #[] #[],.slice A0 n c0] w (TellsPO w 79 (S n).num ((S n).den : Int)):=by
 obtain ⟨A1,l1,c1,A1',l1',c1',rfl,⟨r1,u1⟩,r1',u1'⟩:=h0
 obtain ⟨b1,hb1⟩ : ∃ s,s = decide ((S 0).num < 0):=⟨_,rfl⟩
 obtain ⟨b1',hb1'⟩ : ∃ s,s = decide (((S 0).den : Int) < 0):=⟨_,rfl⟩
 rw [← hb1,← hb1']
 have H1:=Lib.hid (show _ ∧ _ ∧ _ ∧ _ ∧ _ ∧ _ from ⟨hb1,hb1',r1,u1,r1',u1'⟩)
 have hl2:=Lib.hid h
 have HO:=Lib.hid HO
 have HS:=Lib.hid hS
 have HSb:=Lib.hid hSb
 have HP:=Lib.hid hpos
 have HN:=Lib.hid hn
 clear hb1 hb1' r1 u1 r1' u1' h hS hSb hpos hn
 go_enter Tryz.func89,Tryz.ntmps89
 repeat apply wp_seq
 refine ls fun K HK=>?_
 go_wp2
 refine HK.out _ _ (then_n ?_)
 refine lq (G:=fun W=>Code.wp _ _ _ _ W) ?_
 intro W_0 bb_0 K0 K1
 obtain ⟨m1,n1,m1',n1',_,_,_,_⟩:=bz K0
 have X_0 : LocP W_0 w.heap.size 79 (S 0).num ((S 0).den : Int):=⟨⟨_,_,_,_,⟨⟨_,K0⟩,by simp [noDig]⟩⟩,⟨A1,l1,c1,by rw [← H1.out.1]; exact m1,n1,A1,l1,c1,rfl,H1.out.2.2.1.below bb_0,H1.out.2.2.2.1⟩,A1',l1',c1',by rw [← H1.out.2.1]; exact m1',n1',A1',l1',c1',rfl,H1.out.2.2.2.2.1.below bb_0,H1.out.2.2.2.2.2⟩
 have R_0:=kg K1
 have LL_0 : ∀ i,i < n → ElA w.heap.size W_0 A0 i (EL q i):=fun i hi=>(hl2.out i hi).below (EL.b q i) bb_0
 clear K0 K1 m1 n1 m1' n1'
 refine lm (G:=fun a=>Code.wp _ _ _ a _) 22 ?_
 intro a_0 ha hN_0 hD_0
 have e1_0 : a_0.eval (.tmp 1) = .func (.func 81) #[] #[]:=ln ha
 have e2_0 : a_0.eval (.tmp 2) = .slice A0 n c0:=ln ha
 have e3_0:=lj ha 3 w.heap.size
 have e6_0:=lj ha 6 (w.heap.size + 1)
 repeat first | apply lk | apply ll
 refine ld bb_0 [kIs (.slice A0 n c0),kIs (.int .i64 (n : Int)),kIs (.int .i64 (0))] [[],[0],[]] [9,10,11] [] [] ?_ ?_
 ·
   refine p01 e2_0 ?_; refine p10 ?_; refine p00 ?_; exact ag rfl
 intro W_1 x a_1 hC hall ha hN_1 hD_1 bb_1
 have e1_1:=ab ha e1_0
 have e3_1:=ab ha e3_0
 have e6_1:=ab ha e6_0
 have X_1:=hC.locP (by simp) X_0
 have R_1:=hC.holds R_0
 have LL_1:=(fun i hi=>(LL_0 i hi).regG (EL.r q) (by simp) hC)
 have e9_1:=le ha hall 9 0
 have e10_1:=le ha hall 10 1
 have e11_1:=le ha hall 11 2
 repeat first | apply lk | apply ll
 refine wp_block ?_
 refine wp_loop (fun ac W=>ac.tmps.size = 22 ∧ ac.defers = [] ∧ ac.eval (.tmp 1) = .func (.func 81) #[] #[] ∧ ac.eval (.tmp 3) = .pointer (some ⟨w.heap.size,0,none⟩) ∧ ac.eval (.tmp 6) = .pointer (some ⟨w.heap.size + 1,0,none⟩) ∧ ac.eval (.tmp 9) = .slice A0 n c0 ∧ ac.eval (.tmp 10) = .int .i64 (n : Int) ∧ Below w.heap.size w W ∧ Holds_ W (w.heap.size + 1) #[Value.bool false,Value.slice none 0 0,Value.bool false,Value.slice none 0 0] ∧ (∀ i,i < n → ElA w.heap.size W A0 i (EL q i)) ∧ ∃ i : Nat,i ≤ n ∧ ac.eval (.tmp 11) = .int .i64 (i : Int) ∧ LocP W w.heap.size 79 (S i).num ((S i).den : Int) ∧ (0 < i → LocO W (w.heap.size + 2) w.heap.size 79 (S i).num ((S i).den : Int))) (fun ac _=>n - (intOf (ac.eval (.tmp 11))).toNat) ?_ ?_
 · exact ⟨hN_1,hD_1,e1_1,e3_1,e6_1,e9_1,e10_1,bb_1,R_1,LL_1,0,Nat.zero_le _,e11_1,X_1,fun h=>absurd h (Nat.lt_irrefl _)⟩
 clear hN_1 hD_1 e1_1 e3_1 e6_1 e9_1 e10_1 e11_1 bb_1 R_1 LL_1 X_1
 rintro a_1 W_1 ⟨hN_1,hD_1,e1_1,e3_1,e6_1,e9_1,e10_1,bb_1,R_1,LL_1,i,hi7,e11_1,X_1,Y_1⟩
 have hm : intOf (a_1.eval (.tmp 11)) = (i : Int):=by rw [e11_1]; rfl
 rw [hm]
 clear hm
 repeat first | apply lk | apply ll
 refine ld bb_1 [kIs (.bool (decide ((i : Int) < (n : Int))))] [[]] [12] [] [] ?_ ?_
 ·
   refine p02 e11_1 e10_1 ?_; exact ag rfl
 intro W_2 x a_2 hC hall ha hN_2 hD_2 bb_2
 have e1_2:=ab ha e1_1
 have e3_2:=ab ha e3_1
 have e6_2:=ab ha e6_1
 have e9_2:=ab ha e9_1
 have e10_2:=ab ha e10_1
 have e11_2:=ab ha e11_1
 have X_2:=hC.locP (by simp) X_1
 have Y_2:=fun h=>hC.locO (by simp) (by simp) (Y_1 h)
 have R_2:=hC.holds R_1
 have LL_2:=(fun i hi=>(LL_1 i hi).regG (EL.r q) (by simp) hC)
 have e12_2:=le ha hall 12 0
 repeat first | apply lk | apply ll
 by_cases hi : i < n
 ·
   rw [decide_eq_true (show (i : Int) < (n : Int) by omega)] at e12_2; refine wp_cond_true e12_2 ?_
   repeat first | apply lk | apply ll
   refine wp_block ?_
   repeat first | apply lk | apply ll
   obtain ⟨ad,rfl,hbk,u00,u01,u02,u03,hcq,hEi⟩:=LL_2 i hi; refine ld bb_2 [kIs (.pointer (some (ad.add (i * 4)))),kL (q i).1.1 (q i).1.2 (q i).2.1 (q i).2.2,PK.fresh 4,kPutL 2 (q i).1.1 (q i).1.2 (q i).2.1 (q i).2.2] [[],[0],[],[2,1]] [13,14,8,999] [] [] ?_ ?_
   ·
     refine aa rfl rfl (st_idxQ0 hi e9_2 e11_2 rfl) ?_; refine aa rfl rfl (jj (E:=EL q) (n:=i) hcq hEi (EL.r q) rfl rfl) ?_; refine aa rfl rfl (ea rfl) ?_; refine aa rfl rfl (st_putL rfl rfl rfl) ?_; exact ag rfl
   intro W_3 x a_3 hC hall ha hN_3 hD_3 bb_3; have e1_3:=ab ha e1_2; have e3_3:=ab ha e3_2; have e6_3:=ab ha e6_2; have e9_3:=ab ha e9_2; have e10_3:=ab ha e10_2; have e11_3:=ab ha e11_2; have X_3:=hC.locP (by simp) X_2; have R_3:=hC.holds R_2
   have LL_3:=(fun i hi=>(LL_2 i hi).regG (EL.r q) (by simp) hC)
   obtain ⟨g8,hx,hge,p8_3⟩:=put_locL (lr hall 3); have e8_3:=(an (t:=8) (i:=2) ha).trans hx; have d8:=Nat.lt_of_lt_of_le R_2.lt hge; clear hx hge; clear hall hC ha bb_2 hN_2 hD_2 e1_2 e3_2 e6_2 e9_2 e10_2 e11_2 e12_2 X_2 Y_2 R_2 LL_2 hcq hEi
   repeat first | apply lk | apply ll
   obtain ⟨⟨u1,u2,u3,u4,S_3⟩,f1_3,f1'_3⟩:=X_3; refine dm w.heap.size (w.heap.size) S_3 (by omega) 5 [1] [kIs (.func (.func 81) #[] #[]),kP 79 (S i).num ((S i).den : Int),kL (q i).1.1 (q i).1.2 (q i).2.1 (q i).2.2,kP 9 (A i).num ((A i).den : Int),kPO (w.heap.size + 2) 159 (S i + A i).num ((S i + A i).den : Int),kResO (w.heap.size + 2) (w.heap.size) 159 (S i + A i).num ((S i + A i).den : Int)] [ [],[],[],[(2,some 17)],[(0,some 15),(1,some 16),(3,some 18)],[(4,some 19)] ] [(0,some 15),(1,some 16),(2,some 17),(3,some 18),(4,some 19),(5,none)] [] [] rfl bb_3.size ?_ ?_
   ·
     refine aj rfl rfl (br [] [(1,.func (.func 81) #[] #[])] (.func (.func 81) #[] #[]) rfl (old1 e1_3)) ?_; refine cp rfl rfl rfl ?_ ?_
     · exact st_loadKF f1_3 f1'_3 e3_3 rfl
     refine aj rfl rfl (st_loadL p8_3 e8_3 rfl) ?_; refine aj rfl rfl (ae rfl rfl fun hC h1=>tp (HO.out i hi _ _ h1)) ?_; refine aj rfl rfl (st_call2V rfl rfl rfl rfl fun w x v1 v2 hC h1 h2=>tpo (Nat.le_trans R_3.lt hC.below.size) (plus_o (pm h1) (pm h2))) ?_; refine aj rfl rfl (gk S_3 rfl e3_3 rfl rfl) ?_; exact fa rfl
   intro W_4 x hC hall
   obtain ⟨a_4,ha⟩ : ∃ a,a = putE x a_3 [(0,some 15),(1,some 16),(2,some 17),(3,some 18),(4,some 19),(5,none)]:=⟨_,rfl⟩
   rw [← ha]; have hN_4:=size_behind ha hN_3; have hD_4:=defers_behind ha hD_3; have bb_4:=bb_3.trans hC.below; have e1_4:=ab ha e1_3; have e3_4:=ab ha e3_3; have e6_4:=ab ha e6_3; have e9_4:=ab ha e9_3; have e10_4:=ab ha e10_3; have e11_4:=ab ha e11_3; have R_4:=hC.holdsG (by simp only [List.mem_singleton]; omega) R_3
   have LL_4:=(fun i hi=>(LL_3 i hi).regG (EL.r q) (fun g hg=>by rw [List.mem_singleton.1 hg]; omega) hC)
   have hres : LocO W_4 (w.heap.size + 2) w.heap.size 159 (S i + A i).num ((S i + A i).den : Int):=show (kResO (w.heap.size + 2) (w.heap.size) 159 (S i + A i).num ((S i + A i).den : Int)).sem _ _ _ _ from hall 5 (of_decide_eq_true (by kernel_rfl))
   have hres2:=hres.tight (k:=79) (by rw [← HS.out i hi]; exact (HSb.out (i + 1) hi).1) (by rw [← HS.out i hi]; exact (HSb.out (i + 1) hi).2); rw [← HS.out i hi] at hres2; clear hall hC ha hres; refine io ?_; refine then_n ?_; refine wp_incr2 (n:=(i : Int)) (m:=((i + 1 : Nat) : Int)) e11_4 (add_run i 1 (by have:=HN.out; omega)) ?_; intro x hx
   obtain ⟨a_5,ha⟩ : ∃ a,a = putE x a_4 [(0,some 20),(1,some 11)]:=⟨_,rfl⟩
   rw [← ha]; have hN_5:=size_behind ha hN_4; have hD_5:=defers_behind ha hD_4; have e1_5:=ab ha e1_4; have e3_5:=ab ha e3_4; have e6_5:=ab ha e6_4; have e9_5:=ab ha e9_4; have e10_5:=ab ha e10_4; have e11_5:=(an (t:=11) (i:=1) ha).trans hx; refine ⟨⟨hN_5,hD_5,e1_5,e3_5,e6_5,e9_5,e10_5,bb_4,R_4,LL_4,i + 1,by omega,e11_5,hres2.p,fun _=>hres2⟩,?_⟩; rw [show intOf (a_5.eval (.tmp 11)) = ((i + 1 : Nat) : Int) by rw [e11_5]; rfl]; omega
 ·
   rw [decide_eq_false (show ¬ (i : Int) < (n : Int) by omega)] at e12_2; refine wp_cond_false e12_2 ?_; refine wp_exit ?_; refine gn ?_; refine gn ?_; refine gd ?_; refine then_n ?_; obtain rfl : i = n:=by omega
   have L_2:=Y_2 HP.out
   repeat first | apply lk | apply ll
   refine lu bb_2 R_2 [kPO (w.heap.size + 2) 79 (S i).num ((S i).den : Int),kResO (w.heap.size + 2) (w.heap.size + 1) 79 (S i).num ((S i).den : Int)] [[],[0]] [21,999] [] [] ?_ ?_
   ·
     refine aa rfl rfl (st_loadFO L_2 (fun g hg=>by rw [List.mem_singleton.1 hg]; omega) e3_2 rfl) ?_; refine aa rfl rfl (gk R_2 rfl e6_2 rfl rfl) ?_; exact ag rfl
   intro W z a1 hC hall ha hN1 hD1 bb1; obtain ⟨cs,hgg,hP⟩:=lr hall 1; have i2:=ab (t:=6) ha e6_2
   repeat first | apply lk | apply ll
   refine wp_ret ?_
   repeat (refine then_r ?_)
   exact gc (t:=6) rfl hD1 i2 hgg hP fun v hv=>⟨v,rfl,hv.mono (by omega),bb1⟩
theorem foldq_plus {w : World} {B : Nat} {v0 : Value} {A0 : Option Addr} {n c0 : Nat} {q : Nat → (Bool × List Nat) × Bool × List Nat} {A S : Nat → Rat} (hB : B ≤ w.heap.size)
   (h0 : PrO w B v0 79 (S 0).num ((S 0).den : Int)) (HO : ∀ i,i < n → ∀ (W : World) (v : Value),EL q i v W → Calls Tryz.prog 62 #[v] W (TellsP W 9 (A i).num ((A i).den : Int)))
   (h : ∀ i,i < n → ElA w.heap.size w A0 i (EL q i)) (hn : n ≤ 100000) (hS : ∀ i,i < n → S (i + 1) = S i + A i) (hSb : ∀ i,i ≤ n → (S i).num.natAbs < 1000000000 ^ 79 ∧ (S i).den < 1000000000 ^ 79) :
   Calls Tryz.prog 89 #[v0,.func (.func 81) #[] #[],.slice A0 n c0] w (fun e w'=>∃ v,e = .returned v ∧ PrO w' B v 79 (S n).num ((S n).den : Int) ∧ Below w.heap.size w w'):=by
 rcases Nat.eq_zero_or_pos n with rfl | hp
 · obtain ⟨A1,l1,c1,A1',l1',c1',rfl,r⟩:=h0
   exact fold0.mono fun e w' ⟨e1,hb⟩=>⟨_,e1,PrO.below ⟨A1,l1,c1,A1',l1',c1',rfl,r⟩ hb,hb⟩
 · exact (foldn_plus h0.pr HO h hn hp hS hSb).mono fun e w' ⟨v,e1,hv,hb⟩=>⟨v,e1,hv.mono hB,hb⟩
theorem foldn_times {w : World} {v0 : Value} {A0 : Option Addr} {n c0 : Nat} {q : Nat → (Bool × List Nat) × Bool × List Nat} {A S : Nat → Rat}
   (h0 : Pr w v0 79 (S 0).num ((S 0).den : Int)) (HO : ∀ i,i < n → ∀ (W : World) (v : Value),EL q i v W → Calls Tryz.prog 62 #[v] W (TellsP W 9 (A i).num ((A i).den : Int)))
   (h : ∀ i,i < n → ElA w.heap.size w A0 i (EL q i)) (hn : n ≤ 100000) (hpos : 0 < n) (hS : ∀ i,i < n → S (i + 1) = S i * A i) (hSb : ∀ i,i ≤ n → (S i).num.natAbs < 1000000000 ^ 79 ∧ (S i).den < 1000000000 ^ 79) :
   Calls Tryz.prog 89 #[v0,.func (.func 65) #[] #[],.slice A0 n c0] w (TellsPO w 79 (S n).num ((S n).den : Int)):=by
 obtain ⟨A1,l1,c1,A1',l1',c1',rfl,⟨r1,u1⟩,r1',u1'⟩:=h0
 obtain ⟨b1,hb1⟩ : ∃ s,s = decide ((S 0).num < 0):=⟨_,rfl⟩
 obtain ⟨b1',hb1'⟩ : ∃ s,s = decide (((S 0).den : Int) < 0):=⟨_,rfl⟩
 rw [← hb1,← hb1']
 have H1:=Lib.hid (show _ ∧ _ ∧ _ ∧ _ ∧ _ ∧ _ from ⟨hb1,hb1',r1,u1,r1',u1'⟩)
 have hl2:=Lib.hid h
 have HO:=Lib.hid HO
 have HS:=Lib.hid hS
 have HSb:=Lib.hid hSb
 have HP:=Lib.hid hpos
 have HN:=Lib.hid hn
 clear hb1 hb1' r1 u1 r1' u1' h hS hSb hpos hn
 go_enter Tryz.func89,Tryz.ntmps89
 repeat apply wp_seq
 refine ls fun K HK=>?_
 go_wp2
 refine HK.out _ _ (then_n ?_)
 refine lq (G:=fun W=>Code.wp _ _ _ _ W) ?_
 intro W_0 bb_0 K0 K1
 obtain ⟨m1,n1,m1',n1',_,_,_,_⟩:=bz K0
 have X_0 : LocP W_0 w.heap.size 79 (S 0).num ((S 0).den : Int):=⟨⟨_,_,_,_,⟨⟨_,K0⟩,by simp [noDig]⟩⟩,⟨A1,l1,c1,by rw [← H1.out.1]; exact m1,n1,A1,l1,c1,rfl,H1.out.2.2.1.below bb_0,H1.out.2.2.2.1⟩,A1',l1',c1',by rw [← H1.out.2.1]; exact m1',n1',A1',l1',c1',rfl,H1.out.2.2.2.2.1.below bb_0,H1.out.2.2.2.2.2⟩
 have R_0:=kg K1
 have LL_0 : ∀ i,i < n → ElA w.heap.size W_0 A0 i (EL q i):=fun i hi=>(hl2.out i hi).below (EL.b q i) bb_0
 clear K0 K1 m1 n1 m1' n1'
 refine lm (G:=fun a=>Code.wp _ _ _ a _) 22 ?_
 intro a_0 ha hN_0 hD_0
 have e1_0 : a_0.eval (.tmp 1) = .func (.func 65) #[] #[]:=ln ha
 have e2_0 : a_0.eval (.tmp 2) = .slice A0 n c0:=ln ha
 have e3_0:=lj ha 3 w.heap.size
 have e6_0:=lj ha 6 (w.heap.size + 1)
 repeat first | apply lk | apply ll
 refine ld bb_0 [kIs (.slice A0 n c0),kIs (.int .i64 (n : Int)),kIs (.int .i64 (0))] [[],[0],[]] [9,10,11] [] [] ?_ ?_
 ·
   refine p01 e2_0 ?_; refine p10 ?_; refine p00 ?_; exact ag rfl
 intro W_1 x a_1 hC hall ha hN_1 hD_1 bb_1
 have e1_1:=ab ha e1_0
 have e3_1:=ab ha e3_0
 have e6_1:=ab ha e6_0
 have X_1:=hC.locP (by simp) X_0
 have R_1:=hC.holds R_0
 have LL_1:=(fun i hi=>(LL_0 i hi).regG (EL.r q) (by simp) hC)
 have e9_1:=le ha hall 9 0
 have e10_1:=le ha hall 10 1
 have e11_1:=le ha hall 11 2
 repeat first | apply lk | apply ll
 refine wp_block ?_
 refine wp_loop (fun ac W=>ac.tmps.size = 22 ∧ ac.defers = [] ∧ ac.eval (.tmp 1) = .func (.func 65) #[] #[] ∧ ac.eval (.tmp 3) = .pointer (some ⟨w.heap.size,0,none⟩) ∧ ac.eval (.tmp 6) = .pointer (some ⟨w.heap.size + 1,0,none⟩) ∧ ac.eval (.tmp 9) = .slice A0 n c0 ∧ ac.eval (.tmp 10) = .int .i64 (n : Int) ∧ Below w.heap.size w W ∧ Holds_ W (w.heap.size + 1) #[Value.bool false,Value.slice none 0 0,Value.bool false,Value.slice none 0 0] ∧ (∀ i,i < n → ElA w.heap.size W A0 i (EL q i)) ∧ ∃ i : Nat,i ≤ n ∧ ac.eval (.tmp 11) = .int .i64 (i : Int) ∧ LocP W w.heap.size 79 (S i).num ((S i).den : Int) ∧ (0 < i → LocO W (w.heap.size + 2) w.heap.size 79 (S i).num ((S i).den : Int))) (fun ac _=>n - (intOf (ac.eval (.tmp 11))).toNat) ?_ ?_
 · exact ⟨hN_1,hD_1,e1_1,e3_1,e6_1,e9_1,e10_1,bb_1,R_1,LL_1,0,Nat.zero_le _,e11_1,X_1,fun h=>absurd h (Nat.lt_irrefl _)⟩
 clear hN_1 hD_1 e1_1 e3_1 e6_1 e9_1 e10_1 e11_1 bb_1 R_1 LL_1 X_1
 rintro a_1 W_1 ⟨hN_1,hD_1,e1_1,e3_1,e6_1,e9_1,e10_1,bb_1,R_1,LL_1,i,hi7,e11_1,X_1,Y_1⟩
 have hm : intOf (a_1.eval (.tmp 11)) = (i : Int):=by rw [e11_1]; rfl
 rw [hm]
 clear hm
 repeat first | apply lk | apply ll
 refine ld bb_1 [kIs (.bool (decide ((i : Int) < (n : Int))))] [[]] [12] [] [] ?_ ?_
 ·
   refine p02 e11_1 e10_1 ?_; exact ag rfl
 intro W_2 x a_2 hC hall ha hN_2 hD_2 bb_2
 have e1_2:=ab ha e1_1
 have e3_2:=ab ha e3_1
 have e6_2:=ab ha e6_1
 have e9_2:=ab ha e9_1
 have e10_2:=ab ha e10_1
 have e11_2:=ab ha e11_1
 have X_2:=hC.locP (by simp) X_1
 have Y_2:=fun h=>hC.locO (by simp) (by simp) (Y_1 h)
 have R_2:=hC.holds R_1
 have LL_2:=(fun i hi=>(LL_1 i hi).regG (EL.r q) (by simp) hC)
 have e12_2:=le ha hall 12 0
 repeat first | apply lk | apply ll
 by_cases hi : i < n
 ·
   rw [decide_eq_true (show (i : Int) < (n : Int) by omega)] at e12_2; refine wp_cond_true e12_2 ?_
   repeat first | apply lk | apply ll
   refine wp_block ?_
   repeat first | apply lk | apply ll
   obtain ⟨ad,rfl,hbk,u00,u01,u02,u03,hcq,hEi⟩:=LL_2 i hi; refine ld bb_2 [kIs (.pointer (some (ad.add (i * 4)))),kL (q i).1.1 (q i).1.2 (q i).2.1 (q i).2.2,PK.fresh 4,kPutL 2 (q i).1.1 (q i).1.2 (q i).2.1 (q i).2.2] [[],[0],[],[2,1]] [13,14,8,999] [] [] ?_ ?_
   ·
     refine aa rfl rfl (st_idxQ0 hi e9_2 e11_2 rfl) ?_; refine aa rfl rfl (jj (E:=EL q) (n:=i) hcq hEi (EL.r q) rfl rfl) ?_; refine aa rfl rfl (ea rfl) ?_; refine aa rfl rfl (st_putL rfl rfl rfl) ?_; exact ag rfl
   intro W_3 x a_3 hC hall ha hN_3 hD_3 bb_3; have e1_3:=ab ha e1_2; have e3_3:=ab ha e3_2; have e6_3:=ab ha e6_2; have e9_3:=ab ha e9_2; have e10_3:=ab ha e10_2; have e11_3:=ab ha e11_2; have X_3:=hC.locP (by simp) X_2; have R_3:=hC.holds R_2
   have LL_3:=(fun i hi=>(LL_2 i hi).regG (EL.r q) (by simp) hC)
   obtain ⟨g8,hx,hge,p8_3⟩:=put_locL (lr hall 3); have e8_3:=(an (t:=8) (i:=2) ha).trans hx; have d8:=Nat.lt_of_lt_of_le R_2.lt hge; clear hx hge; clear hall hC ha bb_2 hN_2 hD_2 e1_2 e3_2 e6_2 e9_2 e10_2 e11_2 e12_2 X_2 Y_2 R_2 LL_2 hcq hEi
   repeat first | apply lk | apply ll
   obtain ⟨⟨u1,u2,u3,u4,S_3⟩,f1_3,f1'_3⟩:=X_3; refine dm w.heap.size (w.heap.size) S_3 (by omega) 5 [1] [kIs (.func (.func 65) #[] #[]),kP 79 (S i).num ((S i).den : Int),kL (q i).1.1 (q i).1.2 (q i).2.1 (q i).2.2,kP 9 (A i).num ((A i).den : Int),kPO (w.heap.size + 2) 158 (S i * A i).num ((S i * A i).den : Int),kResO (w.heap.size + 2) (w.heap.size) 158 (S i * A i).num ((S i * A i).den : Int)] [ [],[],[],[(2,some 17)],[(0,some 15),(1,some 16),(3,some 18)],[(4,some 19)] ] [(0,some 15),(1,some 16),(2,some 17),(3,some 18),(4,some 19),(5,none)] [] [] rfl bb_3.size ?_ ?_
   ·
     refine aj rfl rfl (br [] [(1,.func (.func 65) #[] #[])] (.func (.func 65) #[] #[]) rfl (old1 e1_3)) ?_; refine cp rfl rfl rfl ?_ ?_
     · exact st_loadKF f1_3 f1'_3 e3_3 rfl
     refine aj rfl rfl (st_loadL p8_3 e8_3 rfl) ?_; refine aj rfl rfl (ae rfl rfl fun hC h1=>tp (HO.out i hi _ _ h1)) ?_; refine aj rfl rfl (st_call2V rfl rfl rfl rfl fun w x v1 v2 hC h1 h2=>tpo (Nat.le_trans R_3.lt hC.below.size) (times_o (pm h1) (pm h2))) ?_; refine aj rfl rfl (gk S_3 rfl e3_3 rfl rfl) ?_; exact fa rfl
   intro W_4 x hC hall
   obtain ⟨a_4,ha⟩ : ∃ a,a = putE x a_3 [(0,some 15),(1,some 16),(2,some 17),(3,some 18),(4,some 19),(5,none)]:=⟨_,rfl⟩
   rw [← ha]; have hN_4:=size_behind ha hN_3; have hD_4:=defers_behind ha hD_3; have bb_4:=bb_3.trans hC.below; have e1_4:=ab ha e1_3; have e3_4:=ab ha e3_3; have e6_4:=ab ha e6_3; have e9_4:=ab ha e9_3; have e10_4:=ab ha e10_3; have e11_4:=ab ha e11_3; have R_4:=hC.holdsG (by simp only [List.mem_singleton]; omega) R_3
   have LL_4:=(fun i hi=>(LL_3 i hi).regG (EL.r q) (fun g hg=>by rw [List.mem_singleton.1 hg]; omega) hC)
   have hres : LocO W_4 (w.heap.size + 2) w.heap.size 158 (S i * A i).num ((S i * A i).den : Int):=show (kResO (w.heap.size + 2) (w.heap.size) 158 (S i * A i).num ((S i * A i).den : Int)).sem _ _ _ _ from hall 5 (of_decide_eq_true (by kernel_rfl))
   have hres2:=hres.tight (k:=79) (by rw [← HS.out i hi]; exact (HSb.out (i + 1) hi).1) (by rw [← HS.out i hi]; exact (HSb.out (i + 1) hi).2); rw [← HS.out i hi] at hres2; clear hall hC ha hres; refine io ?_; refine then_n ?_; refine wp_incr2 (n:=(i : Int)) (m:=((i + 1 : Nat) : Int)) e11_4 (add_run i 1 (by have:=HN.out; omega)) ?_; intro x hx
   obtain ⟨a_5,ha⟩ : ∃ a,a = putE x a_4 [(0,some 20),(1,some 11)]:=⟨_,rfl⟩
   rw [← ha]; have hN_5:=size_behind ha hN_4; have hD_5:=defers_behind ha hD_4; have e1_5:=ab ha e1_4; have e3_5:=ab ha e3_4; have e6_5:=ab ha e6_4; have e9_5:=ab ha e9_4; have e10_5:=ab ha e10_4; have e11_5:=(an (t:=11) (i:=1) ha).trans hx; refine ⟨⟨hN_5,hD_5,e1_5,e3_5,e6_5,e9_5,e10_5,bb_4,R_4,LL_4,i + 1,by omega,e11_5,hres2.p,fun _=>hres2⟩,?_⟩; rw [show intOf (a_5.eval (.tmp 11)) = ((i + 1 : Nat) : Int) by rw [e11_5]; rfl]; omega
 ·
   rw [decide_eq_false (show ¬ (i : Int) < (n : Int) by omega)] at e12_2; refine wp_cond_false e12_2 ?_; refine wp_exit ?_; refine gn ?_; refine gn ?_; refine gd ?_; refine then_n ?_; obtain rfl : i = n:=by omega
   have L_2:=Y_2 HP.out
   repeat first | apply lk | apply ll
   refine lu bb_2 R_2 [kPO (w.heap.size + 2) 79 (S i).num ((S i).den : Int),kResO (w.heap.size + 2) (w.heap.size + 1) 79 (S i).num ((S i).den : Int)] [[],[0]] [21,999] [] [] ?_ ?_
   ·
     refine aa rfl rfl (st_loadFO L_2 (fun g hg=>by rw [List.mem_singleton.1 hg]; omega) e3_2 rfl) ?_; refine aa rfl rfl (gk R_2 rfl e6_2 rfl rfl) ?_; exact ag rfl
   intro W z a1 hC hall ha hN1 hD1 bb1; obtain ⟨cs,hgg,hP⟩:=lr hall 1; have i2:=ab (t:=6) ha e6_2
   repeat first | apply lk | apply ll
   refine wp_ret ?_
   repeat (refine then_r ?_)
   exact gc (t:=6) rfl hD1 i2 hgg hP fun v hv=>⟨v,rfl,hv.mono (by omega),bb1⟩
theorem foldq_times {w : World} {B : Nat} {v0 : Value} {A0 : Option Addr} {n c0 : Nat} {q : Nat → (Bool × List Nat) × Bool × List Nat} {A S : Nat → Rat} (hB : B ≤ w.heap.size)
   (h0 : PrO w B v0 79 (S 0).num ((S 0).den : Int)) (HO : ∀ i,i < n → ∀ (W : World) (v : Value),EL q i v W → Calls Tryz.prog 62 #[v] W (TellsP W 9 (A i).num ((A i).den : Int)))
   (h : ∀ i,i < n → ElA w.heap.size w A0 i (EL q i)) (hn : n ≤ 100000) (hS : ∀ i,i < n → S (i + 1) = S i * A i) (hSb : ∀ i,i ≤ n → (S i).num.natAbs < 1000000000 ^ 79 ∧ (S i).den < 1000000000 ^ 79) :
   Calls Tryz.prog 89 #[v0,.func (.func 65) #[] #[],.slice A0 n c0] w (fun e w'=>∃ v,e = .returned v ∧ PrO w' B v 79 (S n).num ((S n).den : Int) ∧ Below w.heap.size w w'):=by
 rcases Nat.eq_zero_or_pos n with rfl | hp
 · obtain ⟨A1,l1,c1,A1',l1',c1',rfl,r⟩:=h0
   exact fold0.mono fun e w' ⟨e1,hb⟩=>⟨_,e1,PrO.below ⟨A1,l1,c1,A1',l1',c1',rfl,r⟩ hb,hb⟩
 · exact (foldn_times h0.pr HO h hn hp hS hSb).mono fun e w' ⟨v,e1,hv,hb⟩=>⟨v,e1,hv.mono hB,hb⟩
theorem told_fold {W0 w : World} {B S0 k : Nat} {F F2 : FuncId} {x : Nat → Value} {v1 v2 u2 : Value} {y z y' z' : Int} (hF : Hid (∀ (W : World) (v0 : Value),Below B W0 W → PrO W B v0 1 y z → Calls Tryz.prog F #[v0,.func (.func F2) #[] #[],u2] W (fun e w'=>∃ v,e = .returned v ∧ PrO w' B v k y' z' ∧ Below W.heap.size W w'))) (hb : Below B W0 w) (h1 : (kPO B 1 y z).sem S0 x v1 w) (h2 : (kIs u2).sem S0 x v2 w) : Calls Tryz.prog F #[v1,.func (.func F2) #[] #[],v2] w (Told (kPO B k y' z') S0 x w):=by
 obtain rfl : v2 = u2:=h2
 exact (hF.out _ _ hb h1).mono fun _ _ ⟨v,e,hv,hb⟩=>⟨v,e,hb,hv⟩
theorem Add_o {w : World} {A0 : Option Addr} {n c0 : Nat} {q : Nat → (Bool × List Nat) × Bool × List Nat} {A S : Nat → Rat}
   (HO : ∀ i,i < n → ∀ (W : World) (v : Value),EL q i v W → Calls Tryz.prog 62 #[v] W (TellsP W 9 (A i).num ((A i).den : Int)))
   (h : ∀ i,i < n → ElA w.heap.size w A0 i (EL q i)) (hn : n ≤ 100000) (hS0 : S 0 = 0) (hS : ∀ i,i < n → S (i + 1) = S i + A i) (hSb : ∀ i,i ≤ n → (S i).num.natAbs < 1000000000 ^ 79 ∧ (S i).den < 1000000000 ^ 79) :
   Calls Tryz.prog 34 #[.slice A0 n c0] w (TellsPO w 79 (S n).num ((S n).den : Int)):=by
 have hF : Hid (∀ (W : World) (v0 : Value),Below w.heap.size w W → PrO W w.heap.size v0 1 0 1 → Calls Tryz.prog 89 #[v0,.func (.func 81) #[] #[],.slice A0 n c0] W (fun e w'=>∃ v,e = .returned v ∧ PrO w' w.heap.size v 79 (S n).num ((S n).den : Int) ∧ Below W.heap.size W w')):=Lib.hid fun W v0 hW h0 =>
   foldq_plus hW.size (by rw [hS0]; exact h0.tight (by decide) (by decide)) HO (fun i hi=>by
     obtain ⟨ad,e,hs,u0,u1,u2,u3,h1,h2⟩:=(h i hi).below (EL.b q i) hW
     exact ⟨ad,e,Nat.lt_of_lt_of_le hs hW.size,u0,u1,u2,u3,h1,h2⟩) hn hS hSb
 clear HO h hn hS0 hS hSb
 go_enter Tryz.func34,Tryz.ntmps34
 repeat apply wp_seq
 refine ls fun K HK=>?_
 go_wp2
 refine HK.out _ _ (then_n ?_)
 refine lp (G:=fun W=>Code.wp _ _ _ _ W) ?_
 intro W_0 bb_0 K0
 have R_0:=kg K0
 clear K0
 refine lm (G:=fun a=>Code.wp _ _ _ a _) 7 ?_
 intro a_0 ha hN_0 hD_0
 have e0_0 : a_0.eval (.tmp 0) = .slice A0 n c0:=ln ha
 have e2_0:=lj ha 2 w.heap.size
 repeat first | apply lk | apply ll
 refine lu bb_0 R_0 [kPO w.heap.size 1 0 1,kIs (.slice A0 n c0),kPO w.heap.size 79 (S n).num ((S n).den : Int),kPO w.heap.size 79 (S n).num ((S n).den : Int),kResO w.heap.size (w.heap.size) 79 (S n).num ((S n).den : Int)] [[],[],[0,1],[2],[3]] [3,4,5,6,999] [] [] ?_ ?_
 ·
   refine aa rfl rfl (be [] rfl rfl fun hC=>tpo (Nat.le_trans bb_0.size hC.below.size) none_o) ?_; refine p01 e0_0 ?_; refine aa rfl rfl (st_callM rfl rfl rfl fun w x v1 v2 hC h1 h2=>told_fold hF (bb_0.trans hC.below) h1 h2) ?_; refine aa rfl rfl (st_fieldFO rfl rfl) ?_; refine aa rfl rfl (st_resPO R_0 rfl e2_0 rfl rfl) ?_; exact ag rfl
 intro W x a1 hC hall ha hN1 hD1 bb1
 obtain ⟨cs,hg,hP⟩:=lr hall 4
 have e1:=ab (t:=2) ha e2_0
 repeat first | apply lk | apply ll
 refine wp_ret ?_
 repeat (refine then_r ?_)
 exact ret_cellPO (t:=2) rfl hD1 e1 hg hP fun v hv=>⟨v,rfl,hv,bb1⟩
theorem Mul_o {w : World} {A0 : Option Addr} {n c0 : Nat} {q : Nat → (Bool × List Nat) × Bool × List Nat} {A S : Nat → Rat}
   (HO : ∀ i,i < n → ∀ (W : World) (v : Value),EL q i v W → Calls Tryz.prog 62 #[v] W (TellsP W 9 (A i).num ((A i).den : Int)))
   (h : ∀ i,i < n → ElA w.heap.size w A0 i (EL q i)) (hn : n ≤ 100000) (hS0 : S 0 = 1) (hS : ∀ i,i < n → S (i + 1) = S i * A i) (hSb : ∀ i,i ≤ n → (S i).num.natAbs < 1000000000 ^ 79 ∧ (S i).den < 1000000000 ^ 79) :
   Calls Tryz.prog 35 #[.slice A0 n c0] w (TellsPO w 79 (S n).num ((S n).den : Int)):=by
 have hF : Hid (∀ (W : World) (v0 : Value),Below w.heap.size w W → PrO W w.heap.size v0 1 1 1 → Calls Tryz.prog 89 #[v0,.func (.func 65) #[] #[],.slice A0 n c0] W (fun e w'=>∃ v,e = .returned v ∧ PrO w' w.heap.size v 79 (S n).num ((S n).den : Int) ∧ Below W.heap.size W w')):=Lib.hid fun W v0 hW h0 =>
   foldq_times hW.size (by rw [hS0]; exact h0.tight (by decide) (by decide)) HO (fun i hi=>by
     obtain ⟨ad,e,hs,u0,u1,u2,u3,h1,h2⟩:=(h i hi).below (EL.b q i) hW
     exact ⟨ad,e,Nat.lt_of_lt_of_le hs hW.size,u0,u1,u2,u3,h1,h2⟩) hn hS hSb
 clear HO h hn hS0 hS hSb
 go_enter Tryz.func35,Tryz.ntmps35
 repeat apply wp_seq
 refine ls fun K HK=>?_
 go_wp2
 refine HK.out _ _ (then_n ?_)
 refine lp (G:=fun W=>Code.wp _ _ _ _ W) ?_
 intro W_0 bb_0 K0
 have R_0:=kg K0
 clear K0
 refine lm (G:=fun a=>Code.wp _ _ _ a _) 8 ?_
 intro a_0 ha hN_0 hD_0
 have e0_0 : a_0.eval (.tmp 0) = .slice A0 n c0:=ln ha
 have e2_0:=lj ha 2 w.heap.size
 repeat first | apply lk | apply ll
 refine lu bb_0 R_0 [kOne w.heap.size,kPO w.heap.size 1 1 1,kIs (.slice A0 n c0),kPO w.heap.size 79 (S n).num ((S n).den : Int),kPO w.heap.size 79 (S n).num ((S n).den : Int),kResO w.heap.size (w.heap.size) 79 (S n).num ((S n).den : Int)] [[],[0],[],[1,2],[3],[4]] [3,4,5,6,7,999] [] [] ?_ ?_
 ·
   refine aa rfl rfl (be [.int .i64 (1)] rfl rfl fun hC=>t_one (Nat.le_trans bb_0.size hC.below.size)) ?_; refine aa rfl rfl (ae rfl rfl fun hC h1=>t_whole (Nat.le_trans bb_0.size hC.below.size) h1) ?_; refine p01 e0_0 ?_; refine aa rfl rfl (st_callM rfl rfl rfl fun w x v1 v2 hC h1 h2=>told_fold hF (bb_0.trans hC.below) h1 h2) ?_; refine aa rfl rfl (st_fieldFO rfl rfl) ?_; refine aa rfl rfl (st_resPO R_0 rfl e2_0 rfl rfl) ?_; exact ag rfl
 intro W x a1 hC hall ha hN1 hD1 bb1
 obtain ⟨cs,hg,hP⟩:=lr hall 5
 have e1:=ab (t:=2) ha e2_0
 repeat first | apply lk | apply ll
 refine wp_ret ?_
 repeat (refine then_r ?_)
 exact ret_cellPO (t:=2) rfl hD1 e1 hg hP fun v hv=>⟨v,rfl,hv,bb1⟩
end Go.Proofs.YtifgcjpgelbelaaGreatDoor
set_option linter.unusedVariables false
set_option linter.unusedSimpArgs false
namespace Go.Proofs.YtifgcjpgelbelaaGreatDoor
open Go.RowKit
def OR (W : World) (B : Nat) (v : Value) : Prop:=∃ (A : Option Addr) (n c : Nat) (zs : List Value),v = .slice A n c ∧ n ≤ 4000 ∧ Own W B 88 v zs
theorem OR.below {W W' : World} {B : Nat} {v : Value} (h : OR W B v) (hb : Below W.heap.size W W') : OR W' B v:=by
 obtain ⟨A,n,c,zs,e,hn,h⟩:=h
 exact ⟨A,n,c,zs,e,hn,h.below hb⟩
theorem OR.mono {W : World} {B B' : Nat} {v : Value} (h : OR W B v) (hB : B' ≤ B) : OR W B' v:=by
 obtain ⟨A,n,c,zs,e,hn,h⟩:=h
 exact ⟨A,n,c,zs,e,hn,h.mono hB⟩
def KeepsOR (B : Nat) (w w' : World) : Prop:=∀ v,OR w B v → OR w' B v
theorem KeepsOR.trans {B : Nat} {a b c : World} (h1 : KeepsOR B a b) (h2 : KeepsOR B b c) : KeepsOR B a c:=fun v h=>h2 v (h1 v h)
theorem KeepsOR.of {B : Nat} {a b : World} (h : Below a.heap.size a b) : KeepsOR B a b:=fun v hv=>hv.below h
def KeepsT (w w' : World) : Prop:=∀ (i : Nat) (cs : Array Value) (T : TypeId),w.heap[i]? = some (Obj.cells cs T (0,0)) → T ≠ 88 → w'.heap[i]? = some (Obj.cells cs T (0,0))
theorem KeepsT.trans {a b c : World} (h1 : KeepsT a b) (h2 : KeepsT b c) : KeepsT a c:=fun i cs T h hT=>h2 i cs T (h1 i cs T h hT) hT
theorem KeepsT.of {a b : World} (h : Below a.heap.size a b) : KeepsT a b:=fun i cs T hi _=>(h.block i (lt_block hi)).trans hi
def Overs (w : World) (B : Nat) (e : Ending) (w' : World) : Prop:=(∃ v,e = .returned v) ∧ Below B w w' ∧ KeepsOR B w w' ∧ KeepsT w w'
theorem keeps_one {w w' : World} {B g c m : Nat} {zs : List Value} (hother : ∀ k,k ≠ g → w'.heap[k]? = w.heap[k]?) (h0 : ∃ T ys,Own w B T (.slice (some ⟨g,0,none⟩) m c) ys ∧ T = 88) (hz : Own w' B 88 (.slice (some ⟨g,0,none⟩) m c) zs) : KeepsOR B w w':=by
 rintro v ⟨A,n,c',xs,rfl,hn,h⟩
 have hh : w.ownsRow B 88 1 (.slice A n c') xs.length xs:=h
 rcases hh.2 with h4 | ⟨g',cap,cur,e,hB,hq,hle,hmx,hsz,ht⟩
 · exact ⟨A,n,c',xs,rfl,hn,hh.1,.inl h4⟩
 · by_cases eg : g' = g
   · subst eg; injection e with e1 e2 e3; subst e1; subst e3; obtain ⟨T,ys,hy,rfl⟩:=h0; have hy2 : w.ownsRow B 88 1 (.slice (some ⟨g',0,none⟩) m c) ys.length ys:=hy; rcases hy2.2 with ⟨e5,_⟩ | ⟨g2,cap2,cur2,e5,_,hq2,_,_,hsz2,_⟩
     · cases e5
     · injection e5 with e6 e7 e8; injection e6 with e6; injection e6 with e6; subst e6; subst e8; rw [hq] at hq2; injection hq2 with hq2; injection hq2 with hq2; subst hq2; have hc : c = c':=by rw [hsz] at hsz2; omega
       subst hc; obtain ⟨xs',hl,ho⟩:=hz.wide (m:=n) (by omega); exact ⟨_,n,c,xs',rfl,hn,ho⟩
   · refine ⟨A,n,c',xs,rfl,hn,hh.1,.inr ⟨g',cap,cur,e,hB,?_,hle,hmx,hsz,ht⟩⟩; rw [hother g' eg]; exact hq
theorem over_own {w : World} {B : Nat} {v : Value} (ho : OR w B v) :
   Calls Tryz.prog 125 #[v] w (Overs w B):=by
 obtain ⟨A,n,c,zs,rfl,hn,ho⟩:=ho
 have hh : w.ownsRow B 88 1 (.slice A n c) zs.length zs:=ho
 rcases hh.2 with ⟨e,h0⟩ | ⟨g,cap,cur,e,hB,hg,hle,hmx,hsz,ht⟩
 · injection e with e1 e2 e3; subst e1; subst e2; subst e3; clear hh h0 ho hn
   go_enter Tryz.func125,Tryz.ntmps125
   go_wp2_with fail
   go_loopw [3] (fun iv wr=>iv = .int .i64 0 ∧ wr = w) (fun _ _=>0)
   case atStart=>exact ⟨rfl,rfl⟩
   case round =>
     obtain ⟨rfl,rfl⟩:=hrel
     go_wp2
     go_returns
     exact ⟨⟨_,rfl⟩,Below.refl _ _,fun _ h=>h,fun _ _ _ h _=>h⟩
 · injection e with e1 e2 e3; subst e1; subst e3
   obtain ⟨m,hm⟩ : ∃ m : Nat,m = min c (n + 12):=⟨_,rfl⟩
   have hmin : min (c : Int) ((n : Int) + 12) = (m : Int):=by omega
   have hmc : m ≤ c:=by omega
   have hm2 : m ≤ 4012:=by omega
   have hcl' : n ≤ c:=by omega
   have hc63 : c < 9223372036854775808:=by have:=(show maxLen < 9223372036854775808 by unfold maxLen; omega); omega
   obtain ⟨ys,hyl,hoy⟩:=ho.wide hmc; have HY:=Lib.hid (show _ ∧ _ from ⟨hoy,hg⟩); clear hm e2 ho hh hsz ht hle hmx zs
   go_enter Tryz.func125,Tryz.ntmps125
   go_wp2_with fail
   go_loopw [3] (fun iv wr=>∃ (k : Nat) (zs : List Value),k ≤ m ∧ iv = .int .i64 (k : Int) ∧ Hid (zs.length = m) ∧ Own wr B 88 (.slice (some ⟨g,0,none⟩) m c) zs ∧ Below B w wr ∧ Hid (∀ i,i ≠ g → wr.heap[i]? = w.heap[i]?)) (fun iv _=>m - (intOf iv).toNat)
   case atStart=>exact ⟨0,ys,Nat.zero_le _,rfl,hyl,hoy,Below.refl _ _,fun _ _=>rfl⟩
   case round =>
     obtain ⟨k,zs,hk,rfl,HZ,hz,hb,HO⟩:=hrel
     by_cases hlt : k < m
     · have hmk:=mark_any 2 (k : Int) (by omega) (by omega) wr; have HMK:=Lib.hid hmk; obtain ⟨hqc,hqf⟩:=own_cell hz (k:=k) (by rw [HZ.out]; exact hlt); have hst:=hz.setAt k; have HST:=Lib.hid hst; clear hmk hst
       go_wp2_with (go_at_call 129; refine HMK.out.mono ?_; rintro e w' ⟨rfl,rfl⟩)
       go_roundw
       case rel=>exact ⟨k + 1,zs.set k _,by omega,by go_num,by show _ = _; rw [List.length_set]; exact HZ.out,HST.out _,hb.setCell hB _,fun i hi=>(Below.heap_setCell _ _ _ _ hi).trans (HO.out i hi)⟩
       case measure=>simp [intOf]; omega
     · go_wp2
       go_returns
       exact ⟨⟨_,rfl⟩,hb,keeps_one HO.out ⟨_,ys,HY.out.1,rfl⟩ hz,fun i cs T h hT=>(HO.out i fun e=>by subst e; rw [HY.out.2] at h; injection h with h; injection h with _ h; exact hT h.symm).trans h⟩
theorem overInt_own {w : World} {B : Nat} {b : Bool} {A : Option Addr} {n c : Nat} (ho : OR w B (.slice A n c)) (hB : B ≤ w.heap.size) :
   Calls Tryz.prog 90 #[.agg #[.bool b,.slice A n c]] w (Overs w B):=by
 have hov:=fun (W : World) (hW : Below w.heap.size w W)=>over_own (ho.below hW)
 have HOV:=Lib.hid hov
 have HB:=Lib.hid hB
 clear hov ho hB
 go_enter Tryz.func90,Tryz.ntmps90
 go_wp2_with fail
 refine (HOV.out _ (bal (Below.refl _ _) _)).mono ?_
 rintro e w1 ⟨⟨v,rfl⟩,hb,hk,ht⟩
 have hb0:=((Below.refl w.heap.size w).alloc (Nat.le_refl _) (.cells #[.bool b,.slice A n c] 24)).mono HB.out
 have HR:=Lib.hid (show _ ∧ _ ∧ _ from ⟨hb0.trans hb,(KeepsOR.of (B:=B) (bal (Below.refl _ _) _)).trans hk,(KeepsT.of (bal (Below.refl _ _) _)).trans ht⟩)
 clear hb0 hb hk ht
 go_wp2
 go_returns
 exact ⟨⟨_,rfl⟩,HR.out⟩
def OQ (W : World) (B : Nat) (v : Value) : Prop:=∃ b A n c b' A' n' c',v = .agg #[.bool b,.slice A n c,.bool b',.slice A' n' c'] ∧ OR W B (.slice A n c) ∧ OR W B (.slice A' n' c')
theorem OQ.keeps {W W' : World} {B : Nat} {v : Value} (h : OQ W B v) (hk : KeepsOR B W W') : OQ W' B v:=by
 obtain ⟨b,A,n,c,b',A',n',c',e,h1,h2⟩:=h
 exact ⟨b,A,n,c,b',A',n',c',e,hk _ h1,hk _ h2⟩
theorem Ro.or {W : World} {B n : Nat} {A : Option Addr} {l c : Nat} (h : Ro W B (.slice A l c) n) : OR W B (.slice A l c):=by
 obtain ⟨⟨A1,c1,xs,e,_,h3⟩,rs,_,_,h4⟩:=h
 injection e with e1 e2 e3
 exact ⟨A,l,c,_,rfl,by have:=h3.2; omega,h4⟩
theorem PrO.oq {W : World} {B k : Nat} {v : Value} {x y : Int} (h : PrO W B v k x y) : OQ W B v:=by
 obtain ⟨A,l,c,A',l',c',e,⟨h1,_⟩,h2,_⟩:=h
 exact ⟨_,A,l,c,_,A',l',c',e,h1.or,h2.or⟩
theorem overRatio_own {w : World} {B : Nat} {v : Value} (ho : OQ w B v) (hB : B ≤ w.heap.size) :
   Calls Tryz.prog 38 #[v] w (Overs w B):=by
 obtain ⟨b,A,n,c,b',A',n',c',rfl,h1,h2⟩:=ho
 obtain ⟨W0,hW0⟩ : ∃ W,W = w.alloc (Obj.cells #[.bool b,.slice A n c,.bool b',.slice A' n' c'] 26):=⟨_,rfl⟩
 have bW0 : Below w.heap.size w W0:=by rw [hW0]; exact bal (Below.refl _ _) _
 have bB : Below B w W0:=bW0.mono hB
 have HK0:=KeepsOR.of (B:=B) bW0
 have K0 : W0.heap[w.heap.size]? = some (Obj.cells #[.bool b,.slice A n c,.bool b',.slice A' n' c'] 26):=by rw [hW0]; exact new_at (by simp)
 have hs0 : w.heap.size < W0.heap.size:=lt_block K0
 have HO1:=Lib.hid (overInt_own (b:=b) (h1.below bW0) (Nat.le_trans hB bW0.size))
 have H2:=Lib.hid (show _ ∧ _ ∧ _ ∧ _ ∧ _ ∧ _ from ⟨h2.below bW0,bB,HK0,KeepsT.of bW0,Nat.le_trans hB bW0.size,K0⟩)
 have HW0:=Lib.hid hW0
 obtain ⟨m1,m2,m3,m4,_,_,_,_⟩:=bz K0
 clear h1 h2 hB bW0 bB HK0 hs0 hW0
 go_enter Tryz.func38,Tryz.ntmps38
 go_wp2_with fail
 rw [← HW0.out]
 go_wp2_with fail
 refine HO1.out.mono ?_
 rintro e w1 ⟨⟨v,rfl⟩,hb,hk,ht⟩
 obtain ⟨h2,bB,HK0,HT0,hB1,hq⟩:=H2.out
 have K1:=ht _ _ _ hq (by decide)
 obtain ⟨n1,n2,n3,n4,_,_,_,_⟩:=bz K1
 have HO2:=Lib.hid (overInt_own (b:=b') (hk _ h2) (Nat.le_trans hB1 (hb.size)))
 have HR:=Lib.hid (show _ ∧ _ ∧ _ from ⟨bB.trans hb,HK0.trans hk,HT0.trans ht⟩)
 clear hb hk ht h2 bB HK0 HT0 hB1 hq K1 m1 m2 m3 m4
 go_wp2_with fail
 refine HO2.out.mono ?_
 rintro e w2 ⟨⟨v',rfl⟩,hb,hk,ht⟩
 have HF:=Lib.hid (show _ ∧ _ ∧ _ from ⟨HR.out.1.trans hb,HR.out.2.1.trans hk,HR.out.2.2.trans ht⟩)
 clear hb hk ht
 go_wp2
 go_returns
 exact ⟨⟨_,rfl⟩,HF.out⟩
end Go.Proofs.YtifgcjpgelbelaaGreatDoor

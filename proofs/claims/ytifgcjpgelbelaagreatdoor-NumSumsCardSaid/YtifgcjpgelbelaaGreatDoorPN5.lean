/- NumSums, its row and its card: for every list of numbers the call returns true; the list reads behind the call as it read before. Conditions: those of the given row and card: the three tables of the library are laid as the program's text lays them. Contracts of whetstonekit.mark, LentLimbs, KeptLimbs, OverLimbs: Ratios lent: Numbers and ratios lent, whose digits' rows are told to be of the call's own (XLentQ, XLentR tell only that they lie there): Contracts of whetstonekit.markInt and markRatio: Lists of numbers and of ratios that came in, opened: Lists of numbers that came in, opened, with what their data tell of their rows' lengths. LentNums over any list of numbers that came in: Contract of whetstonelaw03.few over any list of ratios that came in, at any address: LentRatios over any list of ratios that came in: Of any two ratios that came in, of at most 8 digits a number: What RatioEnds asks: KeptRatios over what LentRatios gave and the list that it was given: Steps over lists of numbers at any address: Contracts of the answers of stage 2 over any list of numbers as they come, at any address: Contract of the answers' greatest common divisor of stage 2 over any list of numbers as they come, at any address. KeptNums over what LentNums gave and the list that it was given: Contract of whetstonelaw02.great over any list of numbers that came in, at any address: NumSums' law: -/
import Derived.Test.YtifgcjpgelbelaaGreatDoorPN1
import Derived.Test.YtifgcjpgelbelaaGreatDoorPN2
import Derived.Test.YtifgcjpgelbelaaGreatDoorPN3
import Derived.Lib.MinMax
import Derived.Deep.QuietTactic
import Derived.BigQuiet
import Derived.Test.YtifgcjpgelbelaaGreatDoorPN4
import Derived.Test.YtifgcjpgelbelaaGreatDoorTie
import Derived.Test.YtifgcjpgelbelaaGreatDoorCards
import Derived.SevenTiedAt
import Derived.Shelf.Vars
import Derived.Deep.Slices
import Derived.Deep.Cut
set_option maxRecDepth 100000
set_option maxHeartbeats 16000000
set_option linter.unusedVariables false
set_option linter.unusedSimpArgs false
namespace Go.Proofs.YtifgcjpgelbelaaGreatDoor
open Go.RowKit
theorem mark_any (k i : Int) (hk : 0 ≤ k ∧ k ≤ 100) (hi : 0 ≤ i ∧ i ≤ 1000000) (w : World) :
   Calls Tryz.prog 129 #[.int .i64 k,.int .i64 i] w fun e w'=>e = .returned (.int .i64 (1000003 * (k + 7) + i)) ∧ w = w':=by
 obtain ⟨h1,h2⟩:=hk
 obtain ⟨h3,h4⟩:=hi
 go_enter Tryz.func129,Tryz.ntmps129
 go_wp2
 go_ret
 exact ⟨rfl,rfl⟩
def markL (k : Nat) : List Nat:=(List.range k).map (8000024 + ·)
theorem markL_succ (k : Nat) : markL (k + 1) = markL k ++ [8000024 + k]:=by simp [markL,List.range_succ]
theorem markL_length (k : Nat) : (markL k).length = k:=by simp [markL]
theorem markL_at {n k : Nat} (h : k < n) : (markL n).getD k 0 = 8000024 + k:=by
 rw [List.getD_eq_getElem?_getD]; simp [markL,h]
def LentRet (w : World) (xs : List Nat) (e : Ending) (w' : World) : Prop:=∃ g cap,e = .returned (.slice (some ⟨g,0,none⟩) xs.length cap) ∧ w.heap.size ≤ g ∧ Own w' w.heap.size 88 (.slice (some ⟨g,0,none⟩) (xs.length + 12) cap) (u32s (xs ++ markL 12)) ∧ Below w.heap.size w w'
theorem lent_any {w : World} {A : Option Addr} {c : Nat} {xs : List Nat} (hr : Row w A (u32s xs)) (hlen : xs.length ≤ 4000) :
   Calls Tryz.prog 119 #[.slice A xs.length c] w (LentRet w xs):=by
 obtain ⟨i0,hi,hz0,hz1,hz2⟩:=info_parts ce
 obtain ⟨B,hB⟩ : ∃ B,B = w.heap.size:=⟨_,rfl⟩
 have HB:=Lib.hid hB
 obtain ⟨n,hn⟩ : ∃ n,n = xs.length:=⟨_,rfl⟩
 have hn1 : n ≤ 4000:=by omega
 rw [← hn]
 have HN:=Lib.hid hn
 clear hB hn hlen
 go_enter Tryz.func119,Tryz.ntmps119
 go_wp2_with (at_make; refine wpList_make_own _ rfl _ _ 22 rfl B 88 i0 (.int .u32 0) 1 Tryz.underlying22 hi hz0 hz1 .i64 .i64 ((n : Int) + 12) (n + 12) rfl rfl (by omega) ?b2 ?b3 ?b4 ?_)
 case b2=>first | omega | (rw [hz2]; omega)
 case b3=>unfold maxLen; omega
 case b4=>rw [HB.out]; exact Nat.le_refl _
 intro w1 hown hgrow
 have hb1 : Below w.heap.size w w1:=(Below.refl _ _).grown hgrow (Nat.le_refl _) (fun k h=>by cases h)
 have ho1 : Own w1 B 88 (.slice (some ⟨w.heap.size,0,none⟩) 0 (n + 12)) (u32s []):=Own.mk_ hown
 have hr1:=hr.below hb1
 have hs1:=hb1.size
 clear hown hgrow hr
 go_wp2_with (at_builtin; refine ck rfl _ _ 22 rfl B 88 i0 (.int .u32 0) 4 Tryz.underlying22 hi hz0 hz1 hz2 rfl _ _ _ rfl ho1 A n c (u32s xs) rfl (by rw [ac,← HN.out]) hr1 (u32s_one xs) (by rw [ac]; unfold maxLen; simp; omega) (by rw [ac]; simp; omega) (by rw [HB.out]; exact hs1) ?_)
 intro v2 w2 hown2 hgrow2
 have ho2 : Own w2 B 88 v2 (u32s xs):=by
   have:=Own.mk_ hown2
   simpa [u32s] using this
 have hb2 : Below w.heap.size w w2:=by
   have:=ch (o:=.cells #[] 0) (w1:=w1) (wr:=w1) (w2:=w2) (B:=B) (Below.refl _ _) ho1 (by rw [HB.out]; exact hs1); refine hb1.trans ?_; refine (Below.refl _ _).grown hgrow2 hs1 (fun k hk=>?_); have hh : w1.ownsRow B 88 1 _ _ _:=ho1; have:=(hh.lt k hk).1; rw [HB.out] at this; exact this
 clear hown2 hgrow2 ho1 hb1 hr1 hs1
 go_wp2_with fail
 go_loopw [3,4] (fun ov iv wr=>∃ k : Nat,k ≤ 12 ∧ iv = .int .i64 (k : Int) ∧ Own wr B 88 ov (u32s (xs ++ markL k)) ∧ Below w.heap.size w wr) (fun _ iv _=>12 - (intOf iv).toNat)
 case atStart=>exact ⟨0,Nat.zero_le _,rfl,by simpa [markL] using ho2,hb2⟩
 case round =>
   obtain ⟨k,hk,rfl,hout,hb⟩:=hrel; have hsz:=hb.size; have hlk : (xs ++ markL k).length = n + k:=by rw [List.length_append,markL_length,← HN.out]
   have HLK:=Lib.hid hlk; clear hlk
   by_cases hlt : k < 12
   · have hmk:=mark_any 1 (k : Int) (by omega) (by omega) wr; have HMK:=Lib.hid hmk; have hlt' : (k : Int) < 12:=by omega
     clear hmk
     go_wp2_with (first
       | (go_at_call 129; refine HMK.out.mono ?_; rintro e w' ⟨rfl,rfl⟩)
       | (at_builtin; refine wpList_append_own _ rfl _ _ 22 rfl B 88 i0 (.int .u32 0) 1 4 Tryz.underlying22 hi hz0 hz1 hz2 rfl (by decide) _ _ _ rfl (hout.alloc _) ⟨wr.heap.size,0,none⟩ 1 1 [.int .u32 ((8000024 + k : Nat) : Int)] rfl rfl ?c1 ?c2 ?c3 ?c4 ?c5 ?_))
     case c1=>exact one_news (int_eq (by omega))
     case c2=>exact ay
     case c3=>rw [ac,HLK.out]; unfold maxLen; omega
     case c4=>rw [ac,HLK.out]; omega
     case c5=>rw [HB.out]; simp; omega
     intro v' w3 hown' hgrow' _; have ho3:=bl hown'; have hb3:=bk hb hout HB hgrow'; rw [List.append_assoc,← markL_succ] at ho3; clear hown' hgrow' hout hb HMK
     go_wp2
     go_roundw
     case rel=>exact ⟨k + 1,by omega,by go_num,ho3,hb3⟩
     case measure=>simp [intOf]; omega
   · obtain rfl : k = 12:=by omega
     obtain ⟨A3,c3,rfl,hr3,hc3,hx3⟩:=hout.slice32; rw [HLK.out] at hout hc3; obtain ⟨ad,rfl,hx4⟩:=hr3.at_ (k:=0) (by rw [ac,HLK.out]; omega); obtain ⟨g,rfl,hg,hgs⟩:=hout.lt.2 ad rfl; have hlk:=HLK.out; clear hx3 hx4 hr3
     go_wp2
     go_ret
     obtain rfl : n = xs.length:=HN.out; exact ⟨g,c3,by simp,HB.out ▸ hg,HB.out ▸ hout,hb⟩
theorem add_at (g k : Nat) : (⟨g,0,none⟩ : Addr).add k = ⟨g,k,none⟩:=by
 unfold Addr.add; split
 · rename_i h; subst h; rfl
 · simp
theorem kept_any {w : World} {g cap c : Nat} {A : Option Addr} {xs : List Nat} (hO : Row w (some ⟨g,0,none⟩) (u32s (xs ++ markL 12))) (hcap : xs.length + 12 ≤ cap) (hr : Row w A (u32s xs)) (hlen : xs.length ≤ 4000) :
   Calls Tryz.prog 124 #[.slice (some ⟨g,0,none⟩) xs.length cap,.slice A xs.length c] w fun e w'=>e = .returned (.bool true) ∧ Drawn w w':=by
 obtain ⟨n,hn⟩ : ∃ n,n = xs.length:=⟨_,rfl⟩
 have hn1 : n ≤ 4000:=by omega
 rw [← hn] at hcap ⊢
 have HN:=Lib.hid hn
 clear hn hlen
 go_enter Tryz.func124,Tryz.ntmps124
 go_wp2_with fail
 go_loopw [6] (fun iv wr=>∃ k : Nat,k ≤ n + 12 ∧ iv = .int .i64 (k : Int) ∧ Hid (Drawn w wr)) (fun iv _=>n + 12 - (intOf iv).toNat)
 case atStart=>exact ⟨0,Nat.zero_le _,rfl,Drawn.refl _⟩
 case round =>
   obtain ⟨k,hk,rfl,HW⟩:=hrel
   by_cases hlt : k < n + 12
   · have hlt' : (k : Int) < (n : Int) + 12:=by omega
     by_cases hkn : k < n
     · obtain ⟨ad,x,rfl,hc,hx,hm⟩:=(hr.drawn HW.out).dig (k:=k) (by rw [← HN.out]; exact hkn); obtain ⟨ad2,y,e2,hc2,hy,hm2⟩:=(hO.drawn HW.out).dig (k:=k) (by rw [List.length_append,← HN.out]; omega); injection e2 with e2; subst e2
       have hxy : y = x:=by
         rw [← hx.out,← hy.out,List.getD_eq_getElem?_getD,List.getD_eq_getElem?_getD,List.getElem?_append_left (by rw [← HN.out]; exact hkn)]
       subst hxy
       have hc2' : wr.cell? ⟨g,k,none⟩ = some (.int .u32 (y : Int)):=by
         have:=add_at g k; rw [← this]; exact hc2
       have hg1 : decide (k < n) = true:=decide_eq_true hkn; have hg2 : decide (n ≤ k) = false:=decide_eq_false (by omega); clear hm hm2 hc2 hx hy
       go_wp2
       go_quiet (fail)
       go_wp2
       go_roundw
       case rel=>exact ⟨k + 1,by omega,by go_num,HW.out.trans ⟨_,rfl⟩⟩
       case measure=>simp [intOf]; omega
     · obtain ⟨d,hd⟩ : ∃ d,k = n + d:=⟨k - n,by omega⟩
       obtain ⟨ad2,y,e2,hc2,hy,hm2⟩:=(hO.drawn HW.out).dig (k:=k) (by rw [List.length_append,← HN.out,markL_length]; omega); injection e2 with e2; subst e2
       have hyv : y = 8000024 + d:=by
         rw [← hy.out,List.getD_eq_getElem?_getD,List.getElem?_append_right (by rw [← HN.out]; omega),← HN.out,hd,Nat.add_sub_cancel_left,← List.getD_eq_getElem?_getD]; exact markL_at (by omega)
       have hc2' : wr.cell? ⟨g,k,none⟩ = some (.int .u32 (8000024 + (d : Int))):=by
         have h1:=add_at g k; rw [← h1,hc2,hyv]; rfl
       have hg1 : decide (k < n) = false:=decide_eq_false (by omega); have hg2 : decide (n ≤ k) = true:=decide_eq_true (by omega)
       have hmk : ∀ m,Calls Tryz.prog 129 #[.int .i64 1,.int .i64 (d : Int)] (wr.drewN m) (fun e w'=>e = .returned (.int .i64 (8000024 + (d : Int))) ∧ w' = wr.drewN m):=fun m=>(mark_any 1 (d : Int) (by omega) (by omega) (wr.drewN m)).mono fun _ _ h=>⟨by rw [h.1]; congr 2,h.2.symm⟩
       have HMK:=Lib.hid hmk; have hsub : (k : Int) - (n : Int) = (d : Int):=by omega
       have hd12 : d < 12:=by omega
       clear hm2 hc2 hy hmk hyv hd hkn
       go_wp2
       go_quiet ((go_at_call 129; exact Calls.quiet_of_same (HMK.out _)))
       go_wp2
       go_roundw
       case rel=>exact ⟨k + 1,by omega,by go_num,HW.out.trans ⟨_,rfl⟩⟩
       case measure=>simp [intOf]; omega
   · have hlt' : ¬ (k : Int) < (n : Int) + 12:=by omega
     go_wp2
     go_returns
     exact ⟨rfl,HW.out⟩
end Go.Proofs.YtifgcjpgelbelaaGreatDoor
set_option linter.unusedVariables false
set_option linter.unusedSimpArgs false
namespace Go.Proofs.YtifgcjpgelbelaaGreatDoor
open Go.RowKit
theorem Row.pre {w : World} {A : Option Addr} {xs zs : List Nat} (h : Row w A (u32s (xs ++ zs))) : Row w A (u32s xs):=by
 have h1:=h.take xs.length
 have e : (u32s (xs ++ zs)).take xs.length = u32s xs:=by simp [u32s]
 rwa [e] at h1
def LN (W : World) (v : Value) (b : Bool) (xs : List Nat) : Prop:=∃ g cap,v = .agg #[.bool b,.slice (some ⟨g,0,none⟩) xs.length cap] ∧ Row W (some ⟨g,0,none⟩) (u32s (xs ++ markL 12)) ∧ xs.length + 12 ≤ cap
def Lv (W : World) (v : Value) (b : Bool) (xs : List Nat) (b' : Bool) (ys : List Nat) : Prop := ∃ g c g' c', v = .agg #[.bool b, .slice (some ⟨g, 0, none⟩) xs.length c, .bool b', .slice (some ⟨g', 0, none⟩) ys.length c'] ∧
 (Row W (some ⟨g,0,none⟩) (u32s (xs ++ markL 12)) ∧ xs.length + 12 ≤ c) ∧ Row W (some ⟨g',0,none⟩) (u32s (ys ++ markL 12)) ∧ ys.length + 12 ≤ c'
theorem LN.below {W W' : World} {v : Value} {b : Bool} {xs : List Nat} (h : LN W v b xs) (hb : Below W.heap.size W W') : LN W' v b xs:=by
 obtain ⟨g,c,h1,h2,h3⟩:=h
 exact ⟨g,c,h1,h2.below hb,h3⟩
theorem LN.stored {W W' : World} {k : Nat} {v : Value} {b : Bool} {xs : List Nat} (h : LN W v b xs) (hs : Stored k W W') : LN W' v b xs:=by
 obtain ⟨g,c,h1,h2,h3⟩:=h
 exact ⟨g,c,h1,Stored.row h2 hs,h3⟩
theorem Lv.below {W W' : World} {v : Value} {b b' : Bool} {xs ys : List Nat} (h : Lv W v b xs b' ys) (hb : Below W.heap.size W W') : Lv W' v b xs b' ys:=by
 obtain ⟨g,c,g',c',h1,⟨h2,h3⟩,h4,h5⟩:=h
 exact ⟨g,c,g',c',h1,⟨h2.below hb,h3⟩,h4.below hb,h5⟩
theorem Lv.stored {W W' : World} {k : Nat} {v : Value} {b b' : Bool} {xs ys : List Nat} (h : Lv W v b xs b' ys) (hs : Stored k W W') : Lv W' v b xs b' ys:=by
 obtain ⟨g,c,g',c',h1,⟨h2,h3⟩,h4,h5⟩:=h
 exact ⟨g,c,g',c',h1,⟨Stored.row h2 hs,h3⟩,Stored.row h4 hs,h5⟩
def LocL (W : World) (g : Nat) (b : Bool) (xs : List Nat) (b' : Bool) (ys : List Nat) : Prop:=∃ v,Lv W v b xs b' ys ∧ ∃ cs,v = .agg cs ∧ cs.size = 4 ∧ Holds_ W g cs
theorem Lv.parts {W : World} {v : Value} {b b' : Bool} {xs ys : List Nat} (h : Lv W v b xs b' ys) : ∃ A c A' c',v = .agg #[.bool b,.slice A xs.length c,.bool b',.slice A' ys.length c']:=by
 obtain ⟨g,c,g',c',h1,_⟩:=h
 exact ⟨_,c,_,c',h1⟩
theorem LocL.parts {W : World} {g : Nat} {b b' : Bool} {xs ys : List Nat} (h : LocL W g b xs b' ys) : ∃ A c A' c',Holds_ W g #[.bool b,.slice A xs.length c,.bool b',.slice A' ys.length c'] ∧ Lv W (.agg #[.bool b,.slice A xs.length c,.bool b',.slice A' ys.length c']) b xs b' ys:=by
 obtain ⟨v,hv,cs,rfl,_,hh⟩:=h
 obtain ⟨A,c,A',c',e⟩:=hv.parts
 injection e with e
 subst e
 exact ⟨A,c,A',c',hh,hv⟩
theorem LocL.q {W : World} {g : Nat} {b b' : Bool} {xs ys : List Nat} (h : LocL W g b xs b' ys) : LocQ W g b xs b' ys:=by
 obtain ⟨v,⟨g1,c,g2,c',rfl,⟨h2,_⟩,h4,_⟩,cs,e,_,hh⟩:=h
 injection e with e
 subst e
 exact ⟨_,c,_,c',hh,h2.pre,h4.pre⟩
theorem Reg.lv {B : Nat} {W0 w : World} {G : List Nat} (h : Reg B W0 G w) {v : Value} {b b' : Bool} {xs ys : List Nat} (hv : Lv W0 v b xs b' ys) : Lv w v b xs b' ys:=by
 obtain ⟨g,c,g',c',h1,⟨h2,h3⟩,h4,h5⟩:=hv
 exact ⟨g,c,g',c',h1,⟨h.row h2,h3⟩,h.row h4,h5⟩
section
variable {G : List Nat} {S0 B : Nat} {ks : List PK} {a0 : Act} {i : Nat} {N : Nat} {W0 : World} {T : TypeId} {pos : String} {af : Array Edge} {gu : Option (Nat × Bool)} {b b' : Bool} {xs ys : List Nat}
end
theorem sameInt_raw {w : World} {A1 A2 : Option Addr} {c1 c2 : Nat} {b : Bool} {xs : List Nat} (r1 : Row w A1 (u32s xs)) (r2 : Row w A2 (u32s xs)) (hl : xs.length ≤ 1000000) :
   Calls Tryz.prog 29 #[.agg #[.bool b,.slice A1 xs.length c1],.agg #[.bool b,.slice A2 xs.length c2]] w (SaysB w true):=by
 have hsm:=fun (W : World) (hW : Below w.heap.size w W)=>same_yes0 (w:=W) (c1:=c1) (c2:=c2) (r1.below hW) (r2.below hW) hl
 have HSM:=Lib.hid hsm
 clear hsm r1 r2 hl
 go_enter Tryz.func29,Tryz.ntmps29
 go_wp2_with fail
 refine (HSM.out _ (bal (bal (Below.refl _ _) _) _)).mono ?_
 rintro e w1 ⟨rfl,hd⟩
 have hb:=bstep (bal (bal (Below.refl w.heap.size w) _) _) hd.below
 clear hd
 go_wp2
 go_ret
 exact ⟨rfl,hb⟩
theorem sameInt_nv {w : World} {v1 v2 : Value} {b : Bool} {xs : List Nat} (h1 : Nv w v1 b xs) (h2 : Nv w v2 b xs) (hl : xs.length ≤ 1000000) : Calls Tryz.prog 29 #[v1,v2] w (SaysB w true):=by
 obtain ⟨A1,c1,rfl,r1⟩:=h1
 obtain ⟨A2,c2,rfl,r2⟩:=h2
 exact sameInt_raw r1 r2 hl
theorem LN.nv {W : World} {v : Value} {b : Bool} {xs : List Nat} (h : LN W v b xs) : Nv W v b xs:=by
 obtain ⟨g,c,h1,h2,_⟩:=h
 exact ⟨_,c,h1,h2.pre⟩
theorem keptInt_ln {w : World} {v1 v2 : Value} {b : Bool} {xs : List Nat} (h1 : LN w v1 b xs) (h2 : Nv w v2 b xs) (hl : xs.length ≤ 4000) : Calls Tryz.prog 87 #[v1,v2] w (SaysB w true):=by
 obtain ⟨g,cap,rfl,r1,hc⟩:=h1
 obtain ⟨A,c,rfl,r2⟩:=h2
 have hsm:=fun (W : World) (hW : Below w.heap.size w W)=>sameInt_raw (w:=W) (b:=b) (c1:=cap) (c2:=c) (r1.pre.below hW) (r2.below hW) (by omega)
 have hke:=fun (W : World) (hW : Below w.heap.size w W)=>kept_any (w:=W) (c:=c) (r1.below hW) hc (r2.below hW) hl
 have HSM:=Lib.hid hsm
 have HKE:=Lib.hid hke
 clear hsm hke r1 r2 hl hc
 go_enter Tryz.func87,Tryz.ntmps87
 go_wp2_with fail
 refine (HSM.out _ (bal (bal (Below.refl _ _) _) _)).mono ?_
 rintro e w1 ⟨rfl,hb⟩
 have K1:=(hb.block w.heap.size (by simp <;> omega)).trans ((Below.heap_alloc _ _ _ (by simp <;> omega)).trans (new_at (by simp)))
 have K2:=(hb.block (w.heap.size + 1) (by simp)).trans (new_at (by simp))
 have hb1:=bstep (bal (bal (Below.refl w.heap.size w) _) _) hb
 obtain ⟨m1,m2,m3,m4⟩:=cell_of_two K1
 obtain ⟨n1,n2,n3,n4⟩:=cell_of_two K2
 have HB1:=Lib.hid hb1
 clear hb hb1 m3 m4 n3 n4
 go_wp2_with fail
 refine (HKE.out _ HB1.out).mono ?_
 rintro e w2 ⟨rfl,hd⟩
 have HB2:=Lib.hid (bstep HB1.out hd.below)
 clear hd
 go_wp2
 go_ret
 exact ⟨rfl,HB2.out⟩
section
variable {G : List Nat} {S0 B : Nat} {ks : List PK} {a0 : Act} {i : Nat} {N : Nat} {W0 : World} {T : TypeId} {pos : String} {af : Array Edge} {gu : Option (Nat × Bool)} {b b' : Bool} {xs ys : List Nat}
end
end Go.Proofs.YtifgcjpgelbelaaGreatDoor
set_option linter.unusedVariables false
set_option linter.unusedSimpArgs false
namespace Go.Proofs.YtifgcjpgelbelaaGreatDoor
open Go.RowKit
def LO (W : World) (B g cap : Nat) (xs : List Nat) : Prop:=Own W B 88 (.slice (some ⟨g,0,none⟩) (xs.length + 12) cap) (u32s (xs ++ markL 12))
def Lo (W : World) (B : Nat) (v : Value) (b : Bool) (xs : List Nat) (b' : Bool) (ys : List Nat) : Prop:=∃ g c g' c',v = .agg #[.bool b,.slice (some ⟨g,0,none⟩) xs.length c,.bool b',.slice (some ⟨g',0,none⟩) ys.length c'] ∧ (LO W B g c xs ∧ xs.length + 12 ≤ c) ∧ LO W B g' c' ys ∧ ys.length + 12 ≤ c'
theorem Lo.lv {W : World} {B : Nat} {v : Value} {b b' : Bool} {xs ys : List Nat} (h : Lo W B v b xs b' ys) : Lv W v b xs b' ys:=by
 obtain ⟨g,c,g',c',h1,⟨h2,h3⟩,h4,h5⟩:=h
 exact ⟨g,c,g',c',h1,⟨Own.row32 h2,h3⟩,Own.row32 h4,h5⟩
theorem Lo.below {W W' : World} {B : Nat} {v : Value} {b b' : Bool} {xs ys : List Nat} (h : Lo W B v b xs b' ys) (hb : Below W.heap.size W W') : Lo W' B v b xs b' ys:=by
 obtain ⟨g,c,g',c',h1,⟨h2,h3⟩,h4,h5⟩:=h
 exact ⟨g,c,g',c',h1,⟨Own.below h2 hb,h3⟩,Own.below h4 hb,h5⟩
theorem Lo.mono {W : World} {B B' : Nat} {v : Value} {b b' : Bool} {xs ys : List Nat} (h : Lo W B v b xs b' ys) (hB : B' ≤ B) : Lo W B' v b xs b' ys:=by
 obtain ⟨g,c,g',c',h1,⟨h2,h3⟩,h4,h5⟩:=h
 exact ⟨g,c,g',c',h1,⟨Own.mono h2 hB,h3⟩,Own.mono h4 hB,h5⟩
theorem Lo.stored {W W' : World} {B k : Nat} {v : Value} {b b' : Bool} {xs ys : List Nat} (h : Lo W B v b xs b' ys) (hs : Stored k W W') : Lo W' B v b xs b' ys:=by
 obtain ⟨g,c,g',c',h1,⟨h2,h3⟩,h4,h5⟩:=h
 exact ⟨g,c,g',c',h1,⟨Own.stored h2 hs,h3⟩,Own.stored h4 hs,h5⟩
theorem lentInt_own {w : World} {A : Option Addr} {c : Nat} {b : Bool} {xs : List Nat} (hr : Row w A (u32s xs)) (hlen : xs.length ≤ 4000) :
   Calls Tryz.prog 61 #[.agg #[.bool b,.slice A xs.length c]] w fun e w'=>∃ g cap,e = .returned (.agg #[.bool b,.slice (some ⟨g,0,none⟩) xs.length cap]) ∧ LO w' w.heap.size g cap xs ∧ xs.length + 12 ≤ cap ∧ Below w.heap.size w w':=by
 have hl:=fun (W : World) (hW : Below w.heap.size w W)=>lent_any (c:=c) (hr.below hW) hlen
 have HL:=Lib.hid hl
 clear hl hr hlen
 go_enter Tryz.func61,Tryz.ntmps61
 go_wp2_with fail
 refine (HL.out _ (bal (bal (Below.refl _ _) _) _)).mono ?_
 rintro e w1 ⟨g,cap,rfl,hg,ho,hb⟩
 have K1:=(hb.block w.heap.size (by simp <;> omega)).trans ((Below.heap_alloc _ _ _ (by simp <;> omega)).trans (new_at (by simp)))
 have K2:=(hb.block (w.heap.size + 1) (by simp)).trans (new_at (by simp))
 have hb1:=bstep (bal (bal (Below.refl w.heap.size w) _) _) hb
 obtain ⟨m1,m2,m3,m4⟩:=cell_of_two K1
 obtain ⟨n1,n2,n3,n4⟩:=cell_of_two K2
 have HO:=Lib.hid ho
 have s1:=lt_block K1
 have s2:=lt_block K2
 clear hb ho hg
 go_wp2
 have hcap : xs.length + 12 ≤ cap:=by
   obtain ⟨_,_,e,_,hc,_⟩:=HO.out.slice32; injection e with _ e2 e3; omega
 have K3 : (w1.setCell ⟨w.heap.size,1,none⟩ (.slice (some ⟨g,0,none⟩) xs.length cap)).heap[w.heap.size + 1]? = some (Obj.cells #[Value.bool false,Value.slice none 0 0] 24):=(Below.heap_setCell _ _ _ _ (by simp)).trans K2
 have hh : Holds_ (w1.setCell ⟨w.heap.size,1,none⟩ (.slice (some ⟨g,0,none⟩) xs.length cap)) (w.heap.size + 1) #[Value.bool false,Value.slice none 0 0]:=⟨⟨_,K3⟩,by simp [noDig]⟩
 have hp:=aj hh (noDig_bool b) (noDig_slice (some ⟨g,0,none⟩) xs.length cap)
 obtain ⟨q1,q2,_,_⟩:=hp.two
 have r1:=(HO.out.setBelow (p:=⟨w.heap.size,1,none⟩) (by simp <;> omega) (.slice (some ⟨g,0,none⟩) xs.length cap)).mono (B':=w.heap.size) (by simp <;> omega)
 unfold put2 at q1 q2
 refine bodyPost_ret (v:=.agg #[.bool b,.slice (some ⟨g,0,none⟩) xs.length cap]) (by simp [results,Tryz.results61,go_sem,q1,q2]) rfl ?_
 refine ⟨g,cap,rfl,?_,hcap,((hb1.setCell (by simp) _).setCell (by simp) _).setCell (by simp) _⟩
 have st:=stored_put2 hh (noDig_bool b) (noDig_slice (some ⟨g,0,none⟩) xs.length cap)
 exact Own.stored r1 st
end Go.Proofs.YtifgcjpgelbelaaGreatDoor
set_option linter.unusedVariables false
set_option linter.unusedSimpArgs false
namespace Go.Proofs.YtifgcjpgelbelaaGreatDoor
open Go.RowKit
def MarkZ (W : World) (B : Nat) (v : Value) (d : Nat) : Prop:=∃ g,v = .agg #[.bool false,.slice (some ⟨g,0,none⟩) 1 1] ∧ Own W B 88 (.slice (some ⟨g,0,none⟩) 1 1) (u32s [d])
def MarkQ (W : World) (B : Nat) (v : Value) (d : Nat) : Prop:=∃ g,v = .agg #[.bool false,.slice (some ⟨g,0,none⟩) 1 1,.bool false,.slice none 0 0] ∧ Own W B 88 (.slice (some ⟨g,0,none⟩) 1 1) (u32s [d])
theorem markInt_any {w : World} (k : Nat) (hk : k ≤ 12) :
   Calls Tryz.prog 95 #[.int .i64 1,.int .i64 (k : Int)] w fun e w'=>∃ v,e = .returned v ∧ MarkZ w' w.heap.size v (8000024 + k) ∧ Below w.heap.size w w':=by
 have hmk:=fun (W : World)=>mark_any 1 (k : Int) (by omega) (by omega) W
 have HMK:=Lib.hid hmk
 clear hmk
 go_enter Tryz.func95,Tryz.ntmps95
 go_wp2_with (go_at_call 129; refine (HMK.out _).mono ?_; rintro e w' ⟨rfl,rfl⟩)
 obtain ⟨w1,hw1⟩ : ∃ W,W = w.alloc (Obj.cells #[Value.bool false,Value.slice (some { block:=w.heap.size + 1,off:=0 }) 1 1] 24):=⟨_,rfl⟩
 have hs1 : w1.heap.size = w.heap.size + 1:=by rw [hw1]; simp
 have hb1 : Below w.heap.size w w1:=by rw [hw1]; exact bal (Below.refl _ _) _
 have K1 : w1.heap[w.heap.size]? = some (Obj.cells #[Value.bool false,Value.slice (some { block:=w.heap.size + 1,off:=0 }) 1 1] 24):=by rw [hw1]; exact new_at rfl
 rw [← hw1]
 clear hw1
 have r1 : Own (w1.alloc (.cells #[Value.int IntKind.u32 (8000024 + (k : Int))] 88)) w.heap.size 88 (.slice (some ⟨w1.heap.size,0,none⟩) 1 1) [Value.int IntKind.u32 (8000024 + (k : Int))]:=Own.mk_ (World.ownsRow_lit w1 #[Value.int IntKind.u32 (8000024 + (k : Int))] 1 (by omega) (by unfold maxLen; simp) rfl)
 rw [hs1] at r1
 have K2:=(Below.heap_alloc w1 (Obj.cells #[Value.int IntKind.u32 (8000024 + (k : Int))] 88) w.heap.size (by omega)).trans K1
 have hb2:=bal hb1 (Obj.cells #[Value.int IntKind.u32 (8000024 + (k : Int))] 88)
 obtain ⟨m1,m2,_,_⟩:=cell_of_two K2
 refine bodyPost_ret (v:=.agg #[.bool false,.slice (some ⟨w.heap.size + 1,0,none⟩) 1 1]) (by simp [results,Tryz.results95,go_sem,m1,m2]) rfl ?_
 exact ⟨_,rfl,⟨_,rfl,by simpa [u32s] using r1⟩,hb2⟩
end Go.Proofs.YtifgcjpgelbelaaGreatDoor
namespace Go.Proofs.YtifgcjpgelbelaaGreatDoor
open Go.ChangeShapes Go.WideShapes Go.ChangeAt Go.WideMaps Go.WideElems Go.RowKit
def AtN (W : World) (p : Addr) (q : Bool × List Nat) : Prop:=∃ A c,W.cell? p = some (.bool q.1) ∧ W.cell? (p.add 1) = some (.slice A q.2.length c) ∧ Row W A (u32s q.2) ∧ small 4294967296 q.2
def RawZs (W : World) (A : Option Addr) (L : List (Bool × List Nat)) : Prop:=∀ j q,L[j]? = some q → ∃ ad,A = some ad ∧ AtN W (ad.add (j * 2)) q
def RawQs (W : World) (A : Option Addr) (L : List ((Bool × List Nat) × Bool × List Nat)) : Prop:=∀ j q,L[j]? = some q → ∃ ad,A = some ad ∧ AtN W (ad.add (j * 4)) q.1 ∧ AtN W ((ad.add (j * 4)).add 2) q.2
theorem AtN.below {W W' : World} {p : Addr} {q : Bool × List Nat} (h : AtN W p q) (hb : Below W.heap.size W W') : AtN W' p q:=by
 obtain ⟨A,c,h1,h2,h3,h4⟩:=h
 exact ⟨A,c,(hb.cell (cell_lt h1)).trans h1,(hb.cell (cell_lt h2)).trans h2,h3.below hb,h4⟩
theorem RawZs.below {W W' : World} {A : Option Addr} {L : List (Bool × List Nat)} (h : RawZs W A L) (hb : Below W.heap.size W W') : RawZs W' A L:=fun j q hj=>by
 obtain ⟨ad,e,h1⟩:=h j q hj
 exact ⟨ad,e,h1.below hb⟩
theorem RawQs.below {W W' : World} {A : Option Addr} {L : List ((Bool × List Nat) × Bool × List Nat)} (h : RawQs W A L) (hb : Below W.heap.size W W') : RawQs W' A L:=fun j q hj=>by
 obtain ⟨ad,e,h1,h2⟩:=h j q hj
 exact ⟨ad,e,h1.below hb,h2.below hb⟩
theorem list_of {α : Type} {p : Nat → α → Prop} : ∀ n : Nat, (∀ i, i < n → ∃ a, p i a) → ∃ L : List α, L.length = n ∧ ∀ i a, L[i]? = some a → p i a
 | 0,_=>⟨[],rfl,fun i a h=>by simp at h⟩
 | n + 1,h=>by
   obtain ⟨L,hl,hp⟩:=list_of n fun i hi=>h i (by omega); obtain ⟨a,ha⟩:=h n (by omega); refine ⟨L ++ [a],by simp [hl],fun i b hb=>?_⟩; rcases Nat.lt_or_ge i n with hi | hi
   · rw [List.getElem?_append_left (by omega)] at hb; exact hp i b hb
   · rw [List.getElem?_append_right (by omega)] at hb
     have e : i - L.length = 0:=by
       rcases Nat.eq_zero_or_pos (i - L.length) with e | e
       · exact e
       · rw [List.getElem?_eq_none (by simp; omega)] at hb; cases hb
     rw [e] at hb; simp at hb; subst hb; have : i = n:=by omega
     subst this; exact ha
theorem add_none (p : Addr) : p.add 0 = p:=Addr.add_zero' p
end Go.Proofs.YtifgcjpgelbelaaGreatDoor
set_option linter.unusedVariables false
set_option linter.unusedSimpArgs false
namespace Go.Proofs.YtifgcjpgelbelaaGreatDoor
open Go.ChangeShapes Go.WideShapes Go.ChangeAt Go.WideMaps Go.WideElems Go.RowKit
theorem int_inner2 {H : Type} {enc : TypeId × Value → H} {W : World} {n : Nat} {c0 c1 : Value} {y : DataW H × List MemPlace} (h : DataW.trod enc Tryz.prog W 0 (fun _=>true) true n 24 [c0,c1] = some y) :
   ∃ (b : Bool) (A : Option Addr) (c : Nat) (ds : List Nat),c0 = .bool b ∧ c1 = .slice A ds.length c ∧ Row W A (u32s ds) ∧ small 4294967296 ds ∧ ds.length < 9223372036854775808 ∧ IntData y.1 b ds.length:=by
 obtain ⟨y0,y1,m,e,_,h0,h1⟩:=trod_struct2 Tryz.underlying24 h
 have k0 : Tryz.prog.cellsOf 4 = 1:=by kernel_rfl
 have k1 : Tryz.prog.cellsOf 22 = 1:=by kernel_rfl
 have h0' : DataW.trod enc Tryz.prog W 0 (fun _=>true) true m 4 [c0] = some y0:=by simpa [k0] using h0
 have h1' : DataW.trod enc Tryz.prog W 0 (fun _=>true) true m 22 [c1] = some y1:=by simpa [k1] using h1
 have hb : ∃ b,c0 = .bool b ∧ y0.1 = .lit (.bool b):=by
   obtain ⟨b,hc,hx⟩:=DataW.trod_bool Tryz.underlying4 h0'; injection hc with hc; exact ⟨b,hc,by rw [hx]⟩
 obtain ⟨b,rfl,e0⟩:=hb
 have ey : y.1 = .agg [y0.1,y1.1]:=by rw [e]
 rw [ey,e0]
 rcases open_ints Tryz.underlying22 Tryz.underlying88 (by kernel_rfl) h1' with ⟨hcs,hx⟩ | ⟨a,len,cap,zs,hcs,_,hl,hm,hz,hx,hcell,hw⟩
 · injection hcs with hcs; subst hcs; exact ⟨b,none,0,[],rfl,rfl,Row.nil _ _,ak _,(show 0 < 9223372036854775808 by omega),.inl ⟨by rw [hx],rfl⟩⟩
 · injection hcs with hcs; subst hcs; simp only [if_true] at hz; have hmx : maxLen < 9223372036854775808:=by unfold maxLen; omega
   have hll:=lim_length (zs:=zs) (n:=len) (by omega); refine ⟨b,some a,cap,lim zs len,rfl,by rw [hll],lim_row hl hz hw (fun h=>by cases h) (fun a' ha i hi=>?_),lim_small hw,by rw [hll]; omega,.inr ⟨_,_,by rw [hx],?_⟩⟩
   · injection ha with ha; subst ha; exact hcell i (by omega)
   · rw [hll]; simp [lits]; omega
def IntsData {H : Type} (d : DataW H) (L : List (Bool × List Nat)) : Prop:=∀ (i : Nat) (q : Bool × List Nat),L[i]? = some q → ∃ els rest e,d = .slice els rest ∧ els[i]? = some e ∧ IntData e q.1 q.2.length
theorem weights_all {H : Type} {P : Program} {t : TypeId} : ∀ {els : List (DataW H)} {i : Nat} {e : DataW H}, els[i]? = some e → ∀ n ∈ e.weights P t, n ∈ DataW.weightsAll P t els
 | d :: r,0,e,h,n,hn=>by
   simp only [List.getElem?_cons_zero,Option.some.injEq] at h; subst h; simp only [DataW.weightsAll,List.mem_append]; exact .inl hn
 | d :: r,i + 1,e,h,n,hn=>by
   simp only [List.getElem?_cons_succ] at h; simp only [DataW.weightsAll,List.mem_append]; exact .inr (weights_all h n hn)
theorem ints_short {H : Type} {ts : List TypeId} {ds : List (DataW H)} (hsz : (DataW.weightsEach Tryz.prog ts ds).all (· ≤ reachBytes) = true) {j : Nat} {d : DataW H} {L : List (Bool × List Nat)} (ht : ts[j]? = some 53) (hd : ds[j]? = some d) (h : IntsData d L) : ∀ q ∈ L,q.2.length ≤ 35184372087808:=by
 intro q hq
 obtain ⟨i,hi⟩:=List.getElem?_of_mem hq
 obtain ⟨els,rest,e,rfl,he,hI⟩:=h i q hi
 rcases hI with ⟨_,h0⟩ | ⟨es,rs,rfl,hl⟩
 · omega
 · have hu:=Tryz.underlying24; have hu2:=Tryz.underlying22; have hu3:=Tryz.underlying53; have hb : Tryz.prog.bytesOf 88 = 4:=by kernel_rfl
   have hm : (es.length + rs.length) * 4 ∈ (DataW.agg [.lit (.bool q.1),.slice es rs] : DataW H).weights Tryz.prog 24:=by
     unfold DataW.weights; rw [hu]; simp [DataW.weightsEach,DataW.weights,hu2,hb]
   have hm2 : (es.length + rs.length) * 4 ∈ (DataW.slice els rest : DataW H).weights Tryz.prog 53:=by
     unfold DataW.weights; rw [hu3]; exact List.mem_cons_of_mem _ (List.mem_append.2 (.inl (weights_all he _ hm)))
   have:=List.all_eq_true.1 hsz _ (DataW.weights_mem_each ht hd _ hm2); have h2:=of_decide_eq_true this; have h3 : reachBytes = 140737488351232:=rfl; omega
theorem open_apiInts2 {H : Type} {enc : TypeId × Value → H} {W : World} {base : Nat} {v : Value} {d : DataW H} {ps : List MemPlace} (hv : Value.okWide Tryz.prog W .any base 53 v) (h : DataW.Trod enc Tryz.prog W 0 (fun _=>true) true 53 v d ps) :
   ∃ (A : Option Addr) (c : Nat) (L : List (Bool × List Nat)),v = .slice A L.length c ∧ RawZs W A L ∧ L.length < 9223372036854775808 ∧ IntsData d L:=by
 obtain ⟨a0,len0,cap0,rfl⟩:=okWide_slice Tryz.underlying53 hv
 obtain ⟨fuel,hf⟩:=h
 rcases Go.Deep.open_slice Tryz.underlying53 hf with ⟨hcs,_⟩ | ⟨a,len,cap,m,n,D,Pl,hcs,_,hl,hm,hmm,hxd,hx⟩
 · simp [Value.cells] at hcs; obtain ⟨rfl,rfl,rfl⟩:=hcs; exact ⟨none,0,[],rfl,fun j q h=>by simp at h,(show 0 < 9223372036854775808 by omega),fun j q h=>by simp at h⟩
 · simp [Value.cells] at hcs; obtain ⟨rfl,rfl,rfl⟩:=hcs; have k : Tryz.prog.cellsOf 24 = 2:=by kernel_rfl
   have hmx : maxLen < 9223372036854775808:=by unfold maxLen; omega
   simp only [if_true] at hmm; have hd : d = .slice ((List.range len0).map D) ((List.range (m - len0)).map fun j=>D (len0 + j)):=congrArg Prod.fst hxd
   obtain ⟨L,hL,hp⟩:=list_of (p:=fun i q=>AtN W (a.add (i * 2)) q ∧ IntData (D i) q.1 q.2.length) len0 fun i hi=>by
     obtain ⟨cs',h1,h2⟩:=hx i (by omega); rw [k] at h1; obtain ⟨_,hlen,hc⟩:=World.cells?_some h1
     match cs',hlen,h2,hc with
     | [c0,c1],_,h2,hc =>
       have g0:=hc 0 (by decide); have g1:=hc 1 (by decide); rw [add_none] at g0; obtain ⟨b,A,c,ds,rfl,rfl,r,s,_,hI⟩:=int_inner2 h2; exact ⟨(b,ds),⟨A,c,g0,g1,r,s⟩,hI⟩
   subst hL; refine ⟨some a,cap0,L,rfl,fun j q hj=>⟨a,rfl,(hp j q hj).1⟩,by omega,fun j q hj=>⟨_,_,D j,hd,?_,(hp j q hj).2⟩⟩; have hjl : j < L.length:=(List.getElem?_eq_some_iff.1 hj).1; rw [List.getElem?_map,List.getElem?_range hjl]; rfl
end Go.Proofs.YtifgcjpgelbelaaGreatDoor
set_option linter.unusedVariables false
set_option linter.unusedSimpArgs false
namespace Go.Proofs.YtifgcjpgelbelaaGreatDoor
open Go.RowKit
theorem info_apiInt : (Tryz.prog.info? 24).map (fun i=>(i.zero,i.size,i.bytes)) = some (some (.agg #[.bool false,.slice none 0 0]),2,32):=by kernel_rfl
def Own2 (W : World) (B : Nat) (v : Value) (n : Nat) (E : List Value) : Prop:=W.ownsRow B 24 2 v n E
theorem Own2.below {W W' : World} {B n : Nat} {v : Value} {E : List Value} (h : Own2 W B v n E) (hb : Below W.heap.size W W') : Own2 W' B v n E :=
 World.ownsRow.kept h (row:=none) ⟨hb.os,hb.tape,hb.output,hb.size,fun j hj _=>hb.block j hj⟩ (by cases hv : v.ownBlock <;> simp)
theorem own32_grown2 {W W' : World} {B B' n : Nat} {v lv : Value} {ds : List Nat} {E : List Value} (h : Own W B 88 v (u32s ds)) (hl : Own2 W B' lv n E) (hg : W.grownBy W' lv.ownBlock) : Own W' B 88 v (u32s ds):=by
 have hh : W.ownsRow B 88 1 v (u32s ds).length (u32s ds):=h
 have hll : W.ownsRow B' 24 2 lv n E:=hl
 refine World.ownsRow.kept hh hg ?_
 rcases hh.2 with ⟨rfl,_⟩ | ⟨g,cap,cur,rfl,_,hq,_⟩
 · exact .inl rfl
 · refine .inr fun e=>?_; rcases hll.2 with ⟨rfl,_⟩ | ⟨g2,cap2,cur2,rfl,_,hq2,_⟩
   · simp [Value.ownBlock] at e
   · have e2 : g = g2:=by simpa [Value.ownBlock] using e
     subst e2; rw [hq] at hq2; injection hq2 with hq2; injection hq2 with _ ht; exact absurd ht (by decide)
def Ln (W : World) (B : Nat) (v : Value) (b : Bool) (xs : List Nat) : Prop:=∃ g c,v = .agg #[.bool b,.slice (some ⟨g,0,none⟩) xs.length c] ∧ LO W B g c xs ∧ xs.length + 12 ≤ c
theorem Ln.ln {W : World} {B : Nat} {v : Value} {b : Bool} {xs : List Nat} (h : Ln W B v b xs) : LN W v b xs:=by
 obtain ⟨g,c,h1,h2,h3⟩:=h
 exact ⟨g,c,h1,Own.row32 h2,h3⟩
theorem Ln.below {W W' : World} {B : Nat} {v : Value} {b : Bool} {xs : List Nat} (h : Ln W B v b xs) (hb : Below W.heap.size W W') : Ln W' B v b xs:=by
 obtain ⟨g,c,h1,h2,h3⟩:=h
 exact ⟨g,c,h1,Own.below h2 hb,h3⟩
theorem Ln.mono {W : World} {B B' : Nat} {v : Value} {b : Bool} {xs : List Nat} (h : Ln W B v b xs) (hB : B' ≤ B) : Ln W B' v b xs:=by
 obtain ⟨g,c,h1,h2,h3⟩:=h
 exact ⟨g,c,h1,Own.mono h2 hB,h3⟩
theorem Ln.grown {W W' : World} {B B' n : Nat} {v lv : Value} {b : Bool} {xs : List Nat} {E : List Value} (h : Ln W B v b xs) (hl : Own2 W B' lv n E) (hg : W.grownBy W' lv.ownBlock) : Ln W' B v b xs:=by
 obtain ⟨g,c,h1,h2,h3⟩:=h
 exact ⟨g,c,h1,own32_grown2 h2 hl hg,h3⟩
theorem MarkZ.below {W W' : World} {B d : Nat} {v : Value} (h : MarkZ W B v d) (hb : Below W.heap.size W W') : MarkZ W' B v d:=by
 obtain ⟨g,h1,h2⟩:=h
 exact ⟨g,h1,Own.below h2 hb⟩
theorem MarkZ.grown {W W' : World} {B B' n d : Nat} {v lv : Value} {E : List Value} (h : MarkZ W B v d) (hl : Own2 W B' lv n E) (hg : W.grownBy W' lv.ownBlock) : MarkZ W' B v d:=by
 obtain ⟨g,h1,h2⟩:=h
 exact ⟨g,h1,own32_grown2 (ds:=[d]) h2 hl hg⟩
def At2 (E : List Value) (k : Nat) (v : Value) : Prop:=∃ a b,v = .agg #[a,b] ∧ E[k * 2]? = some a ∧ E[k * 2 + 1]? = some b
theorem At2.app {E : List Value} {k : Nat} {v : Value} (h : At2 E k v) (N : List Value) : At2 (E ++ N) k v:=by
 have lt : ∀ {i : Nat} {u : Value},E[i]? = some u → (E ++ N)[i]? = some u:=fun {i u} h=>by
   have : i < E.length:=(List.getElem?_eq_some_iff.1 h).1; rw [List.getElem?_append_left this]; exact h
 obtain ⟨a,b,e,h1,h2⟩:=h
 exact ⟨a,b,e,lt h1,lt h2⟩
theorem At2.new {E : List Value} {k : Nat} (a b : Value) (h : E.length = k * 2) : At2 (E ++ [a,b]) k (.agg #[a,b]):=by
 refine ⟨a,b,rfl,?_,?_⟩ <;> rw [List.getElem?_append_right (by omega)]
 · rw [show k * 2 - E.length = 0 by omega]; rfl
 · rw [show k * 2 + 1 - E.length = 1 by omega]; rfl
def LentZ (W : World) (B : Nat) (L : List (Bool × List Nat)) (E : List Value) : Prop:=∀ j q,L[j]? = some q → ∃ v,At2 E j v ∧ Ln W B v q.1 q.2
def MarkZs (W : World) (B n k : Nat) (E : List Value) : Prop:=∀ j,j < k → ∃ v,At2 E (n + j) v ∧ MarkZ W B v (8000024 + j)
theorem LentZ.below {W W' : World} {B : Nat} {L : List (Bool × List Nat)} {E : List Value} (h : LentZ W B L E) (hb : Below W.heap.size W W') : LentZ W' B L E:=fun j q hj=>by
 obtain ⟨v,h1,h2⟩:=h j q hj
 exact ⟨v,h1,h2.below hb⟩
theorem LentZ.grown {W W' : World} {B B' n : Nat} {lv : Value} {L : List (Bool × List Nat)} {E E' : List Value} (h : LentZ W B L E) (hl : Own2 W B' lv n E') (hg : W.grownBy W' lv.ownBlock) : LentZ W' B L E:=fun j q hj=>by
 obtain ⟨v,h1,h2⟩:=h j q hj
 exact ⟨v,h1,h2.grown hl hg⟩
theorem LentZ.app {W : World} {B : Nat} {L : List (Bool × List Nat)} {E : List Value} (h : LentZ W B L E) (N : List Value) : LentZ W B L (E ++ N):=fun j q hj=>by
 obtain ⟨v,h1,h2⟩:=h j q hj
 exact ⟨v,h1.app N,h2⟩
theorem MarkZs.below {W W' : World} {B n k : Nat} {E : List Value} (h : MarkZs W B n k E) (hb : Below W.heap.size W W') : MarkZs W' B n k E:=fun j hj=>by
 obtain ⟨v,h1,h2⟩:=h j hj
 exact ⟨v,h1,h2.below hb⟩
theorem MarkZs.grown {W W' : World} {B B' n k m : Nat} {lv : Value} {E E' : List Value} (h : MarkZs W B n k E) (hl : Own2 W B' lv m E') (hg : W.grownBy W' lv.ownBlock) : MarkZs W' B n k E:=fun j hj=>by
 obtain ⟨v,h1,h2⟩:=h j hj
 exact ⟨v,h1,h2.grown hl hg⟩
theorem MarkZs.app {W : World} {B n k : Nat} {E : List Value} (h : MarkZs W B n k E) (N : List Value) : MarkZs W B n k (E ++ N):=fun j hj=>by
 obtain ⟨v,h1,h2⟩:=h j hj
 exact ⟨v,h1.app N,h2⟩
theorem two_news {w : World} {a b : Value} {T : TypeId} {g : Nat} (hg : g = w.heap.size) : ∀ j z,[a,b][j]? = some z → (w.alloc (.cells #[a,b] T)).cell? ((⟨g,0,none⟩ : Addr).add j) = some z:=by
 subst hg
 intro j z hj
 match j,hj with
 | 0,hj=>simp at hj; subst hj; simp [Addr.add]
 | 1,hj=>simp at hj; subst hj; simp [Addr.add]
theorem two_one {b1 : Bool} {A1 : Option Addr} {l1 c1 : Nat} : ∀ u ∈ [Value.bool b1,.slice A1 l1 c1],u.oneCell' = true:=by
 intro u hu
 simp at hu
 rcases hu with rfl | rfl <;> rfl
theorem Own2.alloc {W : World} {B n : Nat} {v : Value} {E : List Value} (h : Own2 W B v n E) (o : Obj) : Own2 (W.alloc o) B v n E:=h.below ((Below.refl _ _).alloc (Nat.le_refl _) o)
theorem Own2.len {W : World} {B n : Nat} {v : Value} {E : List Value} (h : Own2 W B v n E) : E.length = n * 2:=h.1
theorem below_ap2 {w wr w2 : World} {B n : Nat} {v : Value} {E : List Value} {o1 o2 : Obj} (hb : Below w.heap.size w wr) (ho : Own2 wr B v n E) (hB : Hid (B = w.heap.size)) (hg : ((wr.alloc o1).alloc o2).grownBy w2 v.ownBlock) : Below w.heap.size w w2 :=
 (bal (bal hb o1) o2).grown hg (bal (bal hb o1) o2).size (fun k hk=>by
   have hh : wr.ownsRow B 24 2 v n E:=ho; have:=(hh.lt k hk).1
   rw [hB.out] at this; exact this)
theorem below_ap1 {w wr w2 : World} {B n : Nat} {v : Value} {E : List Value} {o1 : Obj} (hb : Below w.heap.size w wr) (ho : Own2 wr B v n E) (hB : Hid (B = w.heap.size)) (hg : (wr.alloc o1).grownBy w2 v.ownBlock) : Below w.heap.size w w2 :=
 (bal hb o1).grown hg (bal hb o1).size (fun k hk=>by
   have hh : wr.ownsRow B 24 2 v n E:=ho; have:=(hh.lt k hk).1
   rw [hB.out] at this; exact this)
theorem Own2.slice {W : World} {B n : Nat} {v : Value} {E : List Value} (h : Own2 W B v n E) (hn : 0 < n) : ∃ g cap,v = .slice (some ⟨g,0,none⟩) n cap ∧ n ≤ cap:=by
 rcases h.2 with ⟨_,h0⟩ | ⟨g,cap,cur,e,_,_,hle,_⟩
 · omega
 · exact ⟨g,cap,e,hle⟩
theorem LentZ.snoc {W : World} {B k : Nat} {L : List (Bool × List Nat)} {E : List Value} {q : Bool × List Nat} (h : LentZ W B (L.take k) E) (hat : L[k]? = some q) {v : Value} (h4 : At2 E k v) (ho : Ln W B v q.1 q.2) : LentZ W B (L.take (k + 1)) E:=fun j p hj=>by
 by_cases hk : j < k
 · refine h j p ?_; rw [List.getElem?_take] at hj ⊢; rw [if_pos (by omega)] at hj; rw [if_pos hk]; exact hj
 · rw [List.getElem?_take] at hj; split at hj
   · obtain rfl : j = k:=by omega
     rw [hat] at hj; obtain rfl:=Option.some.inj hj; exact ⟨v,h4,ho⟩
   · cases hj
theorem MarkZs.snoc {W : World} {B n k : Nat} {E : List Value} (h : MarkZs W B n k E) {v : Value} (h4 : At2 E (n + k) v) (ho : MarkZ W B v (8000024 + k)) : MarkZs W B n (k + 1) E:=fun j hj=>by
 by_cases hk : j < k
 · exact h j hk
 · obtain rfl : j = k:=by omega
   exact ⟨v,h4,ho⟩
theorem lentNums_any {w : World} {A : Option Addr} {c : Nat} {L : List (Bool × List Nat)} (h : RawZs w A L) (hn : L.length ≤ 20) (hl : ∀ q ∈ L,q.2.length ≤ 1000) :
   Calls Tryz.prog 45 #[.slice A L.length c] w fun e w'=>∃ g cap E,e = .returned (.slice (some ⟨g,0,none⟩) L.length cap) ∧ Own2 w' w.heap.size (.slice (some ⟨g,0,none⟩) (L.length + 12) cap) (L.length + 12) E ∧ LentZ w' w.heap.size L E ∧ MarkZs w' w.heap.size L.length 12 E ∧ Below w.heap.size w w':=by
 obtain ⟨i0,hi,hz0,hz1,hz2⟩:=info_parts info_apiInt
 obtain ⟨B,hB⟩ : ∃ B,B = w.heap.size:=⟨_,rfl⟩
 have HB:=Lib.hid hB
 obtain ⟨n,hnn⟩ : ∃ n,n = L.length:=⟨_,rfl⟩
 have hn1 : n ≤ 20:=by omega
 rw [← hnn]
 have HN:=Lib.hid hnn
 have HL:=Lib.hid h
 have HS:=Lib.hid hl
 clear hB hn hnn h hl
 go_enter Tryz.func45,Tryz.ntmps45
 go_wp2_with (at_make; refine wpList_make_own _ rfl _ _ 53 rfl B 24 i0 _ 2 Tryz.underlying53 hi hz0 hz1 .i64 .i64 ((n : Int) + 12) (n + 12) rfl rfl (by omega) ?b2 ?b3 ?b4 ?_)
 case b2=>first | omega | (rw [hz2]; omega)
 case b3=>unfold maxLen; omega
 case b4=>rw [HB.out]; exact Nat.le_refl _
 intro w1 hown hgrow
 have hb1 : Below w.heap.size w w1:=(Below.refl _ _).grown hgrow (Nat.le_refl _) (fun k h=>by cases h)
 have ho1 : Own2 w1 B (.slice (some ⟨w.heap.size,0,none⟩) 0 (n + 12)) 0 []:=hown
 clear hown hgrow
 go_wp2_with fail
 go_loopw [3,4] (fun ov iv wr=>∃ (k : Nat) (E : List Value),k ≤ n ∧ iv = .int .i64 (k : Int) ∧ Own2 wr B ov k E ∧ Hid (LentZ wr B (L.take k) E) ∧ Below w.heap.size w wr) (fun _ iv _=>n - (intOf iv).toNat)
 case atStart=>exact ⟨0,[],Nat.zero_le _,rfl,ho1,fun j q hj=>by simp at hj,hb1⟩
 case round =>
   obtain ⟨k,E,hk,rfl,hout,HA,hb⟩:=hrel
   by_cases hlt : k < n
   · have hlt' : (k : Int) < (n : Int):=by omega
     have hkL : k < L.length:=by rw [← HN.out]; exact hlt
     obtain ⟨⟨b1,xs⟩,hpq⟩ : ∃ m,m = L[k]:=⟨_,rfl⟩
     have hat : L[k]? = some (b1,xs):=by rw [List.getElem?_eq_getElem hkL,hpq]
     obtain ⟨ad,rfl,h1⟩:=(HL.out.below hb) k _ hat; obtain ⟨A1,c1,m1,m2,r1,s1⟩:=h1; have m1 : wr.cell? (ad.add (k * 2)) = some (.bool b1):=m1; have m2 : wr.cell? { block:=(ad.add (k * 2)).block,off:=(ad.add (k * 2)).off + 1 } = some (.slice A1 xs.length c1):=m2; have hsz:=HS.out _ (List.mem_of_getElem? hat); have hlr:=fun (W : World) (hW : Below wr.heap.size wr W)=>lentInt_own (c:=c1) (b:=b1) (Row.below r1 hW) (Nat.le_trans hsz (by decide)); have HR:=Lib.hid hlr; have HT:=Lib.hid hat; clear hat hpq hkL hsz hlr r1 s1
     go_wp2_with fail
     refine (HR.out _ (Below.refl _ _)).mono ?_; rintro e w2 ⟨g1,d1,rfl,q1,q2,hb2⟩; have hout2:=hout.below hb2; have hb3 : Below w.heap.size w w2:=hb.trans (hb2.mono hb.size); have HA2:=Lib.hid (HA.out.below hb2); have hB2 : B ≤ wr.heap.size:=by rw [HB.out]; exact hb.size
     have HO:=Lib.hid (show Ln w2 B (.agg #[.bool b1,.slice (some ⟨g1,0,none⟩) xs.length d1]) b1 xs from Ln.mono ⟨g1,d1,rfl,q1,q2⟩ hB2); have hsz2 : B ≤ w2.heap.size:=Nat.le_trans hB2 hb2.size; clear q1 q2 HR m1 m2 hout hb hb2 hB2
     go_wp2_with (at_builtin; refine wpList_append_own _ rfl _ _ 53 rfl B 24 i0 _ 2 32 Tryz.underlying53 hi hz0 hz1 hz2 rfl (by decide) _ _ _ rfl ((hout2.alloc _).alloc _) ⟨w2.heap.size + 1,0,none⟩ 1 1 [.bool b1,.slice (some ⟨g1,0,none⟩) xs.length d1] rfl rfl ?c1 ?c2 ?c3 ?c4 ?c5 ?_)
     case c1=>exact two_news (by simp)
     case c2=>exact two_one
     case c3=>unfold maxLen; omega
     case c4=>omega
     case c5=>simp; omega
     intro v' w3 hown' hgrow' _; have ho3 : Own2 w3 B v' (k + 1) (E ++ [.bool b1,.slice (some ⟨g1,0,none⟩) xs.length d1]):=hown'; have hb4:=below_ap2 hb3 hout2 HB hgrow'; have hal:=bal (bal (Below.refl w2.heap.size w2) (Obj.cells #[Value.bool b1,Value.slice (some ⟨g1,0,none⟩) xs.length d1] 24)) (Obj.cells #[Value.bool b1,Value.slice (some ⟨g1,0,none⟩) xs.length d1] 24); have ha3:=((HA2.out.below hal).grown (hout2.below hal) hgrow').app [.bool b1,.slice (some ⟨g1,0,none⟩) xs.length d1]; have ha4:=ha3.snoc HT.out (At2.new _ _ hout2.len) ((HO.out.below hal).grown (hout2.below hal) hgrow'); have HA4:=Lib.hid ha4; clear hown' hgrow' hal ha3 ha4 hout2 HA2 HO hb3 hsz2
     go_wp2
     go_roundw
     case rel=>exact ⟨k + 1,_,by omega,by go_num,ho3,HA4.out,hb4⟩
     case measure=>simp [intOf]; omega
   · obtain rfl : k = n:=by omega
     have hlt' : ¬ (k : Int) < (k : Int):=by omega
     have HA2:=Lib.hid (show LentZ wr B L E from by have:=HA.out; rwa [HN.out,List.take_length] at this); clear HA ho1 hb1
     go_wp2_with fail
     go_loopw [3,6] (fun ov iv wx=>∃ (m : Nat) (E : List Value),m ≤ 12 ∧ iv = .int .i64 (m : Int) ∧ Own2 wx B ov (k + m) E ∧ Hid (LentZ wx B L E ∧ MarkZs wx B k m E) ∧ Below w.heap.size w wx) (fun _ iv _=>12 - (intOf iv).toNat)
     case atStart=>exact ⟨0,E,Nat.zero_le _,rfl,hout,⟨HA2.out,fun j hj=>by omega⟩,hb⟩
     case round =>
       clear hout HA2 hb; obtain ⟨m,E,hm,rfl,hout,HA,hb⟩:=hrel
       by_cases hlt : m < 12
       · have hlt' : (m : Int) < 12:=by omega
         have hmk:=fun (W : World)=>markInt_any (w:=W) m (by omega); have HMK:=Lib.hid hmk; clear hmk
         go_wp2_with fail
         refine (HMK.out _).mono ?_; rintro e w2 ⟨u,rfl,⟨g,rfl,ho⟩,hb2⟩; have hout2:=hout.below hb2; have hb3 : Below w.heap.size w w2:=hb.trans (hb2.mono hb.size); have hB2 : B ≤ wr.heap.size:=by rw [HB.out]; exact hb.size
         have HA2:=Lib.hid (show LentZ w2 B L E ∧ MarkZs w2 B k m E from ⟨HA.out.1.below hb2,HA.out.2.below hb2⟩); have HO:=Lib.hid (show MarkZ w2 B (.agg #[.bool false,.slice (some ⟨g,0,none⟩) 1 1]) (8000024 + m) from ⟨g,rfl,Own.mono ho hB2⟩); have hsz2 : B ≤ w2.heap.size:=Nat.le_trans hB2 hb2.size; clear HMK ho hout hb hb2 hB2 HA
         go_wp2_with (at_builtin; refine wpList_append_own _ rfl _ _ 53 rfl B 24 i0 _ 2 32 Tryz.underlying53 hi hz0 hz1 hz2 rfl (by decide) _ _ _ rfl (hout2.alloc _) ⟨w2.heap.size,0,none⟩ 1 1 [.bool false,.slice (some ⟨g,0,none⟩) 1 1] rfl rfl ?c1 ?c2 ?c3 ?c4 ?c5 ?_)
         case c1=>exact two_news rfl
         case c2=>exact two_one
         case c3=>unfold maxLen; omega
         case c4=>omega
         case c5=>simp; omega
         intro v' w3 hown' hgrow' _; have ho3 : Own2 w3 B v' (k + (m + 1)) (E ++ [.bool false,.slice (some ⟨g,0,none⟩) 1 1]):=hown'; have hb4:=below_ap1 hb3 hout2 HB hgrow'; have hal:=bal (Below.refl w2.heap.size w2) (Obj.cells #[Value.bool false,Value.slice (some ⟨g,0,none⟩) 1 1] 24); have ha3:=((HA2.out.1.below hal).grown (hout2.below hal) hgrow').app [.bool false,.slice (some ⟨g,0,none⟩) 1 1]; have ha4:=(((HA2.out.2.below hal).grown (hout2.below hal) hgrow').app [.bool false,.slice (some ⟨g,0,none⟩) 1 1]).snoc (At2.new _ _ hout2.len) ((HO.out.below hal).grown (hout2.below hal) hgrow'); have HA4:=Lib.hid (And.intro ha3 ha4); clear hown' hgrow' hal ha3 ha4 hout2 HA2 HO hb3 hsz2
         go_wp2
         go_roundw
         case rel=>exact ⟨m + 1,_,by omega,by go_num,ho3,HA4.out,hb4⟩
         case measure=>simp [intOf]; omega
       · obtain rfl : m = 12:=by omega
         obtain ⟨g,cap,rfl,hcap⟩:=hout.slice (by omega); have HO:=Lib.hid hout; have hkc : k ≤ cap:=by omega
         clear hout
         go_wp2
         go_ret
         exact ⟨g,cap,E,rfl,HB.out ▸ HO.out,HB.out ▸ HA.out.1,HB.out ▸ HA.out.2,hb⟩
def LensA (W : World) (A : Option Addr) (l : List (Nat × Nat)) : Prop:=∀ j q,l[j]? = some q → ∃ ad,A = some ad ∧ (∃ B c,W.cell? ((ad.add (j * 4)).add 1) = some (.slice B q.1 c)) ∧ ∃ B c,W.cell? (((ad.add (j * 4)).add 2).add 1) = some (.slice B q.2 c)
def lensOf (L : List ((Bool × List Nat) × Bool × List Nat)) : List (Nat × Nat):=L.map fun q=>(q.1.2.length,q.2.2.length)
theorem RawQs.lens {W : World} {A : Option Addr} {L : List ((Bool × List Nat) × Bool × List Nat)} (h : RawQs W A L) : LensA W A (lensOf L):=fun j q hj=>by
 unfold lensOf at hj
 rw [List.getElem?_map] at hj
 cases hL : L[j]? with
 | none=>rw [hL] at hj; cases hj
 | some x =>
   rw [hL] at hj; obtain rfl:=Option.some.inj hj; obtain ⟨ad,e,⟨A1,c1,_,h1,_,_⟩,A2,c2,_,h2,_,_⟩:=h j x hL; exact ⟨ad,e,⟨A1,c1,h1⟩,A2,c2,h2⟩
end Go.Proofs.YtifgcjpgelbelaaGreatDoor
set_option linter.unusedVariables false
set_option linter.unusedSimpArgs false
namespace Go.Proofs.YtifgcjpgelbelaaGreatDoor
open Go.RowKit
def Own4 (W : World) (B : Nat) (v : Value) (n : Nat) (E : List Value) : Prop:=W.ownsRow B 26 4 v n E
theorem Own4.below {W W' : World} {B n : Nat} {v : Value} {E : List Value} (h : Own4 W B v n E) (hb : Below W.heap.size W W') : Own4 W' B v n E :=
 World.ownsRow.kept h (row:=none) ⟨hb.os,hb.tape,hb.output,hb.size,fun j hj _=>hb.block j hj⟩ (by cases hv : v.ownBlock <;> simp)
theorem fa {W W' : World} {B B' n : Nat} {v lv : Value} {ds : List Nat} {E : List Value} (h : Own W B 88 v (u32s ds)) (hl : Own4 W B' lv n E) (hg : W.grownBy W' lv.ownBlock) : Own W' B 88 v (u32s ds):=by
 have hh : W.ownsRow B 88 1 v (u32s ds).length (u32s ds):=h
 have hll : W.ownsRow B' 26 4 lv n E:=hl
 refine World.ownsRow.kept hh hg ?_
 rcases hh.2 with ⟨rfl,_⟩ | ⟨g,cap,cur,rfl,_,hq,_⟩
 · exact .inl rfl
 · refine .inr fun e=>?_; rcases hll.2 with ⟨rfl,_⟩ | ⟨g2,cap2,cur2,rfl,_,hq2,_⟩
   · simp [Value.ownBlock] at e
   · have e2 : g = g2:=by simpa [Value.ownBlock] using e
     subst e2; rw [hq] at hq2; injection hq2 with hq2; injection hq2 with _ ht; exact absurd ht (by decide)
theorem Lo.grown {W W' : World} {B B' n : Nat} {v lv : Value} {b b' : Bool} {xs ys : List Nat} {E : List Value} (h : Lo W B v b xs b' ys) (hl : Own4 W B' lv n E) (hg : W.grownBy W' lv.ownBlock) : Lo W' B v b xs b' ys:=by
 obtain ⟨g,c,g',c',h1,⟨h2,h3⟩,h4,h5⟩:=h
 exact ⟨g,c,g',c',h1,⟨fa h2 hl hg,h3⟩,fa h4 hl hg,h5⟩
theorem MarkQ.grown {W W' : World} {B B' n d : Nat} {v lv : Value} {E : List Value} (h : MarkQ W B v d) (hl : Own4 W B' lv n E) (hg : W.grownBy W' lv.ownBlock) : MarkQ W' B v d:=by
 obtain ⟨g,h1,h2⟩:=h
 exact ⟨g,h1,fa (ds:=[d]) h2 hl hg⟩
theorem MarkQ.below {W W' : World} {B d : Nat} {v : Value} (h : MarkQ W B v d) (hb : Below W.heap.size W W') : MarkQ W' B v d:=by
 obtain ⟨g,h1,h2⟩:=h
 exact ⟨g,h1,Own.below h2 hb⟩
def At4 (E : List Value) (k : Nat) (v : Value) : Prop:=∃ a b c d,v = .agg #[a,b,c,d] ∧ E[k * 4]? = some a ∧ E[k * 4 + 1]? = some b ∧ E[k * 4 + 2]? = some c ∧ E[k * 4 + 3]? = some d
theorem At4.app {E : List Value} {k : Nat} {v : Value} (h : At4 E k v) (N : List Value) : At4 (E ++ N) k v:=by
 have lt : ∀ {i : Nat} {u : Value},E[i]? = some u → (E ++ N)[i]? = some u:=fun {i u} h=>by
   have : i < E.length:=(List.getElem?_eq_some_iff.1 h).1; rw [List.getElem?_append_left this]; exact h
 obtain ⟨a,b,c,d,e,h1,h2,h3,h4⟩:=h
 exact ⟨a,b,c,d,e,lt h1,lt h2,lt h3,lt h4⟩
theorem At4.new {E : List Value} {k : Nat} (a b c d : Value) (h : E.length = k * 4) : At4 (E ++ [a,b,c,d]) k (.agg #[a,b,c,d]):=by
 refine ⟨a,b,c,d,rfl,?_,?_,?_,?_⟩ <;> rw [List.getElem?_append_right (by omega)]
 · rw [show k * 4 - E.length = 0 by omega]; rfl
 · rw [show k * 4 + 1 - E.length = 1 by omega]; rfl
 · rw [show k * 4 + 2 - E.length = 2 by omega]; rfl
 · rw [show k * 4 + 3 - E.length = 3 by omega]; rfl
def LentAll (W : World) (B : Nat) (L : List ((Bool × List Nat) × Bool × List Nat)) (E : List Value) : Prop:=∀ j q,L[j]? = some q → ∃ v,At4 E j v ∧ Lo W B v q.1.1 q.1.2 q.2.1 q.2.2
def MarkAll (W : World) (B n k : Nat) (E : List Value) : Prop:=∀ j,j < k → ∃ v,At4 E (n + j) v ∧ MarkQ W B v (8000024 + j)
theorem LentAll.below {W W' : World} {B : Nat} {L : List ((Bool × List Nat) × Bool × List Nat)} {E : List Value} (h : LentAll W B L E) (hb : Below W.heap.size W W') : LentAll W' B L E:=fun j q hj=>by
 obtain ⟨v,h1,h2⟩:=h j q hj
 exact ⟨v,h1,h2.below hb⟩
theorem LentAll.grown {W W' : World} {B B' n : Nat} {lv : Value} {L : List ((Bool × List Nat) × Bool × List Nat)} {E E' : List Value} (h : LentAll W B L E) (hl : Own4 W B' lv n E') (hg : W.grownBy W' lv.ownBlock) : LentAll W' B L E:=fun j q hj=>by
 obtain ⟨v,h1,h2⟩:=h j q hj
 exact ⟨v,h1,h2.grown hl hg⟩
theorem LentAll.app {W : World} {B : Nat} {L : List ((Bool × List Nat) × Bool × List Nat)} {E : List Value} (h : LentAll W B L E) (N : List Value) : LentAll W B L (E ++ N):=fun j q hj=>by
 obtain ⟨v,h1,h2⟩:=h j q hj
 exact ⟨v,h1.app N,h2⟩
theorem MarkAll.below {W W' : World} {B n k : Nat} {E : List Value} (h : MarkAll W B n k E) (hb : Below W.heap.size W W') : MarkAll W' B n k E:=fun j hj=>by
 obtain ⟨v,h1,h2⟩:=h j hj
 exact ⟨v,h1,h2.below hb⟩
theorem MarkAll.grown {W W' : World} {B B' n k m : Nat} {lv : Value} {E E' : List Value} (h : MarkAll W B n k E) (hl : Own4 W B' lv m E') (hg : W.grownBy W' lv.ownBlock) : MarkAll W' B n k E:=fun j hj=>by
 obtain ⟨v,h1,h2⟩:=h j hj
 exact ⟨v,h1,h2.grown hl hg⟩
theorem MarkAll.app {W : World} {B n k : Nat} {E : List Value} (h : MarkAll W B n k E) (N : List Value) : MarkAll W B n k (E ++ N):=fun j hj=>by
 obtain ⟨v,h1,h2⟩:=h j hj
 exact ⟨v,h1.app N,h2⟩
theorem Own4.alloc {W : World} {B n : Nat} {v : Value} {E : List Value} (h : Own4 W B v n E) (o : Obj) : Own4 (W.alloc o) B v n E:=h.below ((Below.refl _ _).alloc (Nat.le_refl _) o)
theorem Own4.len {W : World} {B n : Nat} {v : Value} {E : List Value} (h : Own4 W B v n E) : E.length = n * 4:=h.1
theorem Own4.slice {W : World} {B n : Nat} {v : Value} {E : List Value} (h : Own4 W B v n E) (hn : 0 < n) : ∃ g cap,v = .slice (some ⟨g,0,none⟩) n cap ∧ n ≤ cap:=by
 rcases h.2 with ⟨_,h0⟩ | ⟨g,cap,cur,e,_,_,hle,_⟩
 · omega
 · exact ⟨g,cap,e,hle⟩
theorem LentAll.snoc {W : World} {B k : Nat} {L : List ((Bool × List Nat) × Bool × List Nat)} {E : List Value} {q : (Bool × List Nat) × Bool × List Nat} (h : LentAll W B (L.take k) E) (hat : L[k]? = some q) {v : Value} (h4 : At4 E k v) (ho : Lo W B v q.1.1 q.1.2 q.2.1 q.2.2) : LentAll W B (L.take (k + 1)) E:=fun j p hj=>by
 by_cases hk : j < k
 · refine h j p ?_; rw [List.getElem?_take] at hj ⊢; rw [if_pos (by omega)] at hj; rw [if_pos hk]; exact hj
 · rw [List.getElem?_take] at hj; split at hj
   · obtain rfl : j = k:=by omega
     rw [hat] at hj; obtain rfl:=Option.some.inj hj; exact ⟨v,h4,ho⟩
   · cases hj
theorem MarkAll.snoc {W : World} {B n k : Nat} {E : List Value} (h : MarkAll W B n k E) {v : Value} (h4 : At4 E (n + k) v) (ho : MarkQ W B v (8000024 + k)) : MarkAll W B n (k + 1) E:=fun j hj=>by
 by_cases hk : j < k
 · exact h j hk
 · obtain rfl : j = k:=by omega
   exact ⟨v,h4,ho⟩
end Go.Proofs.YtifgcjpgelbelaaGreatDoor
set_option linter.unusedVariables false
set_option linter.unusedSimpArgs false
namespace Go.Proofs.YtifgcjpgelbelaaGreatDoor
open Go.RowKit
section
variable {b1 b1' b2 b2' : Bool} {xs1 ys1 xs2 ys2 : List Nat} {a b : Rat} {ra rb : Bool}
theorem BothTell.ho (h : BothTell b1 xs1 b1' ys1 a ra) (w : World) : Hid (∀ (W : World) (v : Value),Below w.heap.size w W → Qv W v b1 xs1 b1' ys1 → Calls Tryz.prog 62 #[v] W (TellsP W 9 a.num (a.den : Int))):=Lib.hid fun W v _ hv=>(h.2.2 W v hv).2.1
theorem BothTell.ht (h : BothTell b1 xs1 b1' ys1 a ra) (w : World) : Hid (∀ (W : World) (v : Value),Below w.heap.size w W → Qv W v b1 xs1 b1' ys1 → Calls Tryz.prog 67 #[v] W (TellsP W 9 a.num (a.den : Int))):=Lib.hid fun W v _ hv=>(h.2.2 W v hv).2.2.2
theorem BothTell.right (h : BothTell b1 xs1 b1' ys1 a ra) (W : World) (v : Value) (hv : Qv W v b1 xs1 b1' ys1) : Calls Tryz.prog 19 #[v] W (SaysB W ra) ∧ Calls Tryz.prog 20 #[v] W (SaysB W ra):=⟨(h.2.2 W v hv).1,(h.2.2 W v hv).2.2.1⟩
end
end Go.Proofs.YtifgcjpgelbelaaGreatDoor
set_option linter.unusedVariables false
set_option linter.unusedSimpArgs false
namespace Go.Proofs.YtifgcjpgelbelaaGreatDoor
open Go.RowKit
def ends11 : List Int:=[0,1,-1,2,-2,3,6,999999999,-1000000000,9223372036854775807,-9223372036854775808]
def e11 (i : Nat) : Int:=ends11.getD i 0
def AtE (W : World) (g : Nat) : Prop:=∀ i,i < 11 → W.cell? ⟨g,i,none⟩ = some (.int .i64 (e11 i))
theorem AtE.below {W W' : World} {g : Nat} (h : AtE W g) (hb : Below W.heap.size W W') : AtE W' g:=fun i hi=>(hb.cell (cell_lt (h i hi))).trans (h i hi)
theorem ex_bin {P : Program} {ρ : Operand → Value} {w : World} {d : Option Tmp} {T E E2 : TypeId} {pos : String} {af : Array Edge} {gu : Option (Nat × Bool)} {op : BinOp} {a b : Operand} {x y r : Value} (ha : ρ a = x) (hb : ρ b = y) (hg : (eqGuard op E a b x y).run P w = .ok () w) (h : (binOp op E x y).run P w = .ok r w) :
   (execOp ρ { dst:=d,op:=.binOp op E a b E2,type:=T,pos:=pos,after:=af,guard:=gu }).run P w = .ok (.value r) w:=by
 show (((do eqGuard op E a b (ρ a) (ρ b); binOp op E (ρ a) (ρ b)) : Sem Value) >>= fun v=>pure (Next.value v)).run P w = _
 rw [ha,hb]
 have e2 : ((do eqGuard op E a b x y; binOp op E x y) : Sem Value).run P w = .ok r w:=by
   rw [bq hg]; exact h
 rw [bq e2]; rfl
theorem ex_idx {P : Program} {ρ : Operand → Value} {w : World} {d : Option Tmp} {T E : TypeId} {pos : String} {af : Array Edge} {gu : Option (Nat × Bool)} {a b : Operand} {x y r : Value} (ha : ρ a = x) (hb : ρ b = y) (h : (Instr.indexAt E x y).run P w = .ok r w) :
   (execOp ρ { dst:=d,op:=.indexAddr E a b,type:=T,pos:=pos,after:=af,guard:=gu }).run P w = .ok (.value r) w:=by
 show Sem.run P (Instr.indexAt E (ρ a) (ρ b) >>= fun v=>pure (Next.value v)) w = _
 rw [ha,hb,bq h]; rfl
section
variable {W0 : World} {B S0 N i : Nat} {ks : List PK} {a0 : Act} {T : TypeId} {pos : String} {af : Array Edge} {gu : Option (Nat × Bool)}
end
end Go.Proofs.YtifgcjpgelbelaaGreatDoor
set_option linter.unusedVariables false
set_option linter.unusedSimpArgs false
namespace Go.Proofs.YtifgcjpgelbelaaGreatDoor
open Go.RowKit
theorem lss_run {k n : Nat} (h : k < n) : ∀ w,(binOp .lss 3 (.int .i64 (k : Int)) (.int .i64 (n : Int))).run Tryz.prog w = .ok (.bool true) w:=fun w=>by
 have h' : (k : Int) < (n : Int):=by omega
 go_simp
theorem geq_run {k n : Nat} (h : k < n) : ∀ w,(binOp .geq 3 (.int .i64 (k : Int)) (.int .i64 (n : Int))).run Tryz.prog w = .ok (.bool false) w:=fun w=>by
 have h' : ¬ (n : Int) ≤ (k : Int):=by omega
 go_simp
theorem lss_no {k n : Nat} (h : n ≤ k) : ∀ w,(binOp .lss 3 (.int .i64 (k : Int)) (.int .i64 (n : Int))).run Tryz.prog w = .ok (.bool false) w:=fun w=>by
 have h' : ¬ (k : Int) < (n : Int):=by omega
 go_simp
theorem geq_yes {k n : Nat} (h : n ≤ k) : ∀ w,(binOp .geq 3 (.int .i64 (k : Int)) (.int .i64 (n : Int))).run Tryz.prog w = .ok (.bool true) w:=fun w=>by
 have h' : (n : Int) ≤ (k : Int):=by omega
 go_simp
theorem sub_run {k n d : Nat} (h : k = n + d) (hk : k < 9223372036854775808) : ∀ w,(binOp .sub 3 (.int .i64 (k : Int)) (.int .i64 (n : Int))).run Tryz.prog w = .ok (.int .i64 (d : Int)) w:=fun w=>by
 have h' : (k : Int) - (n : Int) = (d : Int):=by omega
 have hd : d < 9223372036854775808:=by omega
 clear h
 go_simp
 rw [IntKind.wrap_i64] <;> omega
theorem told_kept {W0 w : World} {B S0 : Nat} {F : FuncId} {x : Nat → Value} {v1 v2 u1 u2 : Value} (H : Hid (∀ W,Below B W0 W → Calls Tryz.prog F #[u1,u2] W (SaysB W true))) (hb : Below B W0 w) (h1 : (kIs u1).sem S0 x v1 w) (h2 : (kIs u2).sem S0 x v2 w) : Calls Tryz.prog F #[v1,v2] w (Told (kIs (.bool true)) S0 x w):=by
 obtain rfl : v1 = u1:=h1
 obtain rfl : v2 = u2:=h2
 exact (H.out w hb).mono fun _ _ ⟨e,hb⟩=>⟨_,e,hb,rfl⟩
theorem Own4.cell {W : World} {B n g cap : Nat} {E : List Value} (h : Own4 W B (.slice (some ⟨g,0,none⟩) n cap) n E) {i : Nat} {u : Value} (hu : E[i]? = some u) : W.cell? ⟨g,i,none⟩ = some u:=by
 have hh : W.ownsRow B 26 4 (.slice (some ⟨g,0,none⟩) n cap) n E:=h
 have:=hh.cells (g:=g) rfl i u hu
 rwa [add_at] at this
end Go.Proofs.YtifgcjpgelbelaaGreatDoor
set_option linter.unusedVariables false
set_option linter.unusedSimpArgs false
namespace Go.Proofs.YtifgcjpgelbelaaGreatDoor
open Go.RowKit
theorem run_idxN {w : World} {ad : Addr} {k n c : Nat} (h : k < n) : (Instr.indexAt 53 (.slice (some ad) n c) (.int .i64 (k : Int))).run Tryz.prog w = .ok (.pointer (some (ad.add (k * 2)))) w:=by
 have h' : (k : Int) < (n : Int):=by omega
 go_simp
theorem run_loadNA {w : World} {p : Addr} {u v : Value} (h0 : w.cell? p = some u) (h1 : w.cell? { block:=p.block,off:=p.off + 1 } = some v) : (Instr.loadAt 24 (.pointer (some p))).run Tryz.prog w = .ok (.agg #[u,v]) w:=by go_simp
def CellsZ (W : World) (p : Addr) (u v : Value) : Prop:=W.cell? p = some u ∧ W.cell? { block:=p.block,off:=p.off + 1 } = some v
theorem Reg.cellAt {B : Nat} {W0 w : World} {G : List Nat} (h : Reg B W0 G w) {p : Addr} {u : Value} (hg : p.block ∉ G) (hc : W0.cell? p = some u) : w.cell? p = some u :=
 (World.cell?_of_block (w:=W0) (h.old p.block (World.block_lt_of_cell? W0 p hc) hg)).trans hc
theorem Reg.cellsZ {B : Nat} {W0 w : World} {G : List Nat} (h : Reg B W0 G w) {p : Addr} {u v : Value} (hg : p.block ∉ G) (hc : CellsZ W0 p u v) : CellsZ w p u v :=
 ⟨h.cellAt hg hc.1,h.cellAt hg hc.2⟩
section
variable {W0 : World} {B S0 N i : Nat} {ks : List PK} {a0 : Act} {T : TypeId} {pos : String} {af : Array Edge} {gu : Option (Nat × Bool)} {C : World → Prop}
theorem gi {d t1 j1 t2 j2 k n c : Nat} {ad : Addr} (hk : k < n) (hN : a0.tmps.size = N)     (h1 : at_ ks j1 = kIs (.slice (some ad) n c)) (h2 : at_ ks j2 = kIs (.int .i64 (k : Int))) (hi : at_ ks i = kIs (.pointer (some (ad.add (k * 2))))) (hd : decide (d < N) = true:=by kernel_rfl) (ht1 : decide (t1 < N) = true:=by kernel_rfl) (ht2 : decide (t2 < N) = true:=by kernel_rfl) (hne : decide (t1 = t2) = false:=by kernel_rfl) :
   PkStep Tryz.prog C S0 ks a0 i { dst:=some d,op:=.indexAddr 53 (.tmp t1) (.tmp t2),type:=T,pos:=pos,after:=af,guard:=gu } [(j1,some t1),(j2,some t2)]:=by
 intro w x hC
 refine bc _ fun hdeps K hK=>?_
 have g1:=hdeps (j1,some t1) (by simp)
 rw [h1] at g1
 have g2:=hdeps (j2,some t2) (by simp)
 rw [h2] at g2
 have n12:=of_decide_eq_false hne
 have e1 : (putE x a0 [(j1,some t1),(j2,some t2)]).eval (.tmp t1) = x j1:=ap _ _ (by rw [hN]; exact of_decide_eq_true ht1) (by simp [slotAt,Ne.symm n12])
 have e2 : (putE x a0 [(j1,some t1),(j2,some t2)]).eval (.tmp t2) = x j2:=ap _ _ (by rw [hN]; exact of_decide_eq_true ht2) (by simp [slotAt])
 refine da (v:=.pointer (some (ad.add (k * 2)))) (w':=w) rfl (by rw [aw,hN]) hd (ex_idx (e1.trans g1) (e2.trans g2) (run_idxN hk)) (hK _ _ ?_ ?_)
 · rw [hi]; exact Below.refl _ _
 · rw [hi]; rfl
theorem gj {d t j : Nat} {p : Addr} {u v : Value} (hl : CellsZ W0 p u v) (hN : a0.tmps.size = N)   (hj : at_ ks j = kIs (.pointer (some p))) (hi : at_ ks i = kIs (.agg #[u,v])) (hd : decide (d < N) = true:=by kernel_rfl) (ht : decide (t < N) = true:=by kernel_rfl) :
   PkStep Tryz.prog (Reg B W0 []) S0 ks a0 i { dst:=some d,op:=.load 24 (.tmp t),type:=T,pos:=pos,after:=af,guard:=gu } [(j,some t)]:=by
 intro w x hC
 refine bc _ fun hdeps K hK=>?_
 have h1:=hdeps (j,some t) (by simp)
 rw [hj] at h1
 have e1 : (putE x a0 [(j,some t)]).eval (.tmp t) = x j:=ap _ _ (by rw [hN]; exact of_decide_eq_true ht) (by simp [slotAt])
 obtain ⟨m1,m2⟩:=hC.cellsZ (by simp) hl
 refine da (w':=w) rfl (by rw [aw,hN]) hd (ex_load (e1.trans h1) (run_loadNA m1 m2)) (hK _ _ ?_ ?_)
 · rw [hi]; exact Below.refl _ _
 · rw [hi]; rfl
end
end Go.Proofs.YtifgcjpgelbelaaGreatDoor
set_option linter.unusedVariables false
set_option linter.unusedSimpArgs false
namespace Go.Proofs.YtifgcjpgelbelaaGreatDoor
open Go.RowKit
theorem Zc.stored {W w' : World} {g : Nat} {v : Value} {k : Nat} {z : Int} (h : Zc W v k z) (hs : Stored g W w') : Zc w' v k z:=by
 obtain ⟨b,A,c,xs,h1,h2,h3⟩:=h
 exact ⟨b,A,c,xs,h1,hs.row h2,h3⟩
theorem Reg.zc {B : Nat} {W0 w : World} {G : List Nat} (h : Reg B W0 G w) {v : Value} {k : Nat} {z : Int} (hz : Zc W0 v k z) : Zc w v k z:=by
 obtain ⟨b,A,c,xs,h1,h2,h3⟩:=hz
 exact ⟨b,A,c,xs,h1,h.row h2,h3⟩
def kC (k : Nat) (z : Int) : PK:=.p (fun v w=>Zc w v k z) (fun _ _ _ h hb=>h.below hb) (fun _ _ _ _ h hs=>h.stored hs)
def ZCs (S : Nat) (W : World) (A : Option Addr) (l : List (Nat × Int)) : Prop:=∀ j q,l[j]? = some q → ∃ ad,A = some ad ∧ ad.block < S ∧ ∃ u v,W.cell? (ad.add (j * 2)) = some u ∧ W.cell? ((ad.add (j * 2)).add 1) = some v ∧ Zc W (.agg #[u,v]) q.1 q.2
theorem ZCs.below {S : Nat} {W w' : World} {A : Option Addr} {l : List (Nat × Int)} (h : ZCs S W A l) (hb : Below W.heap.size W w') : ZCs S w' A l:=fun j q hj=>by
 obtain ⟨ad,e,hs,u,v,h1,h2,h3⟩:=h j q hj
 exact ⟨ad,e,hs,u,v,(hb.cell (cell_lt h1)).trans h1,(hb.cell (cell_lt h2)).trans h2,h3.below hb⟩
theorem Reg.zcsG {S B : Nat} {W0 w : World} {G : List Nat} (h : Reg B W0 G w) (hG : ∀ g ∈ G,S ≤ g) {A : Option Addr} {l : List (Nat × Int)} (hl : ZCs S W0 A l) : ZCs S w A l:=fun j q hj=>by
 obtain ⟨ad,e,hs,u,v,h1,h2,h3⟩:=hl j q hj
 have hn : ad.block ∉ G:=fun hg=>by have:=hG _ hg; omega
 exact ⟨ad,e,hs,u,v,h.cellAt (by rw [dw]; exact hn) h1,h.cellAt (by rw [dw,dw]; exact hn) h2,h.zc h3⟩
theorem Reg.zcs {S B : Nat} {W0 w : World} (h : Reg B W0 [] w) {A : Option Addr} {l : List (Nat × Int)} (hl : ZCs S W0 A l) : ZCs S w A l:=h.zcsG (by simp) hl
section
variable {G : List Nat} {S0 B : Nat} {ks : List PK} {a0 : Act} {i : Nat} {N : Nat} {W0 : World} {T : TypeId} {pos : String} {af : Array Edge} {gu : Option (Nat × Bool)}
theorem st_loadC {d t j k : Nat} {z : Int} {p : Addr} {u v : Value} (hl : CellsZ W0 p u v) (hz : Zc W0 (.agg #[u,v]) k z) (hG : p.block ∉ G)    (hj : at_ ks j = kIs (.pointer (some p))) (hi : at_ ks i = kC k z) (hN : a0.tmps.size = N:=by assumption) (hd : decide (d < N) = true:=by kernel_rfl) (ht : decide (t < N) = true:=by kernel_rfl) :
   PkStep Tryz.prog (Reg B W0 G) S0 ks a0 i { dst:=some d,op:=.load 24 (.tmp t),type:=T,pos:=pos,after:=af,guard:=gu } [(j,some t)]:=by
 intro w x hC
 refine bc _ fun hdeps K hK=>?_
 have h1:=hdeps (j,some t) (by simp)
 rw [hj] at h1
 have e1 : (putE x a0 [(j,some t)]).eval (.tmp t) = x j:=ap _ _ (by rw [hN]; exact of_decide_eq_true ht) (by simp [slotAt])
 obtain ⟨m1,m2⟩:=hC.cellsZ hG hl
 refine da (w':=w) rfl (by rw [aw,hN]) hd (ex_load (e1.trans h1) (run_loadNA m1 m2)) (hK _ _ ?_ ?_)
 · rw [hi]; exact Below.refl _ _
 · rw [hi]; exact hC.zc hz
end
theorem r2_addC {M : Nat} (hM : Hid (M ≤ 1080)) (hM1 : 1 ≤ M) {w : World} {A : Option Addr} {c0 : Nat} {l : List (Nat × Int)} (h : ZCs w.heap.size w A l) (hk : ∀ q ∈ l,q.1 ≤ M) (hlen : l.length ≤ 100000) (hacc : ∀ i,i ≤ l.length → (qsum (l.take i)).natAbs < 1000000000 ^ M) :
   Calls Tryz.prog 48 #[.slice A l.length c0] w (TellsZ w M (qsum l)):=by
 have hl2:=h
 clear h
 go_enter Tryz.func48,Tryz.ntmps48
 repeat apply wp_seq
 refine Rk9 fun K HK=>?_
 go_wp2
 refine HK.out _ _ (then_n ?_)
 refine O19 (G:=fun W=>Code.wp _ _ _ _ W) ?_
 intro W_0 bb_0 K0
 have R_0 : Holds_ W_0 w.heap.size #[Value.bool false,Value.slice none 0 0]:=⟨⟨_,K0⟩,by simp [noDig]⟩
 have LL_0:=hl2.below bb_0
 clear K0 hl2
 refine Nf9 (G:=fun a=>Code.wp _ _ _ a _) 20 ?_
 intro a_0 ha hN_0 hD_0
 have e0_0 : a_0.eval (.tmp 0) = (.slice A l.length c0):=Te9 ha
 have e2_0:=gl ha 2 w.heap.size
 repeat first | apply gn | apply go
 refine Wl9 bb_0 [kZ 1 (0),PK.fresh 2,kPutZ 1 1 (0)] [[],[],[1,0]] [5,3,999] [] [] ?_ ?_
 · refine aa rfl rfl (st_call0 [.int .i64 (0)] rfl rfl fun hC=>tz (r2_of (0) (by decide) (by decide) (by decide))) ?_; refine aa rfl rfl (st_alloc rfl) ?_; refine aa rfl rfl (st_put rfl rfl rfl) ?_; exact ai rfl
 intro W_1 x a_1 hC hall ha hN_1 hD_1 bb_1
 obtain ⟨g3,hx,hge,hl3⟩:=put_locG (Hs9 hall 2)
 have d3:=Nat.lt_of_lt_of_le R_0.lt hge
 have e0_1:=ab ha e0_0
 have e2_1:=ab ha e2_0
 have e3_1:=(az (t:=3) (i:=1) ha).trans (hx)
 have R_1:=hC.holds R_0
 have LL_1:=hC.zcs LL_0
 clear hx hge hC hall
 have X_1:=hl3
 clear hl3
 repeat first | apply gn | apply go
 refine wp_set fun x hx=>?_
 refine then_n ?_
 obtain ⟨a_2,ha⟩ : ∃ a,a = putE x a_1 [(0,some 4)]:=⟨_,rfl⟩
 rw [← ha]
 have hN_2:=size_behind ha hN_1
 have hD_2:=defers_behind ha hD_1
 have e0_2:=ab ha e0_1
 have e2_2:=ab ha e2_1
 have e3_2:=ab ha e3_1
 have e4_2:=(az (t:=4) (i:=0) ha).trans (hx)
 have bb_2:=bb_1
 have R_2:=R_1
 have LL_2:=LL_1
 have X_2:=X_1
 clear hx
 repeat first | apply gn | apply go
 refine wp_block ?_
 refine wp_loop (fun a W=>a.tmps.size = 20 ∧ a.defers = [] ∧ a.eval (.tmp 0) = (.slice A l.length c0) ∧ a.eval (.tmp 2) = (.pointer (some ⟨w.heap.size,0,none⟩)) ∧ a.eval (.tmp 3) = .pointer (some ⟨g3,0,none⟩) ∧ Below w.heap.size w W ∧ Holds_ W w.heap.size #[Value.bool false,Value.slice none 0 0] ∧ ZCs w.heap.size W A l ∧ ∃ i : Nat,i ≤ l.length ∧ a.eval (.tmp 4) = .int .i64 (i : Int) ∧ LocR W g3 M (qsum (l.take i))) (fun a _=>l.length - (intOf (a.eval (.tmp 4))).toNat) ?_ ?_
 · exact ⟨hN_2,hD_2,e0_2,e2_2,e3_2,bb_2,R_2,LL_2,0,Nat.zero_le _,e4_2,(X_2).up hM1⟩
 clear hN_2 hD_2 e0_2 e2_2 e3_2 e4_2 bb_2 R_2 LL_2 X_2
 rintro a_10 W_10 ⟨hN_10,hD_10,e0_10,e2_10,e3_10,bb_10,R_10,LL_10,i,hi7,e4_10,X_10⟩
 have hm : intOf (a_10.eval (.tmp 4)) = (i : Int):=by rw [e4_10]; rfl
 rw [hm]
 clear hm
 repeat first | apply gn | apply go
 refine wp_less e4_10 e0_10 (len_runI _ _ _ _) (less_run _ _) fun x hx=>?_
 refine then_n ?_
 obtain ⟨a_11,ha⟩ : ∃ a,a = putE x a_10 [(0,some 6),(1,some 7),(2,some 8),(3,some 9)]:=⟨_,rfl⟩
 rw [← ha]
 have hN_11:=size_behind ha hN_10
 have hD_11:=defers_behind ha hD_10
 have e0_11:=ab ha e0_10
 have e2_11:=ab ha e2_10
 have e3_11:=ab ha e3_10
 have e4_11:=ab ha e4_10
 have e9_11:=(az (t:=9) (i:=3) ha).trans (hx)
 have bb_11:=bb_10
 have R_11:=R_10
 have LL_11:=LL_10
 have X_11:=X_10
 clear hx
 by_cases hi : i < l.length
 ·
   have hc : decide ((i : Int) < (l.length : Int)) = true:=decide_eq_true (by omega); rw [hc] at e9_11; clear hc; refine wp_cond_true e9_11 ?_; refine wp_skip ?_; refine then_n ?_
   repeat first | apply gn | apply go
   refine wp_block ?_
   repeat first | apply gn | apply go
   obtain ⟨q,hq⟩ : ∃ q,l[i]? = some q:=⟨l[i],List.getElem?_eq_getElem hi⟩
   have hqk:=hk q (List.mem_of_getElem? hq); obtain ⟨u3,v3,X3⟩ : ∃ u v,Holds_ W_10 g3 #[u,v]:=by obtain ⟨A,m,c,hh,_⟩:=X_11; exact ⟨_,_,hh⟩
   obtain ⟨ad,rfl,hbk,u2,v2,m1,m2,hzc⟩:=LL_11 i q hq
   have hcz : CellsZ W_10 (ad.add (i * 2)) u2 v2:=⟨m1,m2⟩
   clear m1 m2; have hMM:=hM.out; refine wp_region_keep w.heap.size g3 X3 (by omega) 7 [0] [kZ M (qsum (l.take i)),kIs ((.slice (some ad) l.length c0)),kIs (.int .i64 (i : Int)),kIs (.pointer (some (ad.add (i * 2)))),kC q.1 q.2,kZ q.1 q.2,kZ (M + 1) (qsum (l.take i) + q.2),kResZ g3 (M + 1) (qsum (l.take i) + q.2)] [ [],[],[],[(1,some 13),(2,some 14)],[(3,some 15)],[(4,some 16)],[(0,some 12),(5,some 17)],[(6,some 18)] ] [(0,some 12),(1,some 13),(2,some 14),(3,some 15),(4,some 16),(5,some 17),(6,some 18),(7,none)] [] [] rfl bb_11.size ?_ ?_
   ·
     refine pkl_keep rfl rfl rfl ?_ ?_
     · exact st_loadKZ X_11.atR e3_11 rfl
     refine ax rfl rfl (di [] [(0,(.slice (some ad) l.length c0))] ((.slice (some ad) l.length c0)) rfl hN_11 (old1 e0_11)) ?_; refine ax rfl rfl (di [] [(4,(.int .i64 (i : Int)))] ((.int .i64 (i : Int))) rfl hN_11 (old1 e4_11)) ?_; refine ax rfl rfl (gi hi hN_11 rfl rfl rfl) ?_; refine ax rfl rfl (st_loadC hcz hzc (by simp only [List.mem_singleton,dw]; omega) rfl rfl) ?_; refine ax rfl rfl (cg hN_11 rfl rfl fun hC h1=>tz (r2_norm h1 (by omega))) ?_; refine ax rfl rfl (an rfl rfl rfl fun hC h1 h2=>tz (r2_plusM hM (rr h1) ((rr h2).mono hqk))) ?_; refine ax rfl rfl (dj X3 e3_11 rfl rfl) ?_; exact pkl_nil rfl
   intro W_20 x hC hall; have hres:=show (kResZ g3 (M + 1) (qsum (l.take i) + q.2)).sem _ _ _ _ from hall 7 (of_decide_eq_true (by kernel_rfl))
   have X2 : LocR W_20 g3 M (qsum (l.take (i + 1))):=by rw [qsum_take hq]; exact (res_locR hres).tight (by rw [← qsum_take hq]; exact hacc (i + 1) hi)
   obtain ⟨a_12,ha⟩ : ∃ a,a = putE x a_11 [(0,some 12),(1,some 13),(2,some 14),(3,some 15),(4,some 16),(5,some 17),(6,some 18),(7,none)]:=⟨_,rfl⟩
   rw [← ha]; have hN_12:=size_behind ha hN_11; have hD_12:=defers_behind ha hD_11; have e0_12:=ab ha e0_11; have e2_12:=ab ha e2_11; have e3_12:=ab ha e3_11; have e4_12:=ab ha e4_11; have bb_12:=bb_11.trans hC.below; have R_12:=hC.holdsG (by simp only [List.mem_singleton]; omega) R_11; have LL_12:=hC.zcsG (fun g hg=>by rw [List.mem_singleton.1 hg]; omega) LL_11; have X_12:=X2; clear hres X2 hC hall X3; refine in_block ?_; refine then_n ?_; refine wp_incr (n:=(i : Int)) (m:=((i + 1 : Nat) : Int)) e4_12 (add_run i 1 (by omega)) fun x hx=>?_
   obtain ⟨a_13,ha⟩ : ∃ a,a = putE x a_12 [(0,some 10),(1,some 11),(2,some 4)]:=⟨_,rfl⟩
   rw [← ha]; have hN_13:=size_behind ha hN_12; have hD_13:=defers_behind ha hD_12; have e0_13:=ab ha e0_12; have e2_13:=ab ha e2_12; have e3_13:=ab ha e3_12; have e4_13:=(az (t:=4) (i:=2) ha).trans (hx); have bb_13:=bb_12; have R_13:=R_12; have LL_13:=LL_12; have X_13:=X_12; refine then_n ⟨⟨hN_13,hD_13,e0_13,e2_13,e3_13,bb_13,R_13,LL_13,i + 1,by omega,e4_13,X_13⟩,?_⟩; rw [show intOf (a_13.eval (.tmp 4)) = ((i + 1 : Nat) : Int) by rw [e4_13]; rfl]; omega
 ·
   have hc : decide ((i : Int) < (l.length : Int)) = false:=decide_eq_false (by omega); rw [hc] at e9_11; clear hc; refine wp_cond_false e9_11 ?_; refine wp_exit ?_; refine then_x ?_; refine then_x ?_; refine out_block ?_; refine then_n ?_; obtain rfl : i = l.length:=by omega
   rw [List.take_length] at X_11
   repeat first | apply gn | apply go
   refine Wr9 bb_11 R_11 [kZ M (qsum l),kResZ (w.heap.size) M (qsum l)] [[],[0]] [19,999] [] [] ?_ ?_
   · refine aa rfl rfl (st_loadB X_11.atR e3_11 rfl) ?_; refine aa rfl rfl (dj R_11 e2_11 rfl rfl) ?_; exact ai rfl
   intro W x a1 hC hall ha hN1 hD1 bb1; obtain ⟨cs,hg,hP⟩:=Hs9 hall 1; have e1:=ab (t:=2) ha e2_11
   repeat first | apply gn | apply go
   refine wp_ret ?_
   repeat (refine then_r ?_)
   exact cw (t:=2) rfl hD1 e1 hg hP fun v hv=>⟨v,rfl,hv,bb1⟩
theorem r2_mulC {M : Nat} (hM : Hid (M ≤ 1080)) (hM1 : 1 ≤ M) {w : World} {A : Option Addr} {c0 : Nat} {l : List (Nat × Int)} (h : ZCs w.heap.size w A l) (hk : ∀ q ∈ l,q.1 ≤ M) (hlen : l.length ≤ 100000) (hacc : ∀ i,i ≤ l.length → (qprod (l.take i)).natAbs < 1000000000 ^ M) :
   Calls Tryz.prog 50 #[.slice A l.length c0] w (TellsZ w M (qprod l)):=by
 have hl2:=h
 clear h
 go_enter Tryz.func50,Tryz.ntmps50
 repeat apply wp_seq
 refine Rk9 fun K HK=>?_
 go_wp2
 refine HK.out _ _ (then_n ?_)
 refine O19 (G:=fun W=>Code.wp _ _ _ _ W) ?_
 intro W_0 bb_0 K0
 have R_0 : Holds_ W_0 w.heap.size #[Value.bool false,Value.slice none 0 0]:=⟨⟨_,K0⟩,by simp [noDig]⟩
 have LL_0:=hl2.below bb_0
 clear K0 hl2
 refine Nf9 (G:=fun a=>Code.wp _ _ _ a _) 31 ?_
 intro a_0 ha hN_0 hD_0
 have e0_0 : a_0.eval (.tmp 0) = (.slice A l.length c0):=Te9 ha
 have e2_0:=gl ha 2 w.heap.size
 repeat first | apply gn | apply go
 refine Wl9 bb_0 [kZ 1 (1),PK.fresh 2,kPutZ 1 1 (1)] [[],[],[1,0]] [6,3,999] [] [] ?_ ?_
 · refine aa rfl rfl (st_call0 [.int .i64 (1)] rfl rfl fun hC=>tz (r2_of (1) (by decide) (by decide) (by decide))) ?_; refine aa rfl rfl (st_alloc rfl) ?_; refine aa rfl rfl (st_put rfl rfl rfl) ?_; exact ai rfl
 intro W_1 x a_1 hC hall ha hN_1 hD_1 bb_1
 obtain ⟨g3,hx,hge,hl3⟩:=put_locG (Hs9 hall 2)
 have d3:=Nat.lt_of_lt_of_le R_0.lt hge
 have e0_1:=ab ha e0_0
 have e2_1:=ab ha e2_0
 have e3_1:=(az (t:=3) (i:=1) ha).trans (hx)
 have R_1:=hC.holds R_0
 have LL_1:=hC.zcs LL_0
 clear hx hge hC hall
 have X_1:=hl3
 clear hl3
 repeat first | apply gn | apply go
 refine wp_set fun x hx=>?_
 refine then_n ?_
 obtain ⟨a_2,ha⟩ : ∃ a,a = putE x a_1 [(0,some 4)]:=⟨_,rfl⟩
 rw [← ha]
 have hN_2:=size_behind ha hN_1
 have hD_2:=defers_behind ha hD_1
 have e0_2:=ab ha e0_1
 have e2_2:=ab ha e2_1
 have e3_2:=ab ha e3_1
 have e4_2:=(az (t:=4) (i:=0) ha).trans (hx)
 have bb_2:=bb_1
 have R_2:=R_1
 have LL_2:=LL_1
 have X_2:=X_1
 clear hx
 repeat first | apply gn | apply go
 refine wp_block ?_
 refine wp_loop (fun a W=>a.tmps.size = 31 ∧ a.defers = [] ∧ a.eval (.tmp 0) = (.slice A l.length c0) ∧ a.eval (.tmp 2) = (.pointer (some ⟨w.heap.size,0,none⟩)) ∧ a.eval (.tmp 3) = .pointer (some ⟨g3,0,none⟩) ∧ Below w.heap.size w W ∧ Holds_ W w.heap.size #[Value.bool false,Value.slice none 0 0] ∧ ZCs w.heap.size W A l ∧ ∃ i : Nat,i ≤ l.length ∧ a.eval (.tmp 4) = .int .i64 (i : Int) ∧ LocR W g3 M (qprod (l.take i))) (fun a _=>l.length - (intOf (a.eval (.tmp 4))).toNat) ?_ ?_
 · exact ⟨hN_2,hD_2,e0_2,e2_2,e3_2,bb_2,R_2,LL_2,0,Nat.zero_le _,e4_2,(X_2).up hM1⟩
 clear hN_2 hD_2 e0_2 e2_2 e3_2 e4_2 bb_2 R_2 LL_2 X_2
 rintro a_10 W_10 ⟨hN_10,hD_10,e0_10,e2_10,e3_10,bb_10,R_10,LL_10,i,hi7,e4_10,X_10⟩
 have hm : intOf (a_10.eval (.tmp 4)) = (i : Int):=by rw [e4_10]; rfl
 rw [hm]
 clear hm
 repeat first | apply gn | apply go
 refine wp_less e4_10 e0_10 (len_runI _ _ _ _) (less_run _ _) fun x hx=>?_
 refine then_n ?_
 obtain ⟨a_11,ha⟩ : ∃ a,a = putE x a_10 [(0,some 7),(1,some 8),(2,some 9),(3,some 10)]:=⟨_,rfl⟩
 rw [← ha]
 have hN_11:=size_behind ha hN_10
 have hD_11:=defers_behind ha hD_10
 have e0_11:=ab ha e0_10
 have e2_11:=ab ha e2_10
 have e3_11:=ab ha e3_10
 have e4_11:=ab ha e4_10
 have e10_11:=(az (t:=10) (i:=3) ha).trans (hx)
 have bb_11:=bb_10
 have R_11:=R_10
 have LL_11:=LL_10
 have X_11:=X_10
 clear hx
 by_cases hi : i < l.length
 ·
   have hc : decide ((i : Int) < (l.length : Int)) = true:=decide_eq_true (by omega); rw [hc] at e10_11; clear hc; refine wp_cond_true e10_11 ?_; refine wp_skip ?_; refine then_n ?_
   repeat first | apply gn | apply go
   refine wp_block ?_
   repeat first | apply gn | apply go
   obtain ⟨q,hq⟩ : ∃ q,l[i]? = some q:=⟨l[i],List.getElem?_eq_getElem hi⟩
   have hqk:=hk q (List.mem_of_getElem? hq); obtain ⟨ad,rfl,hbk,u2,v2,m1,m2,hzc⟩:=LL_11 i q hq
   have hcz : CellsZ W_10 (ad.add (i * 2)) u2 v2:=⟨m1,m2⟩
   clear m1 m2; have hMM:=hM.out; refine Wl9 bb_11 [kIs ((.slice (some ad) l.length c0)),kIs (.int .i64 (i : Int)),kIs (.pointer (some (ad.add (i * 2)))),kC q.1 q.2,kZ q.1 q.2,PK.fresh 2,kPutZ 5 q.1 q.2] [[],[],[0,1],[2],[3],[],[5,4]] [13,14,15,16,17,5,999] [] [] ?_ ?_
   ·
     refine p01 (hN:=hN_11) e0_11 ?_; refine p01 (hN:=hN_11) e4_11 ?_; refine aa rfl rfl (gi hi hN_11 rfl rfl rfl) ?_; refine aa rfl rfl (st_loadC hcz hzc (by simp) rfl rfl) ?_; refine aa rfl rfl (cg hN_11 rfl rfl fun hC h1=>tz (r2_norm h1 (by omega))) ?_; refine aa rfl rfl (st_alloc rfl) ?_; refine aa rfl rfl (st_put rfl rfl rfl) ?_; exact ai rfl
   intro W_15 x a_12 hC hall ha hN_12 hD_12 bb_12; obtain ⟨g5,hx,hge,hl5⟩:=put_locG (Hs9 hall 6); obtain ⟨u3,v3,X3⟩ : ∃ u v,Holds_ W_15 g3 #[u,v]:=by obtain ⟨A,m,c,hh,_⟩:=hC.locR X_11; exact ⟨_,_,hh⟩
   have d5 : g3 < g5:=by obtain ⟨A,m,c,hh,_⟩:=X_11; exact Nat.lt_of_lt_of_le hh.lt hge
   have e0_12:=ab ha e0_11; have e2_12:=ab ha e2_11; have e3_12:=ab ha e3_11; have e4_12:=ab ha e4_11; have e5_12:=(az (t:=5) (i:=5) ha).trans (hx); have R_12:=hC.holds R_11; have LL_12:=hC.zcs LL_11; have X_12:=hC.locR X_11; have Y_12:=hl5; clear hx hge hC hall hl5
   repeat first | apply gn | apply go
   have hbM : (((qprod (l.take i))).natAbs * (q.2).natAbs) < 1000000000 ^ M:=by have:=hacc (i + 1) hi; rw [qprod_take hq,Int.natAbs_mul] at this; exact this
   have hbA : ((qprod (l.take i))).natAbs < 1000000000 ^ M:=hacc i hi7; have hbq : (q.2).natAbs < 1000000000 ^ M:=by obtain ⟨A,m,c,_,A',m',c',_,_,hh⟩:=Y_12; exact Nat.lt_of_lt_of_le hh (pow_le hqk)
   refine wp_region_keepR hN_12 w.heap.size g3 X3 (by omega) 12 [1, 6] [kIs (.pointer (some ⟨g3, 0, none⟩)), kIs (.bool (decide ((qprod (l.take i)) < 0))), kIs (.pointer (some ⟨g5, 0, none⟩)), kIs (.bool (decide (q.2 < 0))), kIs (.bool (decide ((qprod (l.take i)) < 0) != decide (q.2 < 0))), kIs (.pointer (some ⟨g3, 1, none⟩)), kRow (qprod (l.take i)), kIs (.pointer (some ⟨g5, 1, none⟩)), kRow q.2, kRR ((qprod (l.take i))).natAbs (q.2).natAbs, kRow ((((qprod (l.take i))).natAbs * (q.2).natAbs : Nat) : Int), kZ M (zOf (((qprod (l.take i))).natAbs * (q.2).natAbs) (decide ((qprod (l.take i)) < 0) != decide (q.2 < 0))), kResZ g3 M (zOf (((qprod (l.take i))).natAbs * (q.2).natAbs) (decide ((qprod (l.take i)) < 0) != decide (q.2 < 0)))]
     [ [],[(0,some 18)],[],[(2,some 20)],[(1,some 19),(3,some 21)],[],[(5,some 23)],[],[(7,some 25)],[(6,some 24),(8,some 26)],[(9,some 27)],[(4,some 22),(10,some 28)],[(11,some 29)] ] [(0,some 18),(1,some 19),(2,some 20),(3,some 21),(4,some 22),(5,some 23),(6,some 24),(7,some 25),(8,some 26),(9,some 27),(10,some 28),(11,some 29),(12,none)] [] [] (by kernel_rfl) (by kernel_rfl) (by kernel_rfl) (by kernel_rfl) (by kernel_rfl) (by kernel_rfl) (by kernel_rfl) rfl rfl (by kernel_rfl) (by kernel_rfl) bb_12.size ?_ ?_
   ·
     refine ax rfl rfl (di [] [(3,.pointer (some ⟨g3,0,none⟩))] (.pointer (some ⟨g3,0,none⟩)) rfl hN_12 (old1 e3_12)) ?_; refine pkl_keep rfl rfl rfl ?_ ?_
     · exact st_loadKS X_12.atR rfl rfl
     refine ax rfl rfl (di [] [(5,.pointer (some ⟨g5,0,none⟩))] (.pointer (some ⟨g5,0,none⟩)) rfl hN_12 (old1 e5_12)) ?_; refine ax rfl rfl (aq (s:=decide (q.2 < 0)) (hG:=(by simp only [List.mem_singleton]; omega)) Y_12.atR rfl rfl rfl) ?_; refine ax rfl rfl (di [.bool (decide ((qprod (l.take i)) < 0)),.bool (decide (q.2 < 0))] [] (.bool (decide ((qprod (l.take i)) < 0) != decide (q.2 < 0))) rfl hN_12 old0) ?_; refine ax rfl rfl (di [] [(3,.pointer (some ⟨g3,0,none⟩))] (.pointer (some ⟨g3,1,none⟩)) rfl hN_12 (old1 e3_12)) ?_; refine pkl_keep rfl rfl rfl ?_ ?_
     · exact st_loadKRow X_12.atR rfl rfl
     refine ax rfl rfl (di [] [(5,.pointer (some ⟨g5,0,none⟩))] (.pointer (some ⟨g5,1,none⟩)) rfl hN_12 (old1 e5_12)) ?_; refine ax rfl rfl (ah (hG:=(by simp only [List.mem_singleton]; omega)) Y_12.atR rfl rfl) ?_; refine ax rfl rfl (st_rows2 rfl rfl rfl) ?_; refine ax rfl rfl (cg hN_12 rfl rfl fun hC h1=>tr rfl (r1_mul (N:=M) (M:=M) h1 hbA hbq hbM (Nat.le_refl _) hM1 (by omega))) ?_; refine ax rfl rfl (an rfl rfl rfl fun hC h1 h2=>tz (r2_mkB h1 h2 hbM (by omega))) ?_; refine ax rfl rfl (dj X3 e3_12 rfl rfl) ?_; exact pkl_nil rfl
   intro W_20 x hC hall; have hres:=show (kResZ g3 M (zOf (((qprod (l.take i))).natAbs * (q.2).natAbs) (decide ((qprod (l.take i)) < 0) != decide (q.2 < 0)))).sem _ _ _ _ from hall 12 (of_decide_eq_true (by kernel_rfl))
   have X2 : LocR W_20 g3 M (qprod (l.take (i + 1))):=by have h:=res_locR hres; rw [zOf_mul,← qprod_take hq] at h; exact h
   obtain ⟨a_13,ha⟩ : ∃ a,a = putE x a_12 [(0,some 18),(1,some 19),(2,some 20),(3,some 21),(4,some 22),(5,some 23),(6,some 24),(7,some 25),(8,some 26),(9,some 27),(10,some 28),(11,some 29),(12,none)]:=⟨_,rfl⟩
   rw [← ha]; have hN_13:=size_behind ha hN_12; have hD_13:=defers_behind ha hD_12; have e0_13:=ab ha e0_12; have e2_13:=ab ha e2_12; have e3_13:=ab ha e3_12; have e4_13:=ab ha e4_12; have bb_13:=bb_12.trans hC.below; have R_13:=hC.holdsG (by simp only [List.mem_singleton]; omega) R_12; have LL_13:=hC.zcsG (fun g hg=>by rw [List.mem_singleton.1 hg]; omega) LL_12; have X_13:=X2; clear hres X2 hC hall X3 Y_12; refine in_block ?_; refine then_n ?_; refine wp_incr (n:=(i : Int)) (m:=((i + 1 : Nat) : Int)) e4_13 (add_run i 1 (by omega)) fun x hx=>?_
   obtain ⟨a_14,ha⟩ : ∃ a,a = putE x a_13 [(0,some 11),(1,some 12),(2,some 4)]:=⟨_,rfl⟩
   rw [← ha]; have hN_14:=size_behind ha hN_13; have hD_14:=defers_behind ha hD_13; have e0_14:=ab ha e0_13; have e2_14:=ab ha e2_13; have e3_14:=ab ha e3_13; have e4_14:=(az (t:=4) (i:=2) ha).trans (hx); have bb_14:=bb_13; have R_14:=R_13; have LL_14:=LL_13; have X_14:=X_13; refine then_n ⟨⟨hN_14,hD_14,e0_14,e2_14,e3_14,bb_14,R_14,LL_14,i + 1,by omega,e4_14,X_14⟩,?_⟩; rw [show intOf (a_14.eval (.tmp 4)) = ((i + 1 : Nat) : Int) by rw [e4_14]; rfl]; omega
 ·
   have hc : decide ((i : Int) < (l.length : Int)) = false:=decide_eq_false (by omega); rw [hc] at e10_11; clear hc; refine wp_cond_false e10_11 ?_; refine wp_exit ?_; refine then_x ?_; refine then_x ?_; refine out_block ?_; refine then_n ?_; obtain rfl : i = l.length:=by omega
   rw [List.take_length] at X_11
   repeat first | apply gn | apply go
   refine Wr9 bb_11 R_11 [kZ M (qprod l),kResZ (w.heap.size) M (qprod l)] [[],[0]] [30,999] [] [] ?_ ?_
   · refine aa rfl rfl (st_loadB X_11.atR e3_11 rfl) ?_; refine aa rfl rfl (dj R_11 e2_11 rfl rfl) ?_; exact ai rfl
   intro W x a1 hC hall ha hN1 hD1 bb1; obtain ⟨cs,hg,hP⟩:=Hs9 hall 1; have e1:=ab (t:=2) ha e2_11
   repeat first | apply gn | apply go
   refine wp_ret ?_
   repeat (refine then_r ?_)
   exact cw (t:=2) rfl hD1 e1 hg hP fun v hv=>⟨v,rfl,hv,bb1⟩
end Go.Proofs.YtifgcjpgelbelaaGreatDoor
set_option linter.unusedVariables false
set_option linter.unusedSimpArgs false
namespace Go.Proofs.YtifgcjpgelbelaaGreatDoor
open Go.RowKit
def IntsA (W : World) (A : Option Addr) (L : List (Nat × Bool)) : Prop:=∀ j p,L[j]? = some p → ∃ ad,A = some ad ∧ ∃ B c xs,W.cell? ((ad.add (j * 2)).add 1) = some (.slice B (List.length xs) c) ∧ Row W B (u32s xs) ∧ small 4294967296 xs ∧ xs.length ≤ 1100 ∧ val xs = p.1
theorem IntsA.below {W w' : World} {A : Option Addr} {L : List (Nat × Bool)} (h : IntsA W A L) (hb : Below W.heap.size W w') : IntsA w' A L:=fun j p hp=>by
 obtain ⟨ad,e,B,c,xs,h2,h3,h4⟩:=h j p hp
 exact ⟨ad,e,B,c,xs,(hb.cell (cell_lt h2)).trans h2,h3.below hb,h4⟩
theorem refGcdA {w : World} {A0 : Option Addr} {c0 N : Nat} {L : List (Nat × Bool)} (hL : IntsA w A0 L) (hLn : ∀ p ∈ L,p.1 < 1000000000 ^ N) (hN : N ≤ 1100) (hlen : L.length ≤ 100000) :
   Calls Tryz.prog 52 #[.slice A0 L.length c0] w (RetInt w (gcds L 0) false):=by
 have HL:=Lib.hid hL
 have h0 : 0 < 1000000000 ^ N:=Nat.pow_pos (by decide)
 have HB:=Lib.hid (show (∀ p ∈ L,p.1 < 1000000000 ^ N) ∧ N ≤ 1100 ∧ 0 < 1000000000 ^ N from ⟨hLn,hN,h0⟩)
 obtain ⟨l,hl⟩ : ∃ l,l = L.length:=⟨_,rfl⟩
 rw [← hl] at hlen ⊢
 have HLL:=Lib.hid hl
 obtain ⟨G,hG⟩ : ∃ G,G = gcds L 0:=⟨_,rfl⟩
 rw [← hG]
 have HG:=Lib.hid hG
 clear hL hLn hN h0 hl hG
 go_enter Tryz.func52,Tryz.ntmps52
 go_wp2_with fail
 go_loopw [3,4] (fun gv iv wr=>∃ (k' : Nat) (A' : Option Addr) (j d : Nat),k' ≤ l ∧ iv = .int .i64 k' ∧ gv = .slice A' j d ∧ Hid (Rr wr (.slice A' j d) (gcds (L.take k') 0)) ∧ Below w.heap.size w wr ∧ Hid (wr.heap[w.heap.size]? = some (Obj.cells #[Value.bool false,Value.slice none 0 0] 24 (0,0)))) (fun _ iv _=>l - (intOf iv).toNat)
 case atStart=>exact ⟨0,none,0,0,Nat.zero_le _,rfl,rfl,rr_nil _,bal (Below.refl _ _) _,new_at rfl⟩
 case round =>
   obtain ⟨k',A',j,d,hk,rfl,rfl,HR1,hb1,HK1⟩:=hrel
   by_cases hlt2 : k' < l
   · have hkL : k' < L.length:=by rw [← HLL.out]; exact hlt2
     obtain ⟨⟨n1,b1⟩,hp⟩ : ∃ p,p = L[k']:=⟨_,rfl⟩
     obtain ⟨ad,rfl,B,e,xs,hc2,hr,hs,hx,hv⟩:=(HL.out.below hb1) k' (n1,b1) (by rw [List.getElem?_eq_getElem hkL,hp]); have hc2 : wr.cell? { block:=(ad.add (k' * 2)).block,off:=(ad.add (k' * 2)).off + 1 } = some (.slice B xs.length e):=hc2; have hv : val xs = n1:=hv; have hGS:=gcds_succ (n:=0) hkL; rw [← hp] at hGS; have HGS:=Lib.hid hGS; have HN1:=Lib.hid (HB.out.1 _ (hp ▸ List.getElem_mem hkL : (n1,b1) ∈ L)); have htr:=refTrim (c:=e) hr hs hx (k:=N) (by rw [hv]; exact HN1.out) (by have:=HB.out.2.1; omega); rw [hv] at htr
     obtain ⟨m,hm⟩ : ∃ m,m = xs.length:=⟨_,rfl⟩
     rw [← hm] at hc2 htr; have HTR:=Lib.hid htr; have hltg:=gcds_lt (L:=L.take k') HB.out.2.2 fun p hp=>HB.out.1 p (List.mem_of_mem_take hp); have HLG:=Lib.hid hltg; clear hr hs hx hv hm htr hGS hp hltg
     go_wp2_with fail
     refine HTR.out.mono ?_; rintro e w2 ⟨A3,k3,c3,rfl,hr3,hb3⟩; have hb3:=bstep hb1 hb3; have HR1:=Lib.hid (HR1.out.below (show Below wr.heap.size wr w2 by assumption)); have HK1:=Lib.hid (((show Below wr.heap.size wr w2 by assumption).block w.heap.size (lt_block HK1.out)).trans HK1.out); have HR3:=Lib.hid hr3
     go_wp2_with fail
     go_loopw [3,5] (fun gv xv wr=>∃ (A : Option Addr) (k c : Nat) (B : Option Addr) (j d a b : Nat),gv = .slice A k c ∧ xv = .slice B j d ∧ Hid (Rr wr (.slice A k c) a) ∧ Hid (Rr wr (.slice B j d) b) ∧ Hid (Nat.gcd a b = gcds (L.take (k' + 1)) 0 ∧ a < 1000000000 ^ N ∧ b < 1000000000 ^ N) ∧ Below w.heap.size w wr ∧ Hid (wr.heap[w.heap.size]? = some (Obj.cells #[Value.bool false,Value.slice none 0 0] 24 (0,0)))) (fun _ xv wr=>valOf wr xv)
     case atStart=>exact ⟨_,_,_,_,_,_,_,n1,rfl,rfl,HR1,HR3,⟨by rw [HGS.out,Nat.gcd_comm],HLG.out,HN1.out⟩,hb3,HK1⟩
     case round =>
       obtain ⟨A,k,c,B,j,d,a,b,rfl,rfl,HA,HBB,HGC,hb,HK⟩:=hrel; have hj:=(rr_len HBB.out).1
       by_cases h0 : b = 0
       · obtain rfl : j = 0:=hj.2 h0; have hG : a = gcds (L.take (k' + 1)) 0:=by rw [← HGC.out.1,h0,Nat.gcd_zero_right]
         have HGG:=Lib.hid hG; clear hj h0 hG
         go_wp2_with fail
         go_roundw
         case rel=>exact ⟨k' + 1,_,_,_,by omega,by go_num,rfl,by show Rr _ _ _; rw [← HGG.out]; exact HA.out,hb,HK⟩
         case measure=>simp [intOf]; omega
       · have hk0 : 0 < j:=by have : j ≠ 0:=fun e=>h0 (hj.1 e); omega
         have hdv:=vr_div HA.out HBB.out HGC.out.2.1 HGC.out.2.2 HB.out.2.1 (by omega); have HDV:=Lib.hid hdv; have H0:=Lib.hid h0; clear hj h0 hdv
         go_wp2_with fail
         refine HDV.out.mono ?_; rintro e w3 ⟨Aq,kq,cq,Ar,kr,cr,rfl,_,hrr,hb4⟩; have HK4:=Lib.hid ((hb4.block w.heap.size (lt_block HK.out)).trans HK.out); have HBB2:=Lib.hid (HBB.out.below hb4); have HR:=Lib.hid hrr; have hb5:=bstep hb hb4; clear hb4 hrr HDV
         go_wp2_with fail
         go_roundw
         case rel =>
           refine ⟨_,_,_,_,_,_,b,a % b,rfl,rfl,HBB2,HR,⟨?_,HGC.out.2.2,?_⟩,hb5,HK4⟩
           · rw [← HGC.out.1,Nat.gcd_comm a b,Nat.gcd_rec b a,Nat.gcd_comm]
           · exact Nat.lt_of_lt_of_le (Nat.mod_lt _ (Nat.pos_of_ne_zero H0.out)) (Nat.le_of_lt HGC.out.2.2)
         case measure =>
           rw [fy HBB.out,fy HR.out]; exact Nat.mod_lt _ (Nat.pos_of_ne_zero H0.out)
   · have hk' : k' = l:=by omega
     obtain ⟨ys,rfl,r1,x1,v1,l1⟩:=fi HR1.out (gcds_lt (L:=L.take k') HB.out.2.2 fun p hp=>HB.out.1 p (List.mem_of_mem_take hp)); have e1 : gcds (L.take k') 0 = G:=by rw [HG.out,hk',HLL.out,List.take_length]
     rw [e1] at v1; have hof:=fun (W : World) (hW : Below wr.heap.size wr W)=>ref2of_any (c:=d) (N:=N) false (r1.below hW) (fun d hd=>Nat.lt_trans (x1.1 d hd) (by decide)) (by have:=HB.out.2.1; omega) (by rw [v1,HG.out]; exact gcds_lt HB.out.2.2 HB.out.1) (by have:=HB.out.2.1; omega); rw [v1] at hof; have HOF:=Lib.hid hof
     obtain ⟨n,hn⟩ : ∃ n,n = ys.length:=⟨_,rfl⟩
     rw [← hn] at HOF ⊢; have hlt3:=lt_block HK1.out; clear hof r1 x1 v1 l1 hn hk' e1 HR1
     go_wp2_with fail
     refine (HOF.out _ (Below.refl _ _)).mono ?_; rintro e w1 ⟨A1,k1,c1,rfl,h1,h2,hb⟩; have K1:=(hb.block w.heap.size hlt3).trans HK1.out; obtain ⟨m1,m2,m3,m4⟩:=cell_of_two K1; have hb2:=bstep hb1 hb; obtain ⟨n1,n2,n3⟩:=ar (a':=.bool (sgn G false)) (b':=.slice A1 k1 c1) K1 (fun d h=>by cases h) (fun d h=>by cases h) h1; clear hb h1 K1
     go_wp2
     refine bodyPost_ret (v:=.agg #[.bool (sgn G false),.slice A1 k1 c1]) (by simp [results,Tryz.results52,go_sem,n1,n2]) rfl ?_; exact ⟨A1,k1,c1,by simp [sgn],n3,fun _=>rfl,(hb2.setCell (Nat.le_refl _) _).setCell (Nat.le_refl _) _⟩
end Go.Proofs.YtifgcjpgelbelaaGreatDoor
set_option linter.unusedVariables false
set_option linter.unusedSimpArgs false
namespace Go.Proofs.YtifgcjpgelbelaaGreatDoor
open Go.RowKit
theorem told_markZ {w : World} {S0 d : Nat} {x : Nat → Value} {v : Value} (h : v = .int .i64 (d : Int)) (hd : d ≤ 12) : Calls Tryz.prog 95 #[.int .i64 1,v] w (Told (kN false [8000024 + d]) S0 x w):=by
 subst h
 exact (markInt_any d hd).mono fun _ _ ⟨u,e,⟨g,e1,h1⟩,hb⟩=>⟨u,e,hb,_,_,e1,Own.row32 h1⟩
theorem told_sameZ {W0 w : World} {B S0 d : Nat} {F : FuncId} {x : Nat → Value} {v1 v2 u1 : Value} (H : Hid (∀ W v2,Below B W0 W → Nv W v2 false [8000024 + d] → Calls Tryz.prog F #[u1,v2] W (SaysB W true))) (hb : Below B W0 w) (h1 : (kIs u1).sem S0 x v1 w) (h2 : (kN false [8000024 + d]).sem S0 x v2 w) : Calls Tryz.prog F #[v1,v2] w (Told (kIs (.bool true)) S0 x w):=by
 obtain rfl : v1 = u1:=h1
 exact (H.out w v2 hb h2).mono fun _ _ ⟨e,hb⟩=>⟨_,e,hb,rfl⟩
theorem Own2.cell {W : World} {B n g cap : Nat} {E : List Value} (h : Own2 W B (.slice (some ⟨g,0,none⟩) n cap) n E) {i : Nat} {u : Value} (hu : E[i]? = some u) : W.cell? ⟨g,i,none⟩ = some u:=by
 have hh : W.ownsRow B 24 2 (.slice (some ⟨g,0,none⟩) n cap) n E:=h
 have:=hh.cells (g:=g) rfl i u hu
 rwa [add_at] at this
theorem keptNums_any {w : World} {B g cap c n : Nat} {A : Option Addr} {L : List (Bool × List Nat)} {E : List Value} (hO : Own2 w B (.slice (some ⟨g,0,none⟩) (n + 12) cap) (n + 12) E) (hA : LentZ w B L E) (hM : MarkZs w B n 12 E) (hR : RawZs w A L) (hnn : n = L.length) (hn : n ≤ 20) (hl : ∀ q ∈ L,q.2.length ≤ 1000) :
   Calls Tryz.prog 53 #[.slice (some ⟨g,0,none⟩) n cap,.slice A n c] w (SaysB w true):=by
 have hcap : n + 12 ≤ cap:=by
   obtain ⟨g',cap',e,hle⟩:=hO.slice (by omega); injection e with _ _ e3; omega
 have HA:=Lib.hid hA
 have HM:=Lib.hid hM
 have HR:=Lib.hid hR
 have HO:=Lib.hid hO
 have HL:=Lib.hid hl
 have HN:=Lib.hid hnn
 clear hA hM hR hO hl hnn
 go_enter Tryz.func53,Tryz.ntmps53
 go_wp2_with fail
 go_loopw [6] (fun iv wr=>∃ k : Nat,k ≤ n + 12 ∧ iv = .int .i64 (k : Int) ∧ Hid (Below w.heap.size w wr)) (fun iv _=>n + 12 - (intOf iv).toNat)
 case atStart=>exact ⟨0,Nat.zero_le _,rfl,Below.refl _ _⟩
 case round =>
   obtain ⟨k,hk,rfl,HW⟩:=hrel
   by_cases hlt : k < n + 12
   · have hlt' : (k : Int) < (n : Int) + 12:=by omega
     by_cases hkn : k < n
     · have hkL : k < L.length:=by rw [← HN.out]; exact hkn
       obtain ⟨⟨b1,xs⟩,hpq⟩ : ∃ m,m = L[k]:=⟨_,rfl⟩
       have hat : L[k]? = some (b1,xs):=by rw [List.getElem?_eq_getElem hkL,hpq]
       obtain ⟨ad,rfl,h1⟩:=(HR.out.below HW.out) k _ hat; obtain ⟨A1,c1,m1,m2,r1,_⟩:=h1; have m1 : wr.cell? (ad.add (k * 2)) = some (.bool b1):=m1; have m2 : wr.cell? { block:=(ad.add (k * 2)).block,off:=(ad.add (k * 2)).off + 1 } = some (.slice A1 xs.length c1):=m2
       have hqv : Nv wr (.agg #[.bool b1,.slice A1 xs.length c1]) b1 xs:=⟨A1,c1,rfl,r1⟩
       have hsz:=HL.out _ (List.mem_of_getElem? hat); obtain ⟨v,⟨va,vb,rfl,e1,e2⟩,hlo⟩:=HA.out k _ hat; have hlv:=(hlo.below HW.out).ln; have hO2:=HO.out.below HW.out; have n1:=hO2.cell e1; have n2:=hO2.cell e2; obtain ⟨g1,d1,ee,q⟩:=hlv; obtain ⟨rfl,rfl⟩ : va = .bool b1 ∧ vb = .slice (some ⟨g1,0,none⟩) xs.length d1:=by simpa using ee
       have hlv : LN wr (.agg #[.bool b1,.slice (some ⟨g1,0,none⟩) xs.length d1]) b1 xs:=⟨g1,d1,rfl,q⟩
       have hkr:=fun (W : World) (hW : Below wr.heap.size wr W)=>keptInt_ln (hlv.below hW) (hqv.below hW) (Nat.le_trans hsz (by decide)); have HK:=Lib.hid hkr; have hg1 : decide (k < n) = true:=decide_eq_true hkn; have hg2 : decide (n ≤ k) = false:=decide_eq_false (by omega); clear hat hpq hkL hqv hsz hkr r1 hlo hO2 e1 e2 q ee hlv
       go_wp2
       have CG : CellsZ wr ((⟨g,0,none⟩ : Addr).add (k * 2)) (.bool b1) (.slice (some ⟨g1,0,none⟩) xs.length d1):=by
         rw [add_at]; exact ⟨n1,n2⟩
       have CA : CellsZ wr (ad.add (k * 2)) (.bool b1) (.slice A1 xs.length c1):=⟨m1,m2⟩
       refine fp (G:=fun a=>Code.wp _ _ _ a _) ?_; intro a0 ha; have hN : a0.tmps.size = 58:=by subst ha; kernel_rfl
       have e1 : a0.eval (.tmp 1) = .slice (some ad) n c := Te9 ha; have e5 : a0.eval (.tmp 5) = .slice (some ⟨g, 0, none⟩) (n + 12) cap := Te9 ha; have e6 : a0.eval (.tmp 6) = .int .i64 (k : Int) := Te9 ha; refine dc hN wr.heap.size
         [kIs (.int .i64 (k : Int)),kIs (.slice (some ad) n c),kIs (.int .i64 (n : Int)),kIs (.bool true),kIs (.bool true),kIs (.slice (some ⟨g,0,none⟩) (n + 12) cap),kIs (.int .i64 (k : Int)),kIs (.pointer (some ((⟨g,0,none⟩ : Addr).add (k * 2)))),kIs (.agg #[.bool b1,.slice (some ⟨g1,0,none⟩) xs.length d1]),kIs (.slice (some ad) n c),kIs (.int .i64 (k : Int)),kIs (.pointer (some (ad.add (k * 2)))),kIs (.agg #[.bool b1,.slice A1 xs.length c1]),kIs (.bool true),kIs (.bool false),kIs (.bool false),kIs (.bool false),kIs (.int .i64 (k : Int)),kIs (.slice (some ad) n c),kIs (.int .i64 (n : Int)),kIs (.bool false),kIs (.bool false),kIs (undef),kIs (undef),kIs (undef),kIs (undef),kIs (undef),kIs (undef),kIs (undef),kIs (undef),kIs (undef),kIs (undef),kIs (undef),kIs (.bool false),kIs (.bool false)]
         [ [],[],[(1,some 24)],[(0,some 23),(2,some 25)],[(3,some 26)],[],[],[(5,some 28),(6,some 29)],[(7,some 30)],[],[],[(9,some 32),(10,some 33)],[(11,some 34)],[(8,some 31),(12,some 35)],[(13,some 36)],[(4,some 27),(14,some 37)],[(15,some 38)],[],[],[(18,some 41)],[(17,some 40),(19,some 42)],[(20,some 43)],[],[],[(22,some 45),(23,some 46)],[(24,some 47)],[],[],[(27,some 50)],[(26,some 49),(28,some 51)],[(29,some 52)],[(25,some 48),(30,some 53)],[(31,some 54)],[(21,some 44),(32,some 55)],[(16,some 39),(33,some 56)] ]
         [(0,some 23),(1,some 24),(2,some 25),(3,some 26),(4,some 27),(5,some 28),(6,some 29),(7,some 30),(8,some 31),(9,some 32),(10,some 33),(11,some 34),(12,some 35),(13,some 36),(14,some 37),(15,some 38),(16,some 39),(17,some 40),(18,some 41),(19,some 42),(20,some 43),(21,some 44),(22,some 45),(23,some 46),(24,some 47),(25,some 48),(26,some 49),(27,some 50),(28,some 51),(29,some 52),(30,some 53),(31,some 54),(32,some 55),(33,some 56),(34,some 57)] [(4,true),(16,false),(21,false)] [22,23,24,25,26,27,28,29,30,31,32] (by kernel_rfl) (by kernel_rfl) (by kernel_rfl) (by kernel_rfl) (by kernel_rfl) (by kernel_rfl) (by kernel_rfl) (Nat.le_refl _) ?_ ?_
       ·
           refine p01 (hN:=hN) e6 ?_; refine p01 (hN:=hN) e1 ?_; refine p10 (hN:=hN) ?_; refine p20 (hr:=fun w=>ex_bin (by kernel_rfl) (by kernel_rfl) rfl (lss_run hkn w)) (hN:=hN) ?_; refine p10 (hN:=hN) ?_; refine p01 (hN:=hN) e5 ?_; refine p01 (hN:=hN) e6 ?_; refine aa rfl rfl (gi (by omega) hN rfl rfl rfl) ?_; refine aa rfl rfl (gj CG hN rfl rfl) ?_; refine p01 (hN:=hN) e1 ?_; refine p01 (hN:=hN) e6 ?_; refine aa rfl rfl (gi hkn hN rfl rfl rfl) ?_; refine aa rfl rfl (gj CA hN rfl rfl) ?_; refine aa rfl rfl (an rfl rfl rfl fun hC h1 h2=>told_kept HK hC.below h1 h2) ?_; refine p10 (hN:=hN) ?_; refine p20 (hN:=hN) ?_; refine p10 (hN:=hN) ?_; refine p01 (hN:=hN) e6 ?_; refine p01 (hN:=hN) e1 ?_; refine p10 (hN:=hN) ?_; refine p20 (hr:=fun w=>ex_bin (by kernel_rfl) (by kernel_rfl) rfl (geq_run hkn w)) (hN:=hN) ?_; refine p10 (hN:=hN) ?_; refine bd ?_; refine bd ?_; refine bd ?_; refine bd ?_; refine bd ?_; refine bd ?_; refine bd ?_; refine bd ?_; refine bd ?_; refine bd ?_; refine bd ?_; refine p20 (hN:=hN) ?_; refine p20 (hN:=hN) ?_; exact ai rfl
       intro W1 x hC hall; have hf : putE x a0 [(0,some 23),(1,some 24),(2,some 25),(3,some 26),(4,some 27),(5,some 28),(6,some 29),(7,some 30),(8,some 31),(9,some 32),(10,some 33),(11,some 34),(12,some 35),(13,some 36),(14,some 37),(15,some 38),(16,some 39),(17,some 40),(18,some 41),(19,some 42),(20,some 43),(21,some 44),(22,some 45),(23,some 46),(24,some 47),(25,some 48),(26,some 49),(27,some 50),(28,some 51),(29,some 52),(30,some 53),(31,some 54),(32,some 55),(33,some 56),(34,some 57)] = { tmps:=#[.slice (some ⟨g,0,none⟩) n cap,.slice (some ad) n c,undef,undef,u4,.slice (some ⟨g,0,none⟩) (n + 12) cap,.int .i64 (k : Int),.slice (some ⟨g,0,none⟩) n cap,.int .i64 (n : Int),.slice (some ad) n c,.int .i64 (n : Int),.bool false,.slice (some ⟨g,0,none⟩) n cap,.slice (some ad) n c,.int .i64 (n : Int),.int .i64 ((n : Int) + 12),.slice (some ⟨g,0,none⟩) (n + 12) cap,.int .i64 (k : Int),.slice (some ⟨g,0,none⟩) (n + 12) cap,.int .i64 ((n : Int) + 12),.bool true,u21,u22,x 0,x 1,x 2,x 3,x 4,x 5,x 6,x 7,x 8,x 9,x 10,x 11,x 12,x 13,x 14,x 15,x 16,x 17,x 18,x 19,x 20,x 21,x 22,x 23,x 24,x 25,x 26,x 27,x 28,x 29,x 30,x 31,x 32,x 33,x 34],defers:=[] }:=by subst ha; kernel_rfl
       rw [hf]; have e34 : x 34 = .bool false:=hall 34 (of_decide_eq_true (by kernel_rfl)); have hbW:=hC.below; clear hall hC hf ha hN e1 e5 e6 CG CA m1 m2 n1 n2; rw [e34]; have HW2:=Lib.hid (HW.out.trans (hbW.mono HW.out.size))
       go_wp2
       go_roundw
       case rel=>exact ⟨k + 1,by omega,by go_num,HW2.out⟩
       case measure=>simp [intOf]; omega
     · obtain ⟨d,hd⟩ : ∃ d,k = n + d:=⟨k - n,by omega⟩
       have hnk : n ≤ k:=by omega
       have hk63 : k < 9223372036854775808:=by omega
       obtain ⟨v,h4,hmq⟩:=HM.out d (by omega); rw [← hd] at h4; obtain ⟨va,vb,rfl,t1,t2⟩:=h4; obtain ⟨gm,ee,hro⟩:=hmq.below HW.out; obtain ⟨rfl,rfl⟩ : va = .bool false ∧ vb = .slice (some ⟨gm,0,none⟩) 1 1:=by simpa using ee
       have hO2:=HO.out.below HW.out
       have hqm : Nv wr (.agg #[.bool false,.slice (some ⟨gm,0,none⟩) 1 1]) false [8000024 + d]:=⟨_,_,rfl,Own.row32 hro⟩
       have hsr:=fun (W : World) (v2 : Value) (hW : Below wr.heap.size wr W) (h2 : Nv W v2 false [8000024 + d])=>sameInt_nv (hqm.below hW) h2 (by simp); have HK:=Lib.hid hsr
       have CG : CellsZ wr ((⟨g,0,none⟩ : Addr).add (k * 2)) (.bool false) (.slice (some ⟨gm,0,none⟩) 1 1):=by
         rw [add_at]; exact ⟨hO2.cell t1,hO2.cell t2⟩
       have HD:=Lib.hid (And.intro hd hnk); clear hsr hqm hO2 hro ee t1 t2 hmq hd hnk
       go_wp2
       obtain ⟨hd,hnk⟩:=HD.out; refine fp (G:=fun a=>Code.wp _ _ _ a _) ?_; intro a0 ha; have hN : a0.tmps.size = 58:=by subst ha; kernel_rfl
       have e1 : a0.eval (.tmp 1) = .slice A n c := Te9 ha; have e5 : a0.eval (.tmp 5) = .slice (some ⟨g, 0, none⟩) (n + 12) cap := Te9 ha; have e6 : a0.eval (.tmp 6) = .int .i64 (k : Int) := Te9 ha; refine dc hN wr.heap.size
         [kIs (.int .i64 (k : Int)),kIs (.slice A n c),kIs (.int .i64 (n : Int)),kIs (.bool false),kIs (.bool false),kIs (undef),kIs (undef),kIs (undef),kIs (undef),kIs (undef),kIs (undef),kIs (undef),kIs (undef),kIs (undef),kIs (undef),kIs (.bool false),kIs (.bool false),kIs (.int .i64 (k : Int)),kIs (.slice A n c),kIs (.int .i64 (n : Int)),kIs (.bool true),kIs (.bool true),kIs (.slice (some ⟨g,0,none⟩) (n + 12) cap),kIs (.int .i64 (k : Int)),kIs (.pointer (some ((⟨g,0,none⟩ : Addr).add (k * 2)))),kIs (.agg #[.bool false,.slice (some ⟨gm,0,none⟩) 1 1]),kIs (.int .i64 (k : Int)),kIs (.slice A n c),kIs (.int .i64 (n : Int)),kIs (.int .i64 (d : Int)),kN false [8000024 + d],kIs (.bool true),kIs (.bool false),kIs (.bool false),kIs (.bool false)]
         [ [],[],[(1,some 24)],[(0,some 23),(2,some 25)],[(3,some 26)],[],[],[(5,some 28),(6,some 29)],[(7,some 30)],[],[],[(9,some 32),(10,some 33)],[(11,some 34)],[(8,some 31),(12,some 35)],[(13,some 36)],[(4,some 27),(14,some 37)],[(15,some 38)],[],[],[(18,some 41)],[(17,some 40),(19,some 42)],[(20,some 43)],[],[],[(22,some 45),(23,some 46)],[(24,some 47)],[],[],[(27,some 50)],[(26,some 49),(28,some 51)],[(29,some 52)],[(25,some 48),(30,some 53)],[(31,some 54)],[(21,some 44),(32,some 55)],[(16,some 39),(33,some 56)] ]
         [(0,some 23),(1,some 24),(2,some 25),(3,some 26),(4,some 27),(5,some 28),(6,some 29),(7,some 30),(8,some 31),(9,some 32),(10,some 33),(11,some 34),(12,some 35),(13,some 36),(14,some 37),(15,some 38),(16,some 39),(17,some 40),(18,some 41),(19,some 42),(20,some 43),(21,some 44),(22,some 45),(23,some 46),(24,some 47),(25,some 48),(26,some 49),(27,some 50),(28,some 51),(29,some 52),(30,some 53),(31,some 54),(32,some 55),(33,some 56),(34,some 57)] [(4,false),(16,false),(21,true)] [5,6,7,8,9,10,11,12,13,14] (by kernel_rfl) (by kernel_rfl) (by kernel_rfl) (by kernel_rfl) (by kernel_rfl) (by kernel_rfl) (by kernel_rfl) (Nat.le_refl _) ?_ ?_
       ·
           refine p01 (hN:=hN) e6 ?_; refine p01 (hN:=hN) e1 ?_; refine p10 (hN:=hN) ?_; refine p20 (hr:=fun w=>ex_bin (by kernel_rfl) (by kernel_rfl) rfl (lss_no hnk w)) (hN:=hN) ?_; refine p10 (hN:=hN) ?_; refine bd ?_; refine bd ?_; refine bd ?_; refine bd ?_; refine bd ?_; refine bd ?_; refine bd ?_; refine bd ?_; refine bd ?_; refine bd ?_; refine p20 (hN:=hN) ?_; refine p10 (hN:=hN) ?_; refine p01 (hN:=hN) e6 ?_; refine p01 (hN:=hN) e1 ?_; refine p10 (hN:=hN) ?_; refine p20 (hr:=fun w=>ex_bin (by kernel_rfl) (by kernel_rfl) rfl (geq_yes hnk w)) (hN:=hN) ?_; refine p10 (hN:=hN) ?_; refine p01 (hN:=hN) e5 ?_; refine p01 (hN:=hN) e6 ?_; refine aa rfl rfl (gi (by omega) hN rfl rfl rfl) ?_; refine aa rfl rfl (gj CG hN rfl rfl) ?_; refine p01 (hN:=hN) e6 ?_; refine p01 (hN:=hN) e1 ?_; refine p10 (hN:=hN) ?_; refine p20 (hr:=fun w=>ex_bin (by kernel_rfl) (by kernel_rfl) rfl (sub_run hd hk63 w)) (hN:=hN) ?_; refine aa rfl rfl (st_call [.val (.int .i64 1),.dep 29] hN (by kernel_rfl) (by kernel_rfl) (by kernel_rfl) rfl fun w x hC hdeps=>told_markZ (show x 29 = .int .i64 (d : Int) from hdeps (29,some 52) (by simp)) (by omega)) ?_; refine aa rfl rfl (an rfl rfl rfl fun hC h1 h2=>told_sameZ HK hC.below h1 h2) ?_; refine p10 (hN:=hN) ?_; refine p20 (hN:=hN) ?_; refine p20 (hN:=hN) ?_; exact ai rfl
       intro W1 x hC hall; have hf : putE x a0 [(0,some 23),(1,some 24),(2,some 25),(3,some 26),(4,some 27),(5,some 28),(6,some 29),(7,some 30),(8,some 31),(9,some 32),(10,some 33),(11,some 34),(12,some 35),(13,some 36),(14,some 37),(15,some 38),(16,some 39),(17,some 40),(18,some 41),(19,some 42),(20,some 43),(21,some 44),(22,some 45),(23,some 46),(24,some 47),(25,some 48),(26,some 49),(27,some 50),(28,some 51),(29,some 52),(30,some 53),(31,some 54),(32,some 55),(33,some 56),(34,some 57)] = { tmps:=#[.slice (some ⟨g,0,none⟩) n cap,.slice A n c,undef,undef,u4,.slice (some ⟨g,0,none⟩) (n + 12) cap,.int .i64 (k : Int),.slice (some ⟨g,0,none⟩) n cap,.int .i64 (n : Int),.slice A n c,.int .i64 (n : Int),.bool false,.slice (some ⟨g,0,none⟩) n cap,.slice A n c,.int .i64 (n : Int),.int .i64 ((n : Int) + 12),.slice (some ⟨g,0,none⟩) (n + 12) cap,.int .i64 (k : Int),.slice (some ⟨g,0,none⟩) (n + 12) cap,.int .i64 ((n : Int) + 12),.bool true,u21,u22,x 0,x 1,x 2,x 3,x 4,x 5,x 6,x 7,x 8,x 9,x 10,x 11,x 12,x 13,x 14,x 15,x 16,x 17,x 18,x 19,x 20,x 21,x 22,x 23,x 24,x 25,x 26,x 27,x 28,x 29,x 30,x 31,x 32,x 33,x 34],defers:=[] }:=by subst ha; kernel_rfl
       rw [hf]; have e34 : x 34 = .bool false:=hall 34 (of_decide_eq_true (by kernel_rfl)); have hbW:=hC.below; clear hall hC hf ha hN e1 e5 e6 CG HK hd hnk; rw [e34]; have HW2:=Lib.hid (HW.out.trans (hbW.mono HW.out.size))
       go_wp2
       go_roundw
       case rel=>exact ⟨k + 1,by omega,by go_num,HW2.out⟩
       case measure=>simp [intOf]; omega
   · have hlt' : ¬ (k : Int) < (n : Int) + 12:=by omega
     go_wp2
     go_returns
     exact ⟨rfl,HW.out⟩
end Go.Proofs.YtifgcjpgelbelaaGreatDoor
set_option linter.unusedVariables false
set_option linter.unusedSimpArgs false
namespace Go.Proofs.YtifgcjpgelbelaaGreatDoor
open Go.RowKit
def LensZ (W : World) (A : Option Addr) (l : List Nat) : Prop:=∀ j n,l[j]? = some n → ∃ ad,A = some ad ∧ ∃ B c,W.cell? ((ad.add (j * 2)).add 1) = some (.slice B n c)
theorem RawZs.lens {W : World} {A : Option Addr} {L : List (Bool × List Nat)} (h : RawZs W A L) : LensZ W A (L.map (·.2.length)):=fun j n hj=>by
 rw [List.getElem?_map] at hj
 cases hL : L[j]? with
 | none=>rw [hL] at hj; cases hj
 | some x =>
   rw [hL] at hj; obtain rfl:=Option.some.inj hj; obtain ⟨ad,e,A1,c1,_,h1,_,_⟩:=h j x hL; exact ⟨ad,e,A1,c1,h1⟩
theorem great_raw {w : World} {A : Option Addr} {c0 : Nat} {ns : List Nat} (hL : LensZ w A ns) (hns : ∀ n ∈ ns,n ≤ 35184372087808) (hlen : ns.length < 9223372036854775808) :
   Calls Tryz.prog 43 #[.slice A ns.length c0] w fun e w'=>e = .returned (.bool (decide (1000 < ns.sum) || decide (20 < ns.length))) ∧ w' = w:=by
 have HL:=Lib.hid hL
 have HNS:=Lib.hid hns
 obtain ⟨l,hl⟩ : ∃ l,l = ns.length:=⟨_,rfl⟩
 rw [← hl] at hlen ⊢
 have HLL:=Lib.hid hl
 obtain ⟨r,hr⟩ : ∃ r,r = (decide (1000 < ns.sum) || decide (20 < l)):=⟨_,rfl⟩
 rw [← hr]
 have HR:=Lib.hid hr
 clear hL hns hl hr
 go_enter Tryz.func43,Tryz.ntmps43
 go_wp2
 go_loop [3,4] (fun nv iv=>∃ (k s : Nat),k ≤ l ∧ iv = .int .i64 (k : Int) ∧ nv = .int .i64 (s : Int) ∧ Hid (s = (ns.take k).sum ∧ s ≤ 35184372088808)) (fun _ iv=>l - (intOf iv).toNat)
 case atStart=>exact ⟨0,0,Nat.zero_le _,rfl,rfl,by simp [Hid]⟩
 case round =>
   obtain ⟨k,s,hk,rfl,rfl,HS⟩:=hrel; have hs2 : (s : Int) ≤ 35184372088808:=by have:=HS.out.2; omega
   have hs0 : 0 ≤ (s : Int):=by omega
   by_cases hlt : k < l
   · have hlt' : decide ((k : Int) < (l : Int)) = true:=decide_eq_true (by omega)
     by_cases hgt : 1000 < s
     · have hgt' : ¬ s ≤ 1000:=by omega
       have hr : r = true:=HR.out.trans (by rw [decide_eq_true (show 1000 < ns.sum by have:=sum_take_le ns k; have:=HS.out.1; omega)]; rfl); clear HR; subst hr
       go_wp2
       go_ret
       exact ⟨rfl,rfl⟩
     · have hgt' : s ≤ 1000:=by omega
       have hkL : k < ns.length:=by rw [← HLL.out]; exact hlt
       obtain ⟨m,hm⟩ : ∃ m,m = ns[k]:=⟨_,rfl⟩
       obtain ⟨ad,rfl,B,c,hce⟩:=HL.out k m (by rw [List.getElem?_eq_getElem hkL,hm]); have hce : w.cell? { block:=(ad.add (k * 2)).block,off:=(ad.add (k * 2)).off + 1 } = some (.slice B m c):=hce; have hm2 : m ≤ 35184372087808:=HNS.out m (by rw [hm]; exact List.getElem_mem hkL)
       have hsum : s + m = (ns.take (k + 1)).sum:=by
         rw [List.take_add_one,List.getElem?_eq_getElem hkL,Option.toList_some,List.sum_append_nat,← HS.out.1,← hm]; simp
       have HSUM:=Lib.hid hsum; have hm3 : (m : Int) ≤ 35184372087808:=by omega
       have hm0 : 0 ≤ (m : Int):=by omega
       have hs3 : (s : Int) ≤ 1000:=by omega
       have HM2:=Lib.hid (show s + m ≤ 35184372088808 by omega); clear hsum hm hm2
       go_wp2
       go_round
       case rel=>exact ⟨k + 1,s + m,by omega,by go_num,by go_num,⟨HSUM.out,HM2.out⟩⟩
       case measure=>simp [intOf]; omega
   · have hk' : k = l:=by omega
     have es : s = ns.sum:=by rw [HS.out.1,hk',HLL.out,List.take_length]
     have hr : r = (decide (1000 < s) || decide (20 < l)):=by rw [HR.out,← es]
     clear HR es hk' hs2 hs0
     by_cases hgt : 1000 < s
     · have er : r = true:=hr.trans (by rw [decide_eq_true hgt]; rfl); clear hr; subst er
       go_wp2
       go_ret
       exact ⟨rfl,rfl⟩
     · have er : r = decide (20 < l):=hr.trans (by rw [decide_eq_false hgt]; rfl); clear hr; subst er
       go_wp2
       go_ret
       have e1 : decide ((1000 : Int) < (s : Int)) = false:=decide_eq_false (by omega); have e2 : decide ((20 : Int) < (l : Int)) = decide (20 < l):=decide_eq_decide.2 (by omega); exact ⟨by simp [e1,e2],rfl⟩
end Go.Proofs.YtifgcjpgelbelaaGreatDoor
set_option linter.unusedVariables false
set_option linter.unusedSimpArgs false
namespace Go.Proofs.YtifgcjpgelbelaaGreatDoor
open Go.RowKit
theorem ft {W0 w : World} {B S0 k : Nat} {F : FuncId} {x : Nat → Value} {v1 u1 : Value} {z : Int} (H : Hid (∀ W,Below B W0 W → Calls Tryz.prog F #[u1] W (TellsZ W k z))) (hb : Below B W0 w) (h1 : (kIs u1).sem S0 x v1 w) : Calls Tryz.prog F #[v1] w (Told (kZ k z) S0 x w):=by
 obtain rfl : v1 = u1:=h1
 exact tz (H.out w hb)
def zsOf (L : List (Bool × List Nat)) : List (Nat × Int):=L.map fun q=>(q.2.length + 1,zOf (val q.2) q.1)
theorem zsOf_length (L : List (Bool × List Nat)) : (zsOf L).length = L.length:=by unfold zsOf; rw [List.length_map]
theorem zsOf_at {L : List (Bool × List Nat)} {j : Nat} {q : Nat × Int} (h : (zsOf L)[j]? = some q) : ∃ p,L[j]? = some p ∧ q = (p.2.length + 1,zOf (val p.2) p.1):=by
 unfold zsOf at h
 rw [List.getElem?_map] at h
 obtain ⟨p,hp,rfl⟩:=Option.map_eq_some_iff.1 h
 exact ⟨p,hp,rfl⟩
theorem RawZs.zcs {W : World} {A : Option Addr} {L : List (Bool × List Nat)} (h : RawZs W A L) (hl : ∀ q ∈ L,q.2.length ≤ 1000) : ZCs W.heap.size W A (zsOf L):=fun j q hq=>by
 obtain ⟨p,hp,rfl⟩:=zsOf_at hq
 obtain ⟨ad,e,A1,c1,h1,h2,h3,h4⟩:=h j p hp
 have hlt:=cell_lt h1
 rw [dw] at hlt
 have:=hl p (List.mem_of_getElem? hp)
 exact ⟨ad,e,hlt,_,_,h1,h2,p.1,A1,c1,p.2,rfl,h3,h4,by omega,val_lt32 h4,rfl⟩
theorem RawZs.ints {W : World} {A : Option Addr} {L : List (Bool × List Nat)} (h : RawZs W A L) (hl : ∀ q ∈ L,q.2.length ≤ 1000) : IntsA W A (L.map fun q=>(val q.2,q.1)):=fun j p hp=>by
 rw [List.getElem?_map] at hp
 obtain ⟨q,hq,rfl⟩:=Option.map_eq_some_iff.1 hp
 obtain ⟨ad,e,A1,c1,h1,h2,h3,h4⟩:=h j q hq
 exact ⟨ad,e,A1,c1,q.2,h2,h3,h4,Nat.le_trans (hl q (List.mem_of_getElem? hq)) (by decide),rfl⟩
theorem RawZs.smalls {W : World} {A : Option Addr} {L : List (Bool × List Nat)} (h : RawZs W A L) : ∀ q ∈ L,small 4294967296 q.2:=fun q hq=>by
 obtain ⟨j,hj⟩:=List.getElem?_of_mem hq
 obtain ⟨_,_,_,_,_,_,_,h4⟩:=h j q hj
 exact h4
theorem LentZ.zs {W : World} {B g n cap : Nat} {L : List (Bool × List Nat)} {E : List Value} (h : LentZ W B L E) (ho : Own2 W B (.slice (some ⟨g,0,none⟩) n cap) n E) (hs : ∀ q ∈ L,small 4294967296 q.2) (hl : ∀ q ∈ L,q.2.length ≤ 1000) : Zs W g (zsOf L):=by
 refine ⟨L.map fun q=>(val q.2,q.1),fun j p hp=>?_,?_,fun q hq=>?_⟩
 · rw [List.getElem?_map] at hp; obtain ⟨q,hq,rfl⟩:=Option.map_eq_some_iff.1 hp; obtain ⟨v,⟨a,b,e,h1,h2⟩,h3⟩:=h j q hq; obtain ⟨g1,c1,e1,h4,h5⟩:=h3.ln; rw [e] at e1; injection e1 with e1; injection e1 with e1; injection e1 with e1 e2; injection e2 with e2 _; subst e1; subst e2; have hm:=List.mem_of_getElem? hq; exact ⟨_,_,_,ho.cell h1,ho.cell h2,rd_of h4.pre (hs q hm) (by have:=hl q hm; omega)⟩
 · unfold zsOf; rw [List.map_map,List.map_map]; rfl
 · unfold zsOf at hq; obtain ⟨p,hp,rfl⟩:=List.mem_map.1 hq
   show (zOf (val p.2) p.1).natAbs < _
   rw [ci]; exact val_lt32 (hs p hp)
theorem pow_sum {k : Nat} : ∀ {l : List (Nat × Int)},(∀ q ∈ l,q.2.natAbs < 1000000000 ^ k) → (zsum (l.map (·.2))).natAbs ≤ l.length * 1000000000 ^ k:=by
 intro l h
 unfold zsum
 suffices H : ∀ (l : List (Nat × Int)) (a : Int),(∀ q ∈ l,q.2.natAbs < 1000000000 ^ k) → ((l.map (·.2)).foldl (· + ·) a).natAbs ≤ a.natAbs + l.length * 1000000000 ^ k by
   have:=H l 0 h
   simpa using this
 intro l
 induction l with
 | nil=>intro a _; simp
 | cons q l ih =>
   intro a h; have h1:=ih (a + q.2) fun p hp=>h p (List.mem_cons_of_mem _ hp); have h2:=h q (List.mem_cons_self ..); simp only [List.map_cons,List.foldl_cons,List.length_cons]; have h3 : (a + q.2).natAbs ≤ a.natAbs + q.2.natAbs:=Int.natAbs_add_le a q.2; rw [Nat.add_mul]; omega
theorem pow_prod : ∀ {l : List (Nat × Int)},(∀ q ∈ l,q.2.natAbs < 1000000000 ^ q.1) → (zprod (l.map (·.2))).natAbs ≤ 1000000000 ^ (l.map (·.1)).sum:=by
 intro l h
 unfold zprod
 suffices H : ∀ (l : List (Nat × Int)) (a : Int) (k : Nat),a.natAbs ≤ 1000000000 ^ k → (∀ q ∈ l,q.2.natAbs < 1000000000 ^ q.1) → ((l.map (·.2)).foldl (· * ·) a).natAbs ≤ 1000000000 ^ (k + (l.map (·.1)).sum) by
   have:=H l 1 0 (by simp) h
   simpa using this
 intro l
 induction l with
 | nil=>intro a k ha _; simpa using ha
 | cons q l ih =>
   intro a k ha h; have h2:=h q (List.mem_cons_self ..)
   have h3 : (a * q.2).natAbs ≤ 1000000000 ^ (k + q.1):=by
     rw [Int.natAbs_mul,Nat.pow_add]; exact Nat.mul_le_mul ha (Nat.le_of_lt h2)
   have h1:=ih (a * q.2) (k + q.1) h3 fun p hp=>h p (List.mem_cons_of_mem _ hp); simp only [List.map_cons,List.foldl_cons,List.sum_cons]; rw [← Nat.add_assoc]; exact h1
theorem zsOf_lt {L : List (Bool × List Nat)} (hs : ∀ q ∈ L,small 4294967296 q.2) : ∀ q ∈ zsOf L,q.2.natAbs < 1000000000 ^ q.1:=fun q hq=>by
 obtain ⟨j,hj⟩:=List.getElem?_of_mem hq
 obtain ⟨p,hp,rfl⟩:=zsOf_at hj
 show (zOf (val p.2) p.1).natAbs < _
 rw [ci]
 exact val_lt32 (hs p (List.mem_of_getElem? hp))
theorem zsOf_fst {L : List (Bool × List Nat)} : ((zsOf L).map (·.1)).sum = (L.map (·.2.length)).sum + L.length:=by
 unfold zsOf
 induction L with
 | nil=>rfl
 | cons q L ih =>
   simp only [List.map_cons,List.sum_cons,List.length_cons] at ih ⊢; omega
theorem len_le_sum {L : List (Bool × List Nat)} : ∀ q ∈ L,q.2.length ≤ (L.map (·.2.length)).sum:=by
 induction L with
 | nil=>intro q h; cases h
 | cons p L ih =>
   intro q hq; simp only [List.map_cons,List.sum_cons]; rcases List.mem_cons.1 hq with rfl | hq
   · omega
   · have:=ih q hq; omega
theorem sum_take_le2 (ns : List Nat) (k : Nat) : (ns.take k).sum ≤ ns.sum:=by
 have h:=congrArg List.sum (List.take_append_drop k ns)
 rw [List.sum_append_nat] at h
 omega
theorem sums_lt {L : List (Bool × List Nat)} {M : Nat} (hM1 : 1002 ≤ M) (hs : ∀ q ∈ L,small 4294967296 q.2) (h20 : L.length ≤ 20) (hsum : (L.map (·.2.length)).sum ≤ 1000) (l : List (Nat × Int)) (hl : ∀ q ∈ l,q ∈ zsOf L) (hn : l.length ≤ 21) : (zsum (l.map (·.2))).natAbs < 1000000000 ^ M:=by
 obtain ⟨E,hE1,hE2⟩ : ∃ E,E ≤ 1001 ∧ 1001 ≤ E:=⟨1001,Nat.le_refl _,Nat.le_refl _⟩
 have h:=pow_sum (k:=E) (l:=l) fun q hq=>by
   obtain ⟨j,hj⟩:=List.getElem?_of_mem (hl q hq); obtain ⟨p,hp,e⟩:=zsOf_at hj; have h1:=zsOf_lt hs q (hl q hq); have h2:=len_le_sum p (List.mem_of_getElem? hp); refine Nat.lt_of_lt_of_le h1 (pow_le ?_); rw [e]
   show p.2.length + 1 ≤ E
   omega
 have h2 : l.length * 1000000000 ^ E ≤ 21 * 1000000000 ^ E:=Nat.mul_le_mul_right _ hn
 have h3 : 0 < 1000000000 ^ E:=Nat.pow_pos (by decide)
 have h4 : 21 * 1000000000 ^ E < 1000000000 ^ (E + 1):=by rw [Nat.pow_succ]; omega
 exact Nat.lt_of_lt_of_le (Nat.lt_of_le_of_lt h (Nat.lt_of_le_of_lt h2 h4)) (pow_le (by omega))
theorem prods_le {L : List (Bool × List Nat)} {M : Nat} (hM1 : 1021 ≤ M) (hs : ∀ q ∈ L,small 4294967296 q.2) (h20 : L.length ≤ 20) (hsum : (L.map (·.2.length)).sum ≤ 1000) (i : Nat) : (zprod (((zsOf L).take i).map (·.2))).natAbs < 1000000000 ^ M:=by
 have h:=pow_prod (l:=(zsOf L).take i) fun q hq=>zsOf_lt hs q (List.mem_of_mem_take hq)
 have h2 : (((zsOf L).take i).map (·.1)).sum ≤ 1020:=by
   rw [List.map_take]; have:=sum_take_le2 ((zsOf L).map (·.1)) i; rw [zsOf_fst] at this; omega
 refine Nat.lt_of_le_of_lt h ?_
 exact Nat.lt_of_lt_of_le (Nat.pow_lt_pow_right (by decide) (Nat.lt_succ_of_le (Nat.le_refl _))) (pow_le (by omega))
theorem zprod_snoc (l : List Int) (z : Int) : zprod (l ++ [z]) = zprod l * z:=by unfold zprod; rw [List.foldl_append]; rfl
theorem take_snoc {α : Type} {l : List α} {i : Nat} (hi : i < l.length) : l.take (i + 1) = l.take i ++ [l[i]]:=by rw [List.take_add_one,List.getElem?_eq_getElem hi]; rfl
theorem qsum_is (l : List (Nat × Int)) : qsum l = zsum (l.map (·.2)):=rfl
theorem qprod_is (l : List (Nat × Int)) : qprod l = zprod (l.map (·.2)):=rfl
theorem some_abs {k : Nat} {l : List Int} (hl : l.length ≤ 20) (h : ∀ z ∈ l,z.natAbs < 1000000000 ^ k) : (l.map Int.natAbs).sum < 1000000000 ^ (k + 1):=by
 have H : ∀ l : List Int,(∀ z ∈ l,z.natAbs < 1000000000 ^ k) → (l.map Int.natAbs).sum ≤ l.length * 1000000000 ^ k:=by
   intro l
   induction l with
   | nil=>intro _; simp
   | cons z l ih =>
     intro h; have h1:=ih fun y hy=>h y (List.mem_cons_of_mem _ hy); have h2:=h z (List.mem_cons_self ..); simp only [List.map_cons,List.sum_cons,List.length_cons]; rw [Nat.add_mul]; omega
 have h1:=H l h
 have h2 : l.length * 1000000000 ^ k ≤ 20 * 1000000000 ^ k:=Nat.mul_le_mul_right _ hl
 have h3 : 0 < 1000000000 ^ k:=Nat.pow_pos (by decide)
 rw [Nat.pow_succ]; omega
theorem sums_told {W : World} {B g n cap c : Nat} {A : Option Addr} {L : List (Bool × List Nat)} {E : List Value} (hR : RawZs W A L) (hn : n = L.length) (h20 : n ≤ 20) (hsum : (L.map (·.2.length)).sum ≤ 1000) (hA : LentZ W B L E) (hO : ∀ W',Below W.heap.size W W' → ∀ i u,E[i]? = some u → W'.cell? ⟨g,i,none⟩ = some u) (hZ : ∀ W',Below W.heap.size W W' → Zs W' g (zsOf L)) {M : Nat} (hM1 : 1021 ≤ M) (hM2 : M ≤ 1080) :
   ∃ zA zM zG : Int, ∀ W', Below W.heap.size W W' →
     Calls Tryz.prog 47 #[.slice (some ⟨g,0,none⟩) n cap] W' (TellsZ W' M zA) ∧ Calls Tryz.prog 48 #[.slice A n c] W' (TellsZ W' M zA) ∧
     Calls Tryz.prog 49 #[.slice (some ⟨g,0,none⟩) n cap] W' (TellsZ W' M zM) ∧ Calls Tryz.prog 50 #[.slice A n c] W' (TellsZ W' M zM) ∧
     Calls Tryz.prog 51 #[.slice (some ⟨g,0,none⟩) n cap] W' (TellsZ W' M zG) ∧ Calls Tryz.prog 52 #[.slice A n c] W' (TellsZ W' M zG):=by
 have hl : ∀ q ∈ L,q.2.length ≤ 1000:=fun q hq=>Nat.le_trans (len_le_sum q hq) hsum
 have hs:=hR.smalls
 have hlen:=zsOf_length L
 have h20' : L.length ≤ 20:=by omega
 have hk : ∀ q ∈ zsOf L,q.1 ≤ 1001:=fun q hq=>by
   obtain ⟨j,hj⟩:=List.getElem?_of_mem hq; obtain ⟨p,hp,rfl⟩:=zsOf_at hj; have:=hl p (List.mem_of_getElem? hp)
   show p.2.length + 1 ≤ 1001
   omega
 have hkM : ∀ q ∈ zsOf L,q.1 ≤ M:=fun q hq=>by have:=hk q hq; omega
 have hacc : ∀ i,i ≤ (zsOf L).length → (qsum ((zsOf L).take i)).natAbs < 1000000000 ^ M:=fun i _=>by
   rw [qsum_is]; exact sums_lt (by omega) hs h20' hsum _ (fun q hq=>List.mem_of_mem_take hq) (by rw [List.length_take]; omega)
 have hacp : ∀ i,i ≤ (zsOf L).length → (qprod ((zsOf L).take i)).natAbs < 1000000000 ^ M:=fun i _=>by
   rw [qprod_is]; exact prods_le hM1 hs h20' hsum i
 have hg : zgcd ((zsOf L).map (·.2)) < 1000000000 ^ M:=by
   have hb : ∀ p ∈ (L.map fun q=>(val q.2,q.1)),p.1 < 1000000000 ^ M:=fun p hp=>by
     obtain ⟨q,hq,rfl⟩:=List.mem_map.1 hp; exact Nat.lt_of_lt_of_le (val_lt32 (hs q hq)) (pow_le (by have:=hl q hq; omega))
   have:=gcds_lt (L:=L.map fun q=>(val q.2,q.1)) (Nat.pow_pos (by decide)) hb; rw [gcds_map] at this; rw [show (zsOf L).map (·.2) = (L.map fun q=>(val q.2,q.1)).map fun p=>zOf p.1 p.2 by unfold zsOf; rw [List.map_map,List.map_map]; rfl]; exact this
 refine ⟨zsum ((zsOf L).map (·.2)),zprod ((zsOf L).map (·.2)),(zgcd ((zsOf L).map (·.2)) : Nat),fun W' hW=>?_⟩
 have hZ':=hZ W' hW
 have hR':=hR.below hW
 have hC:=hR'.zcs hl
 refine ⟨?_,?_,?_,?_,?_,?_⟩
 · by_cases h0 : L = []
   · subst h0; obtain rfl : n = 0:=hn; exact dh z_add0 (by omega) rfl
   · rw [hn,← hlen]; refine z_add M hZ' (fun i hi=>?_) (fun h=>h0 (by have:=congrArg List.length h; rw [hlen] at this; exact List.length_eq_zero_iff.1 this)) hkM (by omega) (by omega)
     obtain ⟨E0,hE1,hE2⟩ : ∃ E,E ≤ 1001 ∧ 1001 ≤ E:=⟨1001,Nat.le_refl _,Nat.le_refl _⟩
     have hab:=some_abs (k:=E0) (l:=((zsOf L).take (i + 1)).map (·.2)) (by rw [List.length_map,List.length_take]; omega) fun z hz=>by
       obtain ⟨q,hq,rfl⟩:=List.mem_map.1 hz; have hq':=List.mem_of_mem_take hq; exact Nat.lt_of_lt_of_le (zsOf_lt hs q hq') (pow_le (Nat.le_trans (hk q hq') hE2))
     have hle : ∀ l : List Int,(zsum l).natAbs ≤ (l.map Int.natAbs).sum:=by
       intro l; unfold zsum
       suffices H : ∀ (l : List Int) (a : Int),(l.foldl (· + ·) a).natAbs ≤ a.natAbs + (l.map Int.natAbs).sum by simpa using H l 0
       intro l
       induction l with
       | nil=>intro a; simp
       | cons z l ih=>intro a; have:=ih (a + z); have:=Int.natAbs_add_le a z; simp only [List.foldl_cons,List.map_cons,List.sum_cons]; omega
     have h1:=hle (((zsOf L).map (·.2)).take i); rw [take_snoc hi,List.map_append,List.map_append,List.sum_append_nat,List.map_take] at hab; have h2 : (([(zsOf L)[i]].map (·.2)).map Int.natAbs).sum = ((zsOf L)[i].2).natAbs:=by simp
     rw [h2] at hab; refine Nat.lt_of_lt_of_le ?_ (pow_le (show E0 + 1 ≤ M by omega)); omega
 · have:=r2_addC (Lib.hid hM2) (by omega) (c0:=c) hC hkM (by omega) hacc; rw [hlen,← hn,qsum_is] at this; exact this
 · by_cases h0 : L = []
   · subst h0; obtain rfl : n = 0:=hn; exact dh z_mul0 (by omega) rfl
   · rw [hn,← hlen]; refine z_mul M hZ' (fun i hi=>?_) (fun h=>h0 (by have:=congrArg List.length h; rw [hlen] at this; exact List.length_eq_zero_iff.1 this)) hkM (by omega) (by omega) (by omega); have h1:=prods_le hM1 hs h20' hsum i; have h2:=prods_le hM1 hs h20' hsum (i + 1); rw [take_snoc hi,List.map_append] at h2; rw [show [(zsOf L)[i]].map (·.2) = [(zsOf L)[i].2] from rfl,zprod_snoc,Int.natAbs_mul] at h2; rw [List.map_take] at h1 h2; exact ⟨h1,h2⟩
 · have:=r2_mulC (Lib.hid hM2) (by omega) (c0:=c) hC hkM (by omega) hacp; rw [hlen,← hn,qprod_is] at this; exact this
 · rw [hn,← hlen]; exact z_gcd M hZ' hkM (by omega) (by omega)
 · have hI:=hR'.ints hl
   have hb : ∀ p ∈ (L.map fun q=>(val q.2,q.1)),p.1 < 1000000000 ^ M:=fun p hp=>by
     obtain ⟨q,hq,rfl⟩:=List.mem_map.1 hp; exact Nat.lt_of_lt_of_le (val_lt32 (hs q hq)) (pow_le (by have:=hl q hq; omega))
   have h:=refGcdA (c0:=c) hI hb (by omega) (by rw [List.length_map]; omega); rw [List.length_map,← hn] at h; rw [gcds_map] at h; rw [show (zsOf L).map (·.2) = (L.map fun q=>(val q.2,q.1)).map fun p=>zOf p.1 p.2 by unfold zsOf; rw [List.map_map,List.map_map]; rfl] at hg ⊢; exact h.mono fun _ _ q=>tellsZ_nat hg q
theorem lawNumSums_few {w : World} {A : Option Addr} {c : Nat} {L : List (Bool × List Nat)} (hR : RawZs w A L) (h63 : L.length < 9223372036854775808) (h20 : L.length ≤ 20) (hsum : (L.map (·.2.length)).sum ≤ 1000) (htab : Tab w) (hw : 2 ≤ w.heap.size) :
   Calls Tryz.prog 6 #[.slice A L.length c] w fun e w'=>e = .returned (.bool true) ∧ Below w.heap.size w w':=by
 have hl : ∀ q ∈ L,q.2.length ≤ 1000:=fun q hq=>Nat.le_trans (len_le_sum q hq) hsum
 have hgr:=great_raw (c0:=c) hR.lens (fun n hn=>by obtain ⟨q,hq,rfl⟩:=List.mem_map.1 hn; have:=hl q hq; omega) (by rw [List.length_map]; exact h63)
 rw [List.length_map,decide_eq_false (show ¬ 1000 < (L.map (·.2.length)).sum by omega),decide_eq_false (show ¬ 20 < L.length by omega)] at hgr
 have hln:=lentNums_any (c:=c) hR h20 hl
 have HGR:=Lib.hid hgr
 have HLN:=Lib.hid hln
 have HR:=Lib.hid (show _ ∧ _ ∧ _ ∧ _ from ⟨hR,hsum,htab,hw⟩)
 have HL:=Lib.hid hl
 obtain ⟨n,hn⟩ : ∃ n,n = L.length:=⟨_,rfl⟩
 rw [← hn] at HGR HLN ⊢
 have HN:=Lib.hid (show n = L.length ∧ n ≤ 20 from ⟨hn,by omega⟩)
 clear hgr hln hR h63 h20 hsum htab hw hl hn
 go_enter Tryz.func6,Tryz.ntmps6
 go_wp2_with fail
 refine HGR.out.mono ?_
 rintro e w' ⟨rfl,rfl⟩
 go_wp2_with fail
 refine HLN.out.mono ?_
 rintro e w1 ⟨g,cap,E,rfl,ho,ha,hm,hb⟩
 obtain ⟨hR,hsum,htab,hw⟩:=HR.out
 have hsm:=hR.smalls
 have hR1:=hR.below hb
 have ho2:=fun (W : World) (hW : Below w1.heap.size w1 W)=>ho.below hW
 have hO : ∀ W',Below w1.heap.size w1 W' → ∀ i u,E[i]? = some u → W'.cell? ⟨g,i,none⟩ = some u:=fun W' hW i u hu=>(ho2 W' hW).cell hu
 obtain ⟨zA,zM,zG,hT⟩:=sums_told (c:=c) (cap:=cap) hR1 HN.out.1 HN.out.2 hsum ha hO (fun W' hW=>(ha.below hW).zs (ho2 W' hW) hsm HL.out) (M:=1020 + 1) (Nat.le_refl _) (by decide)
 have HA1:=Lib.hid fun (W : World) (hW : Below w1.heap.size w1 W)=>(hT W hW).1
 have HA2:=Lib.hid fun (W : World) (hW : Below w1.heap.size w1 W)=>(hT W hW).2.1
 have HM1:=Lib.hid fun (W : World) (hW : Below w1.heap.size w1 W)=>(hT W hW).2.2.1
 have HM2:=Lib.hid fun (W : World) (hW : Below w1.heap.size w1 W)=>(hT W hW).2.2.2.1
 have HG1:=Lib.hid fun (W : World) (hW : Below w1.heap.size w1 W)=>(hT W hW).2.2.2.2.1
 have HG2:=Lib.hid fun (W : World) (hW : Below w1.heap.size w1 W)=>(hT W hW).2.2.2.2.2
 have HK:=Lib.hid fun (W : World) (hW : Below w1.heap.size w1 W)=>keptNums_any (c:=c) (ho2 W hW) (ha.below hW) (hm.below hW) (hR1.below hW) HN.out.1 HN.out.2 HL.out
 have HW:=Lib.hid fun (W : World) (hW : Below w1.heap.size w1 W)=>awake2_any W (htab.below (hb.trans (hW.mono hb.size)) hw) (Nat.le_trans hw (Nat.le_trans hb.size hW.size))
 have HB:=Lib.hid hb
 clear hT hO ho2 hR1 hsm hR hsum htab hw ho ha hm hb HGR HLN
 go_upto_region 4 with fail
 rename_i hK
 have HKK:=Lib.hid hK
 clear hK
 refine fp (G:=fun a=>Code.wp _ _ _ a _) ?_
 intro a0 ha
 have hN : a0.tmps.size = 36:=by subst ha; kernel_rfl
 have hD : a0.defers = []:=by subst ha; rfl
 have e0 : a0.eval (.tmp 0) = .slice A n c:=Te9 ha
 have e3 : a0.eval (.tmp 3) = .slice (some ⟨g,0,none⟩) n cap:=Te9 ha
 refine dc hN w1.heap.size
   [kIs ((.slice (some ⟨g,0,none⟩) n cap)),kZ (1020 + 1) zA,kIs ((.slice A n c)),kZ (1020 + 1) zA,kIs (.bool true),kIs (.bool true),kIs ((.slice (some ⟨g,0,none⟩) n cap)),kZ (1020 + 1) zM,kIs ((.slice A n c)),kZ (1020 + 1) zM,kIs (.bool true),kIs (.bool true),kIs (.bool true),kIs ((.slice (some ⟨g,0,none⟩) n cap)),kZ (1020 + 1) zG,kIs ((.slice A n c)),kZ (1020 + 1) zG,kIs (.bool true),kIs (.bool true),kIs (.bool true),kIs ((.slice (some ⟨g,0,none⟩) n cap)),kIs ((.slice A n c)),kIs (.bool true),kIs (.bool true),kIs (.bool true),kIs (.bool true),kIs (.bool true),kIs (.bool true)]
   [ [],[(0,some 9)],[],[(2,some 11)],[(1,some 10),(3,some 12)],[(4,some 13)],[],[(6,some 15)],[],[(8,some 17)],[(7,some 16),(9,some 18)],[(5,some 14),(10,some 19)],[(11,some 20)],[],[(13,some 22)],[],[(15,some 24)],[(14,some 23),(16,some 25)],[(12,some 21),(17,some 26)],[(18,some 27)],[],[],[(20,some 29),(21,some 30)],[(19,some 28),(22,some 31)],[(23,some 32)],[],[(24,some 33),(25,some 34)],[(26,some 35)] ]
   [(0,some 9),(1,some 10),(2,some 11),(3,some 12),(4,some 13),(5,some 14),(6,some 15),(7,some 16),(8,some 17),(9,some 18),(10,some 19),(11,some 20),(12,some 21),(13,some 22),(14,some 23),(15,some 24),(16,some 25),(17,some 26),(18,some 27),(19,some 28),(20,some 29),(21,some 30),(22,some 31),(23,some 32),(24,some 33),(25,some 34),(26,some 35),(27,some 2)] [(5,true),(12,true),(19,true),(24,true)] [] (by kernel_rfl) (by kernel_rfl) (by kernel_rfl) (by kernel_rfl) (by kernel_rfl) (by kernel_rfl) (by kernel_rfl) (Nat.le_refl _) ?_ ?_
 ·
   refine p01 (hN:=hN) e3 ?_; refine aa rfl rfl (cg hN rfl rfl fun hC h1=>ft HA1 hC.below h1) ?_; refine p01 (hN:=hN) e0 ?_; refine aa rfl rfl (cg hN rfl rfl fun hC h1=>ft HA2 hC.below h1) ?_; refine aa rfl rfl (an rfl rfl rfl fun hC h1 h2=>ti (z_same h1 h2 rfl)) ?_; refine p10 (hN:=hN) ?_; refine p01 (hN:=hN) e3 ?_; refine aa rfl rfl (cg hN rfl rfl fun hC h1=>ft HM1 hC.below h1) ?_; refine p01 (hN:=hN) e0 ?_; refine aa rfl rfl (cg hN rfl rfl fun hC h1=>ft HM2 hC.below h1) ?_; refine aa rfl rfl (an rfl rfl rfl fun hC h1 h2=>ti (z_same h1 h2 rfl)) ?_; refine p20 (hN:=hN) ?_; refine p10 (hN:=hN) ?_; refine p01 (hN:=hN) e3 ?_; refine aa rfl rfl (cg hN rfl rfl fun hC h1=>ft HG1 hC.below h1) ?_; refine p01 (hN:=hN) e0 ?_; refine aa rfl rfl (cg hN rfl rfl fun hC h1=>ft HG2 hC.below h1) ?_; refine aa rfl rfl (an rfl rfl rfl fun hC h1 h2=>ti (z_same h1 h2 rfl)) ?_; refine p20 (hN:=hN) ?_; refine p10 (hN:=hN) ?_; refine p01 (hN:=hN) e3 ?_; refine p01 (hN:=hN) e0 ?_; refine aa rfl rfl (an rfl rfl rfl fun hC h1 h2=>told_kept HK hC.below h1 h2) ?_; refine p20 (hN:=hN) ?_; refine p10 (hN:=hN) ?_; refine aa rfl rfl (st_call0 [] rfl rfl fun hC=>ti (HW.out _ hC.below)) ?_; refine p20 (hN:=hN) ?_; refine p10 (hN:=hN) ?_; exact ai rfl
 intro W x hC hall
 refine then_n ?_
 obtain ⟨a1,ha⟩ : ∃ a,a = putE x a0 [(0,some 9),(1,some 10),(2,some 11),(3,some 12),(4,some 13),(5,some 14),(6,some 15),(7,some 16),(8,some 17),(9,some 18),(10,some 19),(11,some 20),(12,some 21),(13,some 22),(14,some 23),(15,some 24),(16,some 25),(17,some 26),(18,some 27),(19,some 28),(20,some 29),(21,some 30),(22,some 31),(23,some 32),(24,some 33),(25,some 34),(26,some 35),(27,some 2)]:=⟨_,rfl⟩
 rw [← ha]
 have hD1:=defers_behind ha hD
 have bb1:=HB.out.trans (hC.below.mono HB.out.size)
 have e1:=(az (t:=2) (i:=27) ha).trans (show x 27 = .bool true from hall 27 (of_decide_eq_true (by kernel_rfl)))
 refine HKK.out _ _ ?_
 repeat first | apply gn | apply go
 refine wp_ret ?_
 repeat (refine then_r ?_)
 exact ret_one (t:=2) rfl hD1 e1 ⟨rfl,bb1⟩
theorem lawNumSums_great {w : World} {A : Option Addr} {c : Nat} {L : List (Bool × List Nat)} (hR : RawZs w A L) (h63 : L.length < 9223372036854775808) (hns : ∀ q ∈ L,q.2.length ≤ 35184372087808) (hno : ¬ (L.length ≤ 20 ∧ (L.map (·.2.length)).sum ≤ 1000)) (htab : Tab w) (hw : 2 ≤ w.heap.size) :
   Calls Tryz.prog 6 #[.slice A L.length c] w fun e w'=>e = .returned (.bool true) ∧ Below w.heap.size w w':=by
 have hgr:=great_raw (c0:=c) hR.lens (fun n hn=>by obtain ⟨q,hq,rfl⟩:=List.mem_map.1 hn; exact hns q hq) (by rw [List.length_map]; exact h63)
 have e : (decide (1000 < (L.map (·.2.length)).sum) || decide (20 < (L.map (·.2.length)).length)) = true:=by
   rw [List.length_map]
   by_cases h : 20 < L.length
   · rw [decide_eq_true h,Bool.or_true]
   · rw [decide_eq_true (show 1000 < (L.map (·.2.length)).sum by omega)]; rfl
 rw [e,List.length_map] at hgr
 have haw:=awake2_any w htab hw
 have HGR:=Lib.hid hgr
 have HAW:=Lib.hid haw
 obtain ⟨n,hn⟩ : ∃ n,n = L.length:=⟨_,rfl⟩
 rw [← hn] at HGR ⊢
 clear hgr haw hR h63 hns hno htab hw hn e
 go_enter Tryz.func6,Tryz.ntmps6
 go_wp2_with fail
 refine HGR.out.mono ?_
 rintro e w' ⟨rfl,rfl⟩
 go_wp2_with fail
 refine HAW.out.mono ?_
 rintro e w1 ⟨rfl,hb⟩
 go_wp2
 go_ret
 exact ⟨rfl,hb⟩
end Go.Proofs.YtifgcjpgelbelaaGreatDoor
set_option linter.unusedVariables false
set_option linter.unusedSimpArgs false
namespace Go.Proofs.YtifgcjpgelbelaaGreatDoor
open Go.ChangeShapes Go.WideShapes Go.ChangeAt Go.WideMaps Go.WideElems Go.RowKit
open Go.ChangeMaps (setBlock shut_map_nil open_string shut_string keptBut_setBlock frozen?_setBlock heap_setBlock_same)
theorem apiInts_ok : Tryz.prog.readableRec 53 = true ∧ 53 < Tryz.prog.types.size:=⟨by kernel_rfl,of_decide_eq_true (by kernel_rfl)⟩
theorem numSums_lifted (os : Os) (started : os.Started) (H : Type) (enc : TypeId × Value → H) :
   ReturnsInHanded {} Tryz.checked os 6 .any (fun w args => (Rows.numSumsSpec.pre enc Tryz.prog Tryz.f6 [] false w args ∧ laidMetH Tryz.prog laid3 w) ∧ sizedMet enc Tryz.prog Tryz.f6 (OpenSpec.ofChange Rows.numSumsSpec) false w args)
     (Rows.numSumsSpec.post enc Tryz.prog Tryz.f6 false true false false):=by
 refine returnsInHanded_of_change_and (C := Tryz.checked) (X := fun w _ => laidMetH Tryz.prog laid3 w) (fun _ _ _ hh h => h.of_heap hh) own started (by kernel_rfl) Tryz.func6
   (ChangeSpec.witness_shaped (enc:=enc) (C:=Tryz.checked) (os:=os) (X:=fun w _=>laidMetH Tryz.prog laid3 w) false (World.doorLaid Tryz.prog 400 os) #[.slice none 0 0] 8 rfl (World.shaped_of_RefB (by kernel_rfl) (by kernel_rfl)) (by kernel_rfl) (by kernel_rfl) (by kernel_rfl) (door_met os _)) ?_
 intro W base args ds gs before hval0 hW _ hsz hL _
 have hval : ∀ (j : Nat) t v,Tryz.f6.params[j]? = some t → args[j]? = some v → Value.okWide Tryz.prog W .any base t v:=hval0
 have hW':=hW
 obtain ⟨p,q,hA0,hV,rfl,hfz,hnd⟩:=hW
 have hA : DataW.TrodAll enc Tryz.prog W 0 (fun _=>true) true Tryz.f6.params.toList args.toList ds p:=hA0
 have hlt:=hA.lt
 rw [ Tryz.params6 ] at hA hval hsz
 have hAk:=hA
 obtain ⟨v0,d0,rfl,rfl,h0⟩:=trodAll_one hA
 obtain ⟨rfl,rfl⟩:=trodVars_none hV
 obtain ⟨A,c,L,rfl,hR,h63,hI⟩:=open_apiInts2 (hval 0 53 v0 rfl rfl) h0
 have hns:=ints_short hsz (j:=0) (d:=d0) rfl rfl hI
 obtain ⟨ht,hw3⟩:=tab_of_laid hL
 clear hA0 hval0 hsz
 simp only [List.append_nil] at hW'
 have e1 : Rows.numSumsSpec.fn H ([d0] ++ []) = { results:=[.lit (.bool true)],args:=[d0] }:=by simp [Rows.numSumsSpec]
 have hlaw : Calls Tryz.prog 6 #[.slice A L.length c] W fun e w'=>e = .returned (.bool true) ∧ Below W.heap.size W w':=by
   by_cases hb : L.length ≤ 20 ∧ (L.map (·.2.length)).sum ≤ 1000
   · exact lawNumSums_few hR h63 hb.1 hb.2 ht hw3
   · exact lawNumSums_great hR h63 hns hb ht hw3
 refine hlaw.mono fun e W' ⟨he,hb⟩=>?_
 subst he
 refine ⟨_,rfl,_,_,_,[],p,[],hW',?_,?_,?_,hb.frame _,fun h=>by cases h⟩
 · rw [e1]; exact trodAll_mk1 (shut_bool Tryz.underlying4 true)
 · rw [e1]; exact below_trodAll hb (fun t ht=>by
     have : t = 53:=by simpa using ht
     rw [this]; exact apiInts_ok) hAk hlt
 · rw [e1]; rfl
theorem numSums_said : Rows.NumSumsSaid :=
 OpenClaim.holds_of_wide 6 Tryz.f6 rfl rfl rfl rfl rfl rfl rfl ⟨rfl, rfl, rfl, rfl, rfl⟩ rfl rfl rfl rfl rfl (by kernel_rfl) Tryz.func6 (by kernel_rfl)
   (of_decide_eq_true (by kernel_rfl)) (by unfold Func.isWrapper; first | (rw [if_pos (by decide +kernel)]; kernel_rfl) | (rw [if_neg (by decide +kernel)]; exact ⟨rfl,rfl⟩))
   (fun os started H enc _=>numSums_lifted os started H enc)
theorem numSums_card : Rows.NumSumsCardSaid :=
 Claim7.holds_tied_plain_at .later [] [.data, .data, .data] true (true, Rows.numSumsCard.stood.harness.2) false
   numSums_said (fun _ h=>by cases h) (by kernel_rfl) (fun _ h=>by cases h) numSums_row_tie rfl ⟨rfl,rfl⟩ (by kernel_rfl) rfl
   (fun f fn hf hfn=>by
     obtain rfl : f = 6:=Option.some.inj ((show Tryz.prog.funcNamed "whetstone/whetstonelaw02.NumSums" = some 6 by kernel_rfl).symm.trans hf) |>.symm; obtain rfl : fn = Tryz.f6:=(Option.some.inj (Tryz.func6.symm.trans hfn)).symm
     exact ⟨by kernel_rfl,fun j t ht=>by
       rw [ Tryz.params6 ] at ht; have hm : t ∈ [ 53 ]:=by simpa using Array.mem_of_getElem? ht
       have hall : ([ 53 ].all fun u=>!Tryz.prog.wantsStandIn u) = true:=by kernel_rfl
       exact (show Tryz.prog.wantsStandIn t = false by simpa using List.all_eq_true.1 hall t hm)⟩)
   (by kernel_rfl)
theorem numSums_proved : Rows.NumSumsCardSaid:=numSums_card
end Go.Proofs.YtifgcjpgelbelaaGreatDoor

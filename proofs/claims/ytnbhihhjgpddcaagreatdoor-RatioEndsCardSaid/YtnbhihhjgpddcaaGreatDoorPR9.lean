/- The answers of stage 3: Ratios and numbers that came in, of at most 8 digits a number, whatever they are: The answers of stage 3 over ratios that came in, whatever they are: The answers of stage 3: Package ratio over ratios that came in, whatever they are: The answers of stage 3 over ratios that came in: The answers of stage 3: Ratios that came in whose numbers are not right: A ratio that came in, whatever it is, of at most 8 digits a number: Of and Whole of numbers that came in and are not right, on both sides: Of and Whole of any numbers that came in, of at most 8 digits: Contracts of whetstonekit.mark, LentLimbs, KeptLimbs, OverLimbs: Numbers and ratios lent: Ratios lent: -/
import Derived.Test.YtnbhihhjgpddcaaGreatDoorPR8
import Derived.Test.YtnbhihhjgpddcaaGreatDoorPR7
import Derived.Test.YtnbhihhjgpddcaaGreatDoorPR1
import Derived.Test.YtnbhihhjgpddcaaGreatDoorPR3
import Derived.Test.YtnbhihhjgpddcaaGreatDoorPR4
import Derived.Lib.MinMax
import Derived.Deep.QuietTactic
import Derived.BigQuiet
set_option maxRecDepth 100000
set_option maxHeartbeats 16000000
set_option linter.unusedVariables false
set_option linter.unusedSimpArgs false
namespace Go.Proofs.YtnbhihhjgpddcaaGreatDoor
open Go.RowKit
theorem mul2_of {a b : Int} (h1 : a.natAbs < 1000000000 ^ 19) (h2 : b.natAbs < 1000000000 ^ 19) : Mul2 a b:=by
 refine ⟨Nat.lt_of_lt_of_le h1 (pow_le (by decide)),?_⟩
 rw [Int.natAbs_mul]
 have h:=Nat.mul_lt_mul'' h1 h2
 rw [← Nat.pow_add] at h
 exact Nat.lt_of_lt_of_le h (pow_le (by decide))
theorem ref_mul {w : World} {v1 v2 : Value} {zx zy : Int} (h1 : Zr w v1 19 (zx)) (h2 : Zr w v2 19 (zy)) :
   Calls Tryz.prog 49 #[v1,v2] w (TellsZ w 39 ((zx) * (zy))):=by
 have U1:=Lib.hid h1.lt
 obtain ⟨y1,z1,rfl,H1⟩:=h1.op
 have U2:=Lib.hid h2.lt
 obtain ⟨y2,z2,rfl,H2⟩:=h2.op
 go_enter Tryz.func49,Tryz.ntmps49
 repeat apply wp_seq
 refine mf fun K HK=>?_
 go_wp2
 refine HK.out _ _ (then_n ?_)
 refine md (G:=fun W=>Code.wp _ _ _ _ W) ?_
 intro W_0 bb_0 K0 K1 K2
 have f1_0:=H1.out _ _ _ bb_0 K0
 have f2_0:=H2.out _ _ _ bb_0 K1
 have R_0:=ll K2
 clear K0 K1 K2
 refine ly (G:=fun a=>Code.wp _ _ _ a _) 9 ?_
 intro a_0 ha hN_0 hD_0
 have e2_0:=lu ha 2 w.heap.size
 have e3_0:=lu ha 3 (w.heap.size + 1)
 have e4_0:=lu ha 4 (w.heap.size + 1 + 1)
 repeat first | apply lw | apply lx
 refine mg bb_0 R_0 [kZ 19 (zx),kZ 19 (zy),kZRs [(19,zx),(19,zy)],kZ 39 ((zx) * (zy)),kResZ (w.heap.size + 1 + 1) 39 ((zx) * (zy))] [[],[],[0,1],[2],[3]] [5,6,7,8,999] [] [] ?_ ?_
 ·
   refine aj (hG:=(by simp only [List.mem_singleton]; omega)) f1_0 e2_0 ?_; refine aj (hG:=(by simp only [List.mem_singleton]; omega)) f2_0 e3_0 ?_; refine aa rfl rfl (eu rfl rfl rfl) ?_; refine aa rfl rfl (ac rfl rfl fun hC h1=>tz (r2_mul2 h1 (mul2_of U1.out U2.out))) ?_; refine aa rfl rfl (ci R_0 e4_0 rfl rfl) ?_; exact ae rfl
 intro W x a1 hC hall ha hN1 hD1 bb1
 obtain ⟨cs,hg,hP⟩:=me hall 4
 have e1:=ab (t:=4) ha e4_0
 repeat first | apply lw | apply lx
 refine wp_ret ?_
 repeat (refine then_r ?_)
 exact co (t:=4) rfl hD1 e1 hg hP fun v hv=>⟨v,rfl,hv,bb1⟩
theorem ref_mulT {w : World} {v1 v2 : Value} {j k : Nat} {x y : Int} (h1 : Zr w v1 j x) (h2 : Zr w v2 k y) (hj : j ≤ 9) (hk : k ≤ 9) : Calls Tryz.prog 49 #[v1,v2] w (TellsZ w 18 (x * y)):=by
 have b1 : x.natAbs < 1000000000 ^ 9:=by obtain ⟨_,_,_,_,_,h⟩:=h1; exact Nat.lt_of_lt_of_le h (pow_le hj)
 have b2 : y.natAbs < 1000000000 ^ 9:=by obtain ⟨_,_,_,_,_,h⟩:=h2; exact Nat.lt_of_lt_of_le h (pow_le hk)
 have hb : (x * y).natAbs < 1000000000 ^ 18:=by
   rw [Int.natAbs_mul]; have h:=Nat.mul_lt_mul'' b1 b2; rw [← Nat.pow_add] at h; exact h
 exact (ref_mul (h1.mono (by omega)) (h2.mono (by omega))).mono fun _ _ ⟨v,e,hz,hb'⟩=>⟨v,e,hz.tight hb,hb'⟩
def Nv (W : World) (v : Value) (b : Bool) (xs : List Nat) : Prop:=∃ A c,v = .agg #[.bool b,.slice A xs.length c] ∧ Row W A (u32s xs)
def Qv (W : World) (v : Value) (b : Bool) (xs : List Nat) (b' : Bool) (ys : List Nat) : Prop:=∃ A c A' c',v = .agg #[.bool b,.slice A xs.length c,.bool b',.slice A' ys.length c'] ∧ Row W A (u32s xs) ∧ Row W A' (u32s ys)
theorem Nv.below {W W' : World} {v : Value} {b : Bool} {xs : List Nat} (h : Nv W v b xs) (hb : Below W.heap.size W W') : Nv W' v b xs:=by
 obtain ⟨A,c,h1,h2⟩:=h
 exact ⟨A,c,h1,h2.below hb⟩
theorem Qv.below {W W' : World} {v : Value} {b b' : Bool} {xs ys : List Nat} (h : Qv W v b xs b' ys) (hb : Below W.heap.size W W') : Qv W' v b xs b' ys:=by
 obtain ⟨A,c,A',c',h1,h2,h3⟩:=h
 exact ⟨A,c,A',c',h1,h2.below hb,h3.below hb⟩
theorem Nv.stored {W W' : World} {g : Nat} {v : Value} {b : Bool} {xs : List Nat} (h : Nv W v b xs) (hs : Stored g W W') : Nv W' v b xs:=by
 obtain ⟨A,c,h1,h2⟩:=h
 exact ⟨A,c,h1,Stored.row h2 hs⟩
theorem Qv.stored {W W' : World} {g : Nat} {v : Value} {b b' : Bool} {xs ys : List Nat} (h : Qv W v b xs b' ys) (hs : Stored g W W') : Qv W' v b xs b' ys:=by
 obtain ⟨A,c,A',c',h1,h2,h3⟩:=h
 exact ⟨A,c,A',c',h1,Stored.row h2 hs,Stored.row h3 hs⟩
def kN (b : Bool) (xs : List Nat) : PK:=.p (fun v w=>Nv w v b xs) (fun _ _ _ h hb=>h.below hb) (fun _ _ _ _ h hs=>h.stored hs)
def kQ (b : Bool) (xs : List Nat) (b' : Bool) (ys : List Nat) : PK:=.p (fun v w=>Qv w v b xs b' ys) (fun _ _ _ h hb=>h.below hb) (fun _ _ _ _ h hs=>h.stored hs)
theorem Qv.two {W : World} {A A' : Option Addr} {l c l' c' : Nat} {s s' b b' : Bool} {xs ys : List Nat} (h : Qv W (.agg #[.bool s,.slice A l c,.bool s',.slice A' l' c']) b xs b' ys) : Nv W (.agg #[.bool s,.slice A l c]) b xs ∧ Nv W (.agg #[.bool s',.slice A' l' c']) b' ys:=by
 obtain ⟨B,d,B',d',e,h1,h2⟩:=h
 injection e with e; injection e with e
 injection e with e0 e; injection e with e1 e; injection e with e2 e; injection e with e3 _
 injection e0 with e0; injection e2 with e2; injection e1 with q1 q2 q3; injection e3 with q4 q5 q6
 subst e0; subst e2; subst q1; subst q2; subst q3; subst q4; subst q5; subst q6
 exact ⟨⟨A,c,rfl,h1⟩,⟨A',c',rfl,h2⟩⟩
theorem sign_of {b : Bool} {xs : List Nat} (h : right xs) (h0 : xs = [] → b = false) : decide (zOf (val xs) b < 0) = b:=by
 rw [fc]; unfold sgn
 cases b with
 | false=>rfl
 | true =>
   refine decide_eq_true fun e=>?_; have hne : xs ≠ []:=fun h1=>by have:=h0 h1; cases this
   have h2:=fx h hne; have h3 : 0 < 1000000000 ^ (xs.length - 1):=Nat.pow_pos (by decide); omega
theorem Nv.zr {W : World} {v : Value} {b : Bool} {xs : List Nat} (h : Nv W v b xs) (hs : small 4294967296 xs) (hl : xs.length ≤ 8) (hr : right xs) (h0 : xs = [] → b = false) : Zr W v 9 (zOf (val xs) b):=by
 obtain ⟨A,c,rfl,h2⟩:=h
 exact ⟨A,_,c,by rw [sign_of hr h0],by rw [bk]; exact ⟨_,_,xs,rfl,h2,hr,by omega,rfl⟩,by rw [bk]; exact Nat.lt_of_lt_of_le (val_lt32 hs) (pow_le (by omega))⟩
def RN (b : Bool) (xs : List Nat) : Prop:=right xs ∧ (xs = [] → b = false)
theorem gd {w : World} {v : Value} {b : Bool} {xs : List Nat} (h : Nv w v b xs) (hs : small 4294967296 xs) (hl : xs.length ≤ 8) (hn : ¬ RN b xs) : Calls Tryz.prog 52 #[v] w (SaysB w false):=by
 obtain ⟨A,c,rfl,hr⟩:=h
 have hR:=fun (W : World) (hW : Below w.heap.size w W)=>refRight (c:=c) (hr.below hW) hs (by omega)
 have HR:=Lib.hid hR
 clear hR hr hs hl
 by_cases h1 : right xs
 · have h2 : xs = [] ∧ b = true:=by
     refine Classical.byContradiction fun h3=>hn ⟨h1,fun h4=>?_⟩
     cases b with
     | false=>rfl
     | true=>exact absurd ⟨h4,rfl⟩ h3
   obtain ⟨rfl,rfl⟩:=h2; have H1:=Lib.hid h1; clear hn h1
   go_enter Tryz.func52,Tryz.ntmps52
   go_wp2_with fail
   refine (HR.out _ (bal (Below.refl _ _) _)).mono ?_; rintro e w1 ⟨he,rfl⟩
   obtain rfl : e = .returned (.bool true):=by
     rcases he with ⟨_,he⟩ | ⟨hn,_⟩
     · exact he
     · exact absurd H1.out hn
   clear he
   go_wp2
   go_ret
   exact ⟨rfl,bal (Below.refl _ _) _⟩
 · have H1:=Lib.hid h1; clear hn h1
   go_enter Tryz.func52,Tryz.ntmps52
   go_wp2_with fail
   refine (HR.out _ (bal (Below.refl _ _) _)).mono ?_; rintro e w1 ⟨he,rfl⟩
   obtain rfl : e = .returned (.bool false):=by
     rcases he with ⟨hn,_⟩ | ⟨_,he⟩
     · exact absurd hn H1.out
     · exact he
   clear he
   go_wp2
   go_ret
   exact ⟨rfl,bal (Below.refl _ _) _⟩
def LocQ (W : World) (g : Nat) (b : Bool) (xs : List Nat) (b' : Bool) (ys : List Nat) : Prop:=∃ A c A' c',Holds_ W g #[.bool b,.slice A xs.length c,.bool b',.slice A' ys.length c'] ∧ Row W A (u32s xs) ∧ Row W A' (u32s ys)
def LocN (W : World) (g : Nat) (b : Bool) (xs : List Nat) : Prop:=∃ A c,Holds_ W g #[.bool b,.slice A xs.length c] ∧ Row W A (u32s xs)
theorem Reg.locQ {B : Nat} {W0 w : World} {G : List Nat} (h : Reg B W0 G w) {g : Nat} (hg : g ∉ G) {b b' : Bool} {xs ys : List Nat} (hl : LocQ W0 g b xs b' ys) : LocQ w g b xs b' ys:=by
 obtain ⟨A,c,A',c',h1,h2,h3⟩:=hl
 exact ⟨A,c,A',c',h.holdsG hg h1,h.row h2,h.row h3⟩
theorem Reg.locN {B : Nat} {W0 w : World} {G : List Nat} (h : Reg B W0 G w) {g : Nat} (hg : g ∉ G) {b : Bool} {xs : List Nat} (hl : LocN W0 g b xs) : LocN w g b xs:=by
 obtain ⟨A,c,h1,h2⟩:=hl
 exact ⟨A,c,h.holdsG hg h1,h.row h2⟩
section
variable {G : List Nat} {S0 B : Nat} {ks : List PK} {a0 : Act} {i : Nat} {N : Nat} {W0 : World} {T : TypeId} {pos : String} {af : Array Edge} {gu : Option (Nat × Bool)} {b b' : Bool} {xs ys : List Nat}
theorem be {d t g : Nat} (hl : LocQ W0 g b xs b' ys)  (hp : a0.eval (.tmp t) = .pointer (some ⟨g,0,none⟩))   (hi : at_ ks i = kQ b xs b' ys) (hG : g ∉ G:=by simp) (hN : a0.tmps.size = N:=by assumption) (hd : decide (d < N) = true:=by kernel_rfl) :
   PkStep Tryz.prog (Reg B W0 G) S0 ks a0 i { dst:=some d,op:=.load 26 (.tmp t),type:=T,pos:=pos,after:=af,guard:=gu } []:=by
 intro w x hC K hK
 obtain ⟨A,c,A',c',h1,h2,h3⟩:=hC.locQ hG hl
 obtain ⟨m1,m2,m3,m4,_,_,_,_⟩:=h1.four
 refine cb (w':=w) rfl hN hd (ex_load hp (run_load4P m1 m2 m3 m4)) (hK _ _ ?_ ?_)
 · rw [hi]; exact Below.refl _ _
 · rw [hi]; exact ⟨_,_,_,_,rfl,h2,h3⟩
theorem ey {d t g : Nat} (hl : LocN W0 g b xs)  (hp : a0.eval (.tmp t) = .pointer (some ⟨g,0,none⟩))   (hi : at_ ks i = kN b xs) (hG : g ∉ G:=by simp) (hN : a0.tmps.size = N:=by assumption) (hd : decide (d < N) = true:=by kernel_rfl) :
   PkStep Tryz.prog (Reg B W0 G) S0 ks a0 i { dst:=some d,op:=.load 24 (.tmp t),type:=T,pos:=pos,after:=af,guard:=gu } []:=by
 intro w x hC K hK
 obtain ⟨A,c,h1,h2⟩:=hC.locN hG hl
 obtain ⟨m1,m2,_,_⟩:=h1.two
 refine cb (w':=w) rfl hN hd (ex_load hp (run_load m1 m2)) (hK _ _ ?_ ?_)
 · rw [hi]; exact Below.refl _ _
 · rw [hi]; exact ⟨_,_,rfl,h2⟩
theorem dw {d t j g : Nat} (hl : LocQ W0 g b xs b' ys)     (hj : at_ ks j = kIs (.pointer (some ⟨g,0,none⟩))) (hi : at_ ks i = kN b xs) (hG : g ∉ G:=by simp) (hN : a0.tmps.size = N:=by assumption) (hd : decide (d < N) = true:=by kernel_rfl) (ht : decide (t < N) = true:=by kernel_rfl) :
   PkStep Tryz.prog (Reg B W0 G) S0 ks a0 i { dst:=some d,op:=.load 24 (.tmp t),type:=T,pos:=pos,after:=af,guard:=gu } [(j,some t)]:=by
 intro w x hC
 refine ay _ fun hdeps K hK=>?_
 have g1:=hdeps (j,some t) (by simp)
 rw [hj] at g1
 have g2 : x j = .pointer (some ⟨g,0,none⟩):=g1
 have e1 : (putE x a0 [(j,some t)]).eval (.tmp t) = x j:=putE_new _ _ (by rw [hN]; exact of_decide_eq_true ht) (by simp [slotAt])
 obtain ⟨A,c,A',c',h1,h2,_⟩:=hC.locQ hG hl
 obtain ⟨m1,m2,_,_,_,_,_,_⟩:=h1.four
 refine cb (w':=w) rfl (by rw [az,hN]) hd (ex_load (e1.trans g2) (run_load m1 m2)) (hK _ _ ?_ ?_)
 · rw [hi]; exact Below.refl _ _
 · rw [hi]; exact ⟨_,_,rfl,h2⟩
theorem jz {d t j g : Nat} (hl : LocQ W0 g b xs b' ys)     (hj : at_ ks j = kIs (.pointer (some ⟨g,2,none⟩))) (hi : at_ ks i = kN b' ys) (hG : g ∉ G:=by simp) (hN : a0.tmps.size = N:=by assumption) (hd : decide (d < N) = true:=by kernel_rfl) (ht : decide (t < N) = true:=by kernel_rfl) :
   PkStep Tryz.prog (Reg B W0 G) S0 ks a0 i { dst:=some d,op:=.load 24 (.tmp t),type:=T,pos:=pos,after:=af,guard:=gu } [(j,some t)]:=by
 intro w x hC
 refine ay _ fun hdeps K hK=>?_
 have g1:=hdeps (j,some t) (by simp)
 rw [hj] at g1
 have g2 : x j = .pointer (some ⟨g,2,none⟩):=g1
 have e1 : (putE x a0 [(j,some t)]).eval (.tmp t) = x j:=putE_new _ _ (by rw [hN]; exact of_decide_eq_true ht) (by simp [slotAt])
 obtain ⟨A,c,A',c',h1,_,h3⟩:=hC.locQ hG hl
 obtain ⟨_,_,m3,m4,_,_,_,_⟩:=h1.four
 refine cb (w':=w) rfl (by rw [az,hN]) hd (ex_load (e1.trans g2) (run_loadAt m3 m4)) (hK _ _ ?_ ?_)
 · rw [hi]; exact Below.refl _ _
 · rw [hi]; exact ⟨_,_,rfl,h3⟩
end
theorem Qv.op {w : World} {v : Value} {b b' : Bool} {xs ys : List Nat} (h : Qv w v b xs b' ys) : ∃ u1 u2 u3 u4,v = .agg #[u1,u2,u3,u4] ∧ Hid (∀ (W : World) (g : Nat) (T : TypeId),Below w.heap.size w W → W.heap[g]? = some (.cells #[u1,u2,u3,u4] T (0,0)) → LocQ W g b xs b' ys):=by
 obtain ⟨A,c,A',c',rfl,r,r'⟩:=h
 exact ⟨_,_,_,_,rfl,Lib.hid fun W g T bb K=>⟨A,c,A',c',⟨⟨_,K⟩,by simp [noDig]⟩,r.below bb,r'.below bb⟩⟩
section
variable {G : List Nat} {S0 B : Nat} {ks : List PK} {a0 : Act} {i : Nat} {N : Nat} {W0 : World} {T : TypeId} {pos : String} {af : Array Edge} {gu : Option (Nat × Bool)} {b b' : Bool} {xs ys : List Nat}
theorem eb {d t g : Nat} (hl : LocQ W0 g b xs b' ys) (hp : a0.eval (.tmp t) = .pointer (some ⟨g,0,none⟩))   (hi : at_ ks i = kQ b xs b' ys) (hN : a0.tmps.size = N:=by assumption) (hd : decide (d < N) = true:=by kernel_rfl) :
   PkStep Tryz.prog (fun w=>Reg B W0 [g] w ∧ w.heap[g]? = W0.heap[g]?) S0 ks a0 i { dst:=some d,op:=.load 26 (.tmp t),type:=T,pos:=pos,after:=af,guard:=gu } []:=by
 intro w x hC K hK
 obtain ⟨A,c,A',c',h1,h2,h3⟩:=hl
 obtain ⟨m1,m2,m3,m4,_,_,_,_⟩:=(keep_holds hC.2 h1).four
 refine cb (w':=w) rfl hN hd (ex_load hp (run_load4P m1 m2 m3 m4)) (hK _ _ ?_ ?_)
 · rw [hi]; exact Below.refl _ _
 · rw [hi]; exact ⟨_,_,_,_,rfl,hC.1.row h2,hC.1.row h3⟩
end
theorem refNegQ {w : World} {v1 : Value} {a : Rat} {b1 b1' : Bool} {xs1 ys1 : List Nat}  (HT1 : Hid (∀ (W : World) (v : Value),Below w.heap.size w W → Qv W v b1 xs1 b1' ys1 → Calls Tryz.prog 48 #[v] W (TellsP W 9 a.num (a.den : Int)))) (h1 : Qv w v1 b1 xs1 b1' ys1) :
   Calls Tryz.prog 19 #[v1] w (TellsP w 9 (-a.num) (a.den : Int)):=by
 obtain ⟨y1,z1,y1',z1',rfl,H1⟩:=h1.op
 go_enter Tryz.func19,Tryz.ntmps19
 repeat apply wp_seq
 refine mf fun K HK=>?_
 go_wp2
 refine HK.out _ _ (then_n ?_)
 refine mc (G:=fun W=>Code.wp _ _ _ _ W) ?_
 intro W_0 bb_0 K0 K1
 have q1_0:=H1.out _ _ _ bb_0 K0
 have R4_0:=ge K1
 clear K0 K1
 refine ly (G:=fun a=>Code.wp _ _ _ a _) 11 ?_
 intro a_0 ha hN_0 hD_0
 have e1_0:=lu ha 1 w.heap.size
 have e2_0:=lu ha 2 (w.heap.size + 1)
 repeat first | apply lw | apply lx
 obtain ⟨u1,u2,u3,u4,X3⟩ : ∃ u1 u2 u3 u4,Holds_ W_0 (w.heap.size) #[u1,u2,u3,u4]:=by obtain ⟨_,_,_,_,hh,_⟩:=q1_0; exact ⟨_,_,_,_,hh⟩
 refine Wk9 bb_0 X3 2 [0] [kQ b1 xs1 b1' ys1,kP 9 a.num (a.den : Int),kRes (w.heap.size) 9 a.num (a.den : Int)] [[],[0],[1]] [3,4,999] [] [] ?_ ?_
 ·
   refine bj rfl rfl rfl ?_ ?_
   · exact eb q1_0 e1_0 rfl
   refine ah rfl rfl (ac rfl rfl fun hC h1=>tp (HT1.out _ _ (bb_0.trans hC.below) h1)) ?_; refine ah rfl rfl (bd X3 rfl e1_0 rfl rfl) ?_; exact cn rfl
 intro W_1 z a_1 hC hall ha hN_1 hD_1 bb_1
 obtain ⟨X1,X2⟩:=dt (me hall 2)
 have e1_1:=ab ha e1_0
 have e2_1:=ab ha e2_0
 have R4_1:=hC.holdsG (by simp only [List.mem_singleton]; omega) R4_0
 have p1_1:=X1
 have p1'_1:=X2
 clear hC hall X1 X2 X3
 repeat first | apply lw | apply lx
 refine mg bb_1 R4_1 [lp w.heap.size 0,kZ 9 a.num,kZ 9 (-a.num),lp w.heap.size 2,kZ 9 (a.den : Int),kP 9 (-a.num) (a.den : Int),kRes (w.heap.size + 1) 9 (-a.num) (a.den : Int)] [[],[0],[1],[],[3],[2,4],[5]] [5,6,7,8,9,10,999] [] [] ?_ ?_
 ·
   refine p01 e1_1 ?_; refine ag (hG:=(by simp only [List.mem_singleton]; omega)) p1_1 ?_; refine aa rfl rfl (ac rfl rfl fun hC h1=>tz (r2_neg (rr h1) (by decide))) ?_; refine p01 e1_1 ?_; refine ag (hG:=(by simp only [List.mem_singleton]; omega)) p1'_1 ?_; refine aa rfl rfl (cw (k:=9) rfl rfl rfl) ?_; refine aa rfl rfl (bd R4_1 rfl e2_1 rfl rfl) ?_; exact ae rfl
 intro W z a1 hC hall ha hN1 hD1 bb1
 obtain ⟨cs,hgg,hP⟩:=me hall 6
 have i2:=ab (t:=2) ha e2_1
 repeat first | apply lw | apply lx
 refine wp_ret ?_
 repeat (refine then_r ?_)
 exact dl (t:=2) rfl hD1 i2 hgg hP fun v hv=>⟨v,rfl,hv,bb1⟩
theorem refCmpQ {w : World} {v1 v2 : Value} {a b : Rat} {b1 b1' : Bool} {xs1 ys1 : List Nat} {b2 b2' : Bool} {xs2 ys2 : List Nat}  (HT1 : Hid (∀ (W : World) (v : Value),Below w.heap.size w W → Qv W v b1 xs1 b1' ys1 → Calls Tryz.prog 48 #[v] W (TellsP W 9 a.num (a.den : Int)))) (HT2 : Hid (∀ (W : World) (v : Value),Below w.heap.size w W → Qv W v b2 xs2 b2' ys2 → Calls Tryz.prog 48 #[v] W (TellsP W 9 b.num (b.den : Int)))) (h1 : Qv w v1 b1 xs1 b1' ys1) (h2 : Qv w v2 b2 xs2 b2' ys2) :
   Calls Tryz.prog 15 #[v1,v2] w (fun e w'=>e = .returned (.int .i64 (ordI (a.num * (b.den : Int)) (b.num * (a.den : Int)))) ∧ Below w.heap.size w w'):=by
 obtain ⟨y1,z1,y1',z1',rfl,H1⟩:=h1.op
 obtain ⟨y2,z2,y2',z2',rfl,H2⟩:=h2.op
 go_enter Tryz.func15,Tryz.ntmps15
 repeat apply wp_seq
 refine mf fun K HK=>?_
 go_wp2
 refine HK.out _ _ (then_n ?_)
 refine mc (G:=fun W=>Code.wp _ _ _ _ W) ?_
 intro W_0 bb_0 K0 K1
 have q1_0:=H1.out _ _ _ bb_0 K0
 have q2_0:=H2.out _ _ _ bb_0 K1
 clear K0 K1
 refine ly (G:=fun a=>Code.wp _ _ _ a _) 20 ?_
 intro a_0 ha hN_0 hD_0
 have e2_0:=lu ha 2 w.heap.size
 have e3_0:=lu ha 3 (w.heap.size + 1)
 repeat first | apply lw | apply lx
 obtain ⟨u1,u2,u3,u4,X3⟩ : ∃ u1 u2 u3 u4,Holds_ W_0 (w.heap.size) #[u1,u2,u3,u4]:=by obtain ⟨_,_,_,_,hh,_⟩:=q1_0; exact ⟨_,_,_,_,hh⟩
 refine Wk9 bb_0 X3 2 [0] [kQ b1 xs1 b1' ys1,kP 9 a.num (a.den : Int),kRes (w.heap.size) 9 a.num (a.den : Int)] [[],[0],[1]] [5,6,999] [] [] ?_ ?_
 ·
   refine bj rfl rfl rfl ?_ ?_
   · exact eb q1_0 e2_0 rfl
   refine ah rfl rfl (ac rfl rfl fun hC h1=>tp (HT1.out _ _ (bb_0.trans hC.below) h1)) ?_; refine ah rfl rfl (bd X3 rfl e2_0 rfl rfl) ?_; exact cn rfl
 intro W_1 z a_1 hC hall ha hN_1 hD_1 bb_1
 obtain ⟨X1,X2⟩:=dt (me hall 2)
 have e2_1:=ab ha e2_0
 have e3_1:=ab ha e3_0
 have q2_1:=hC.locQ (by simp only [List.mem_singleton]; omega) q2_0
 have p1_1:=X1
 have p1'_1:=X2
 clear hC hall X1 X2 X3
 repeat first | apply lw | apply lx
 obtain ⟨u1,u2,u3,u4,X3⟩ : ∃ u1 u2 u3 u4,Holds_ W_1 (w.heap.size + 1) #[u1,u2,u3,u4]:=by obtain ⟨_,_,_,_,hh,_⟩:=q2_1; exact ⟨_,_,_,_,hh⟩
 refine Wk9 bb_1 X3 2 [0] [kQ b2 xs2 b2' ys2,kP 9 b.num (b.den : Int),kRes (w.heap.size + 1) 9 b.num (b.den : Int)] [[],[0],[1]] [7,8,999] [] [] ?_ ?_
 ·
   refine bj rfl rfl rfl ?_ ?_
   · exact eb q2_1 e3_1 rfl
   refine ah rfl rfl (ac rfl rfl fun hC h1=>tp (HT2.out _ _ (bb_1.trans hC.below) h1)) ?_; refine ah rfl rfl (bd X3 rfl e3_1 rfl rfl) ?_; exact cn rfl
 intro W_2 z a_2 hC hall ha hN_2 hD_2 bb_2
 obtain ⟨X1,X2⟩:=dt (me hall 2)
 have e2_2:=ab ha e2_1
 have e3_2:=ab ha e3_1
 have p1_2:=hC.atR (by simp only [List.mem_singleton]; omega) p1_1
 have p1'_2:=hC.atR (by simp only [List.mem_singleton]; omega) p1'_1
 have p2_2:=X1
 have p2'_2:=X2
 clear hC hall X1 X2 X3
 repeat first | apply lw | apply lx
 refine lm bb_2 [lp w.heap.size 0,kZ 9 a.num,lp (w.heap.size + 1) 2,kZ 9 (b.den : Int),kZ 18 (a.num * (b.den : Int)),lp (w.heap.size + 1) 0,kZ 9 b.num,lp w.heap.size 2,kZ 9 (a.den : Int),kZ 18 (b.num * (a.den : Int)),kIs (.int .i64 (ordI (a.num * (b.den : Int)) (b.num * (a.den : Int)))),kIs (.int .i64 (ordI (a.num * (b.den : Int)) (b.num * (a.den : Int))))] [[],[0],[],[2],[1,3],[],[5],[],[7],[6,8],[4,9],[10]] [9,10,11,12,13,14,15,16,17,18,19,4] [] [] ?_ ?_
 ·
   refine p01 e2_2 ?_; refine ag p1_2 ?_; refine p01 e3_2 ?_; refine ag p2'_2 ?_; refine aa rfl rfl (ai rfl rfl rfl fun hC h1 h2=>tz (ref_mulT (rr h1) (rr h2) (by decide) (by decide))) ?_; refine p01 e3_2 ?_; refine ag p2_2 ?_; refine p01 e2_2 ?_; refine ag p1'_2 ?_; refine aa rfl rfl (ai rfl rfl rfl fun hC h1 h2=>tz (ref_mulT (rr h1) (rr h2) (by decide) (by decide))) ?_; refine aa rfl rfl (ai rfl rfl rfl fun hC h1 h2=>ti (r2_cmp ((rr h1).mono (by decide)) ((rr h2).mono (by decide)))) ?_; refine p10 ?_; exact ae rfl
 intro W z a_3 hC hall ha hN_3 hD_3 bb_3
 have e4_3:=ln ha hall 4 11
 repeat first | apply lw | apply lx
 refine wp_ret ?_
 repeat (refine then_r ?_)
 exact bc (t:=4) rfl hD_3 e4_3 ⟨rfl,bb_3⟩
theorem refFloorQ {w : World} {v1 : Value} {a : Rat} {b1 b1' : Bool} {xs1 ys1 : List Nat}  (HT1 : Hid (∀ (W : World) (v : Value),Below w.heap.size w W → Qv W v b1 xs1 b1' ys1 → Calls Tryz.prog 48 #[v] W (TellsP W 9 a.num (a.den : Int)))) (h1 : Qv w v1 b1 xs1 b1' ys1) :
   Calls Tryz.prog 28 #[v1] w (TellsZ w 40 (zq a.num (a.den : Int))):=by
 obtain ⟨y1,z1,y1',z1',rfl,H1⟩:=h1.op
 go_enter Tryz.func28,Tryz.ntmps28
 repeat apply wp_seq
 refine mf fun K HK=>?_
 go_wp2
 refine HK.out _ _ (then_n ?_)
 refine mc (G:=fun W=>Code.wp _ _ _ _ W) ?_
 intro W_0 bb_0 K0 K1
 have q1_0:=H1.out _ _ _ bb_0 K0
 have R4_0:=ll K1
 clear K0 K1
 refine ly (G:=fun a=>Code.wp _ _ _ a _) 18 ?_
 intro a_0 ha hN_0 hD_0
 have e1_0:=lu ha 1 w.heap.size
 have e2_0:=lu ha 2 (w.heap.size + 1)
 repeat first | apply lw | apply lx
 obtain ⟨u1,u2,u3,u4,X3⟩ : ∃ u1 u2 u3 u4,Holds_ W_0 (w.heap.size) #[u1,u2,u3,u4]:=by obtain ⟨_,_,_,_,hh,_⟩:=q1_0; exact ⟨_,_,_,_,hh⟩
 refine Wk9 bb_0 X3 2 [0] [kQ b1 xs1 b1' ys1,kP 9 a.num (a.den : Int),kRes (w.heap.size) 9 a.num (a.den : Int)] [[],[0],[1]] [6,7,999] [] [] ?_ ?_
 ·
   refine bj rfl rfl rfl ?_ ?_
   · exact eb q1_0 e1_0 rfl
   refine ah rfl rfl (ac rfl rfl fun hC h1=>tp (HT1.out _ _ (bb_0.trans hC.below) h1)) ?_; refine ah rfl rfl (bd X3 rfl e1_0 rfl rfl) ?_; exact cn rfl
 intro W_1 z a_1 hC hall ha hN_1 hD_1 bb_1
 obtain ⟨X1,X2⟩:=dt (me hall 2)
 have e1_1:=ab ha e1_0
 have e2_1:=ab ha e2_0
 have R4_1:=hC.holdsG (by simp only [List.mem_singleton]; omega) R4_0
 have p1_1:=X1
 have p1'_1:=X2
 clear hC hall X1 X2 X3
 repeat first | apply lw | apply lx
 refine lm bb_1 [lp w.heap.size 0,kZ 9 a.num,lp w.heap.size 2,kZ 9 (a.den : Int),kZQ 40 40 (zq a.num (a.den : Int)) (zm a.num (a.den : Int)) 0,kZQ 40 40 (zq a.num (a.den : Int)) (zm a.num (a.den : Int)) 0,kZ 40 (zq a.num (a.den : Int)),kZ 40 (zm a.num (a.den : Int)),kIs (.int .i64 (0)),PK.fresh 2,PK.fresh 2,kPutZ 9 40 (zq a.num (a.den : Int)),kPutZ 10 40 (zm a.num (a.den : Int)),kIs (.int .i64 (0))] [[],[0],[],[2],[1,3],[4],[5],[5],[5],[],[],[9,6],[10,7],[8]] [9,10,11,12,13,8,14,15,16,3,4,999,999,5] [] [] ?_ ?_
 ·
   refine p01 e1_1 ?_; refine ag p1_1 ?_; refine p01 e1_1 ?_; refine ag p1'_1 ?_; refine aa rfl rfl (ai rfl rfl rfl fun hC h1 h2=>tdm (r2_divMod (den_ne a) ((rr h1).mono (by decide)) ((rr h2).mono (by decide)))) ?_; refine aa rfl rfl (bg rfl rfl) ?_; refine ap ext_q ?_; refine ap ext_r ?_; refine ap ext_e ?_; refine ar ?_; refine ar ?_; refine bf ?_; refine bf ?_; refine p10 ?_; exact ae rfl
 intro W_9 z a_2 hC hall ha hN_2 hD_2 bb_2
 obtain ⟨g3,hx,hge,hl⟩:=bh (me hall 11)
 have d3:=Nat.lt_of_lt_of_le R4_1.lt hge
 have e2_2:=ab ha e2_1
 have e3_2:=(ak (t:=3) (i:=9) ha).trans (hx)
 have R4_2:=hC.holds R4_1
 have x3_2:=hl
 clear hx hge hl hC hall
 repeat first | apply lw | apply lx
 refine mg bb_2 R4_2 [kZ 40 (zq a.num (a.den : Int)),kResZ (w.heap.size + 1) 40 (zq a.num (a.den : Int))] [[],[0]] [17,999] [] [] ?_ ?_
 ·
   refine aj (hG:=(by simp only [List.mem_singleton]; omega)) x3_2.atR e3_2 ?_; refine aa rfl rfl (ci R4_2 e2_2 rfl rfl) ?_; exact ae rfl
 intro W z a1 hC hall ha hN1 hD1 bb1
 obtain ⟨cs,hgg,hP⟩:=me hall 1
 have i2:=ab (t:=2) ha e2_2
 repeat first | apply lw | apply lx
 refine wp_ret ?_
 repeat (refine then_r ?_)
 exact co (t:=2) rfl hD1 i2 hgg hP fun v hv=>⟨v,rfl,hv,bb1⟩
theorem refDivQ {w : World} {v1 v2 : Value} {a b : Rat} {b1 b1' : Bool} {xs1 ys1 : List Nat} {b2 b2' : Bool} {xs2 ys2 : List Nat} (hz : b.num ≠ 0) (HT1 : Hid (∀ (W : World) (v : Value),Below w.heap.size w W → Qv W v b1 xs1 b1' ys1 → Calls Tryz.prog 48 #[v] W (TellsP W 9 a.num (a.den : Int)))) (HT2 : Hid (∀ (W : World) (v : Value),Below w.heap.size w W → Qv W v b2 xs2 b2' ys2 → Calls Tryz.prog 48 #[v] W (TellsP W 9 b.num (b.den : Int)))) (h1 : Qv w v1 b1 xs1 b1' ys1) (h2 : Qv w v2 b2 xs2 b2' ys2) :
   Calls Tryz.prog 10 #[v1,v2] w (fun e w'=>∃ v,e = .returned (.tuple #[v,.int .i64 (0)]) ∧ Pr w' v 40 ((Rat.divInt (a.num * (b.den : Int)) ((a.den : Int) * b.num)).num) (((Rat.divInt (a.num * (b.den : Int)) ((a.den : Int) * b.num)).den : Int)) ∧ Below w.heap.size w w'):=by
 obtain ⟨y1,z1,y1',z1',rfl,H1⟩:=h1.op
 obtain ⟨y2,z2,y2',z2',rfl,H2⟩:=h2.op
 go_enter Tryz.func10,Tryz.ntmps10
 repeat apply wp_seq
 refine mf fun K HK=>?_
 go_wp2
 refine HK.out _ _ (then_n ?_)
 refine md (G:=fun W=>Code.wp _ _ _ _ W) ?_
 intro W_0 bb_0 K0 K1 K2
 have q1_0:=H1.out _ _ _ bb_0 K0
 have q2_0:=H2.out _ _ _ bb_0 K1
 have R4_0:=ge K2
 clear K0 K1 K2
 refine ly (G:=fun a=>Code.wp _ _ _ a _) 23 ?_
 intro a_0 ha hN_0 hD_0
 have e2_0:=lu ha 2 w.heap.size
 have e3_0:=lu ha 3 (w.heap.size + 1)
 have e4_0:=lu ha 4 (w.heap.size + 1 + 1)
 repeat first | apply lw | apply lx
 obtain ⟨u1,u2,u3,u4,X3⟩ : ∃ u1 u2 u3 u4,Holds_ W_0 (w.heap.size) #[u1,u2,u3,u4]:=by obtain ⟨_,_,_,_,hh,_⟩:=q1_0; exact ⟨_,_,_,_,hh⟩
 refine Wk9 bb_0 X3 2 [0] [kQ b1 xs1 b1' ys1,kP 9 a.num (a.den : Int),kRes (w.heap.size) 9 a.num (a.den : Int)] [[],[0],[1]] [6,7,999] [] [] ?_ ?_
 ·
   refine bj rfl rfl rfl ?_ ?_
   · exact eb q1_0 e2_0 rfl
   refine ah rfl rfl (ac rfl rfl fun hC h1=>tp (HT1.out _ _ (bb_0.trans hC.below) h1)) ?_; refine ah rfl rfl (bd X3 rfl e2_0 rfl rfl) ?_; exact cn rfl
 intro W_1 z a_1 hC hall ha hN_1 hD_1 bb_1
 obtain ⟨X1,X2⟩:=dt (me hall 2)
 have e2_1:=ab ha e2_0
 have e3_1:=ab ha e3_0
 have e4_1:=ab ha e4_0
 have q2_1:=hC.locQ (by simp only [List.mem_singleton]; omega) q2_0
 have R4_1:=hC.holdsG (by simp only [List.mem_singleton]; omega) R4_0
 have p1_1:=X1
 have p1'_1:=X2
 clear hC hall X1 X2 X3
 repeat first | apply lw | apply lx
 obtain ⟨u1,u2,u3,u4,X3⟩ : ∃ u1 u2 u3 u4,Holds_ W_1 (w.heap.size + 1) #[u1,u2,u3,u4]:=by obtain ⟨_,_,_,_,hh,_⟩:=q2_1; exact ⟨_,_,_,_,hh⟩
 refine Wk9 bb_1 X3 2 [0] [kQ b2 xs2 b2' ys2,kP 9 b.num (b.den : Int),kRes (w.heap.size + 1) 9 b.num (b.den : Int)] [[],[0],[1]] [8,9,999] [] [] ?_ ?_
 ·
   refine bj rfl rfl rfl ?_ ?_
   · exact eb q2_1 e3_1 rfl
   refine ah rfl rfl (ac rfl rfl fun hC h1=>tp (HT2.out _ _ (bb_1.trans hC.below) h1)) ?_; refine ah rfl rfl (bd X3 rfl e3_1 rfl rfl) ?_; exact cn rfl
 intro W_2 z a_2 hC hall ha hN_2 hD_2 bb_2
 obtain ⟨X1,X2⟩:=dt (me hall 2)
 have e2_2:=ab ha e2_1
 have e3_2:=ab ha e3_1
 have e4_2:=ab ha e4_1
 have R4_2:=hC.holdsG (by simp only [List.mem_singleton]; omega) R4_1
 have p1_2:=hC.atR (by simp only [List.mem_singleton]; omega) p1_1
 have p1'_2:=hC.atR (by simp only [List.mem_singleton]; omega) p1'_1
 have p2_2:=X1
 have p2'_2:=X2
 clear hC hall X1 X2 X3
 repeat first | apply lw | apply lx
 refine mg bb_2 R4_2 [lp w.heap.size 0,kZ 9 a.num,lp (w.heap.size + 1) 2,kZ 9 (b.den : Int),kZ 18 (a.num * (b.den : Int)),lp w.heap.size 2,kZ 9 (a.den : Int),lp (w.heap.size + 1) 0,kZ 9 b.num,kZ 18 ((a.den : Int) * b.num),kPT 40 ((Rat.divInt (a.num * (b.den : Int)) ((a.den : Int) * b.num)).num) (((Rat.divInt (a.num * (b.den : Int)) ((a.den : Int) * b.num)).den : Int)) (.int .i64 (0)),kP 40 ((Rat.divInt (a.num * (b.den : Int)) ((a.den : Int) * b.num)).num) (((Rat.divInt (a.num * (b.den : Int)) ((a.den : Int) * b.num)).den : Int)),kIs (.int .i64 (0)),kRes (w.heap.size + 1 + 1) 40 ((Rat.divInt (a.num * (b.den : Int)) ((a.den : Int) * b.num)).num) (((Rat.divInt (a.num * (b.den : Int)) ((a.den : Int) * b.num)).den : Int)),kIs (.int .i64 (0))] [[],[0],[],[2],[1,3],[],[5],[],[7],[6,8],[4,9],[10],[10],[11],[12]] [10,11,12,13,14,15,16,17,18,19,20,21,22,999,5] [] [] ?_ ?_
 ·
   refine p01 e2_2 ?_; refine ag (hG:=(by simp only [List.mem_singleton]; omega)) p1_2 ?_; refine p01 e3_2 ?_; refine ag (hG:=(by simp only [List.mem_singleton]; omega)) p2'_2 ?_; refine aa rfl rfl (ai rfl rfl rfl fun hC h1 h2=>tz (ref_mulT (rr h1) (rr h2) (by decide) (by decide))) ?_; refine p01 e2_2 ?_; refine ag (hG:=(by simp only [List.mem_singleton]; omega)) p1'_2 ?_; refine p01 e3_2 ?_; refine ag (hG:=(by simp only [List.mem_singleton]; omega)) p2_2 ?_; refine aa rfl rfl (ai rfl rfl rfl fun hC h1 h2=>tz (ref_mulT (rr h1) (rr h2) (by decide) (by decide))) ?_; refine aa rfl rfl (ai rfl rfl rfl fun hC h1 h2=>tpt (refOf_yes (Int.mul_ne_zero (den_ne a) hz) ((rr h1).mono (by decide)) ((rr h2).mono (by decide)))) ?_; refine ap ext_p ?_; refine ap ext_v ?_; refine aa rfl rfl (bd R4_2 rfl e4_2 rfl rfl) ?_; refine p10 ?_; exact ae rfl
 intro W z a1 hC hall ha hN1 hD1 bb1
 obtain ⟨cs,hgg,hP⟩:=me hall 13
 have i4:=ab (t:=4) ha e4_2
 have i5:=ln ha hall 5 14
 repeat first | apply lw | apply lx
 refine wp_ret ?_
 repeat (refine then_r ?_)
 exact bi (t:=4) (u:=5) rfl hD1 i4 i5 hgg hP fun v hv=>⟨v,rfl,hv,bb1⟩
theorem refDivQ0 {w : World} {v1 v2 : Value} {a b : Rat} {b1 b1' : Bool} {xs1 ys1 : List Nat} {b2 b2' : Bool} {xs2 ys2 : List Nat} (hz : b.num = 0) (HT1 : Hid (∀ (W : World) (v : Value),Below w.heap.size w W → Qv W v b1 xs1 b1' ys1 → Calls Tryz.prog 48 #[v] W (TellsP W 9 a.num (a.den : Int)))) (HT2 : Hid (∀ (W : World) (v : Value),Below w.heap.size w W → Qv W v b2 xs2 b2' ys2 → Calls Tryz.prog 48 #[v] W (TellsP W 9 b.num (b.den : Int)))) (h1 : Qv w v1 b1 xs1 b1' ys1) (h2 : Qv w v2 b2 xs2 b2' ys2) :
   Calls Tryz.prog 10 #[v1,v2] w (fun e w'=>∃ v,e = .returned (.tuple #[v,.int .i64 (9)]) ∧ Pr w' v 1 (0) (1) ∧ Below w.heap.size w w'):=by
 obtain ⟨y1,z1,y1',z1',rfl,H1⟩:=h1.op
 obtain ⟨y2,z2,y2',z2',rfl,H2⟩:=h2.op
 go_enter Tryz.func10,Tryz.ntmps10
 repeat apply wp_seq
 refine mf fun K HK=>?_
 go_wp2
 refine HK.out _ _ (then_n ?_)
 refine md (G:=fun W=>Code.wp _ _ _ _ W) ?_
 intro W_0 bb_0 K0 K1 K2
 have q1_0:=H1.out _ _ _ bb_0 K0
 have q2_0:=H2.out _ _ _ bb_0 K1
 have R4_0:=ge K2
 clear K0 K1 K2
 refine ly (G:=fun a=>Code.wp _ _ _ a _) 23 ?_
 intro a_0 ha hN_0 hD_0
 have e2_0:=lu ha 2 w.heap.size
 have e3_0:=lu ha 3 (w.heap.size + 1)
 have e4_0:=lu ha 4 (w.heap.size + 1 + 1)
 repeat first | apply lw | apply lx
 obtain ⟨u1,u2,u3,u4,X3⟩ : ∃ u1 u2 u3 u4,Holds_ W_0 (w.heap.size) #[u1,u2,u3,u4]:=by obtain ⟨_,_,_,_,hh,_⟩:=q1_0; exact ⟨_,_,_,_,hh⟩
 refine Wk9 bb_0 X3 2 [0] [kQ b1 xs1 b1' ys1,kP 9 a.num (a.den : Int),kRes (w.heap.size) 9 a.num (a.den : Int)] [[],[0],[1]] [6,7,999] [] [] ?_ ?_
 ·
   refine bj rfl rfl rfl ?_ ?_
   · exact eb q1_0 e2_0 rfl
   refine ah rfl rfl (ac rfl rfl fun hC h1=>tp (HT1.out _ _ (bb_0.trans hC.below) h1)) ?_; refine ah rfl rfl (bd X3 rfl e2_0 rfl rfl) ?_; exact cn rfl
 intro W_1 z a_1 hC hall ha hN_1 hD_1 bb_1
 obtain ⟨X1,X2⟩:=dt (me hall 2)
 have e2_1:=ab ha e2_0
 have e3_1:=ab ha e3_0
 have e4_1:=ab ha e4_0
 have q2_1:=hC.locQ (by simp only [List.mem_singleton]; omega) q2_0
 have R4_1:=hC.holdsG (by simp only [List.mem_singleton]; omega) R4_0
 have p1_1:=X1
 have p1'_1:=X2
 clear hC hall X1 X2 X3
 repeat first | apply lw | apply lx
 obtain ⟨u1,u2,u3,u4,X3⟩ : ∃ u1 u2 u3 u4,Holds_ W_1 (w.heap.size + 1) #[u1,u2,u3,u4]:=by obtain ⟨_,_,_,_,hh,_⟩:=q2_1; exact ⟨_,_,_,_,hh⟩
 refine Wk9 bb_1 X3 2 [0] [kQ b2 xs2 b2' ys2,kP 9 b.num (b.den : Int),kRes (w.heap.size + 1) 9 b.num (b.den : Int)] [[],[0],[1]] [8,9,999] [] [] ?_ ?_
 ·
   refine bj rfl rfl rfl ?_ ?_
   · exact eb q2_1 e3_1 rfl
   refine ah rfl rfl (ac rfl rfl fun hC h1=>tp (HT2.out _ _ (bb_1.trans hC.below) h1)) ?_; refine ah rfl rfl (bd X3 rfl e3_1 rfl rfl) ?_; exact cn rfl
 intro W_2 z a_2 hC hall ha hN_2 hD_2 bb_2
 obtain ⟨X1,X2⟩:=dt (me hall 2)
 have e2_2:=ab ha e2_1
 have e3_2:=ab ha e3_1
 have e4_2:=ab ha e4_1
 have R4_2:=hC.holdsG (by simp only [List.mem_singleton]; omega) R4_1
 have p1_2:=hC.atR (by simp only [List.mem_singleton]; omega) p1_1
 have p1'_2:=hC.atR (by simp only [List.mem_singleton]; omega) p1'_1
 have p2_2:=X1
 have p2'_2:=X2
 clear hC hall X1 X2 X3
 repeat first | apply lw | apply lx
 refine mg bb_2 R4_2 [lp w.heap.size 0,kZ 9 a.num,lp (w.heap.size + 1) 2,kZ 9 (b.den : Int),kZ 18 (a.num * (b.den : Int)),lp w.heap.size 2,kZ 9 (a.den : Int),lp (w.heap.size + 1) 0,kZ 9 b.num,kZ 18 ((a.den : Int) * b.num),kPT 1 (0) (1) (.int .i64 (9)),kP 1 (0) (1),kIs (.int .i64 (9)),kRes (w.heap.size + 1 + 1) 1 (0) (1),kIs (.int .i64 (9))] [[],[0],[],[2],[1,3],[],[5],[],[7],[6,8],[4,9],[10],[10],[11],[12]] [10,11,12,13,14,15,16,17,18,19,20,21,22,999,5] [] [] ?_ ?_
 ·
   refine p01 e2_2 ?_; refine ag (hG:=(by simp only [List.mem_singleton]; omega)) p1_2 ?_; refine p01 e3_2 ?_; refine ag (hG:=(by simp only [List.mem_singleton]; omega)) p2'_2 ?_; refine aa rfl rfl (ai rfl rfl rfl fun hC h1 h2=>tz (ref_mulT (rr h1) (rr h2) (by decide) (by decide))) ?_; refine p01 e2_2 ?_; refine ag (hG:=(by simp only [List.mem_singleton]; omega)) p1'_2 ?_; refine p01 e3_2 ?_; refine ag (hG:=(by simp only [List.mem_singleton]; omega)) p2_2 ?_; refine aa rfl rfl (ai rfl rfl rfl fun hC h1 h2=>tz (ref_mulT (rr h1) (rr h2) (by decide) (by decide))) ?_; refine aa rfl rfl (ai rfl rfl rfl fun hC h1 h2=>tpt (refOf_zero (by rw [hz]; exact Int.mul_zero _) ((rr h1).mono (by decide)) ((rr h2).mono (by decide)))) ?_; refine ap ext_p ?_; refine ap ext_v ?_; refine aa rfl rfl (bd R4_2 rfl e4_2 rfl rfl) ?_; refine p10 ?_; exact ae rfl
 intro W z a1 hC hall ha hN1 hD1 bb1
 obtain ⟨cs,hgg,hP⟩:=me hall 13
 have i4:=ab (t:=4) ha e4_2
 have i5:=ln ha hall 5 14
 repeat first | apply lw | apply lx
 refine wp_ret ?_
 repeat (refine then_r ?_)
 exact bi (t:=4) (u:=5) rfl hD1 i4 i5 hgg hP fun v hv=>⟨v,rfl,hv,bb1⟩
def ElAt (W : World) (g i : Nat) (E : Value → World → Prop) : Prop:=∃ u0 u1 u2 u3,W.cell? ⟨g,i * 4,none⟩ = some u0 ∧ W.cell? ⟨g,i * 4 + 1,none⟩ = some u1 ∧ W.cell? ⟨g,i * 4 + 2,none⟩ = some u2 ∧ W.cell? ⟨g,i * 4 + 3,none⟩ = some u3 ∧ E (.agg #[u0,u1,u2,u3]) W
theorem ElAt.below {W w' : World} {g i : Nat} {E : Value → World → Prop} (h : ElAt W g i E) (hE : ∀ v w w',E v w → Below w.heap.size w w' → E v w') (hb : Below W.heap.size W w') : ElAt w' g i E:=by
 obtain ⟨u0,u1,u2,u3,h0,h1,h2,h3,h4⟩:=h
 exact ⟨u0,u1,u2,u3,(hb.cell (cell_lt h0)).trans h0,(hb.cell (cell_lt h1)).trans h1,(hb.cell (cell_lt h2)).trans h2,(hb.cell (cell_lt h3)).trans h3,hE _ _ _ h4 hb⟩
theorem ElAt.reg {W w : World} {B g i : Nat} {G : List Nat} {E : Nat → Value → World → Prop} (h : ElAt W g i (E i)) (hE : ∀ i v B (W0 : World) G w,Reg B W0 G w → E i v W0 → E i v w) (hg : g ∉ G) (hC : Reg B W G w) : ElAt w g i (E i):=by
 obtain ⟨u0,u1,u2,u3,h0,h1,h2,h3,h4⟩:=h
 exact ⟨u0,u1,u2,u3,((hC.cell (cell_lt h0) hg _).1).trans h0,((hC.cell (cell_lt h1) hg _).1).trans h1,((hC.cell (cell_lt h2) hg _).1).trans h2,((hC.cell (cell_lt h3) hg _).1).trans h3,hE _ _ _ _ _ _ hC h4⟩
def LocP (W : World) (g k : Nat) (x y : Int) : Prop:=(∃ u1 u2 u3 u4,Holds_ W g #[u1,u2,u3,u4]) ∧ AtR W g 0 k x ∧ AtR W g 2 k y
theorem Reg.locP {B : Nat} {W0 w : World} {G : List Nat} (h : Reg B W0 G w) {g k : Nat} {x y : Int} (hg : g ∉ G) (hl : LocP W0 g k x y) : LocP w g k x y:=by
 obtain ⟨⟨u1,u2,u3,u4,hh⟩,h1,h2⟩:=hl
 exact ⟨⟨u1,u2,u3,u4,h.holdsG hg hh⟩,h.atR hg h1,h.atR hg h2⟩
theorem AtR.up {W : World} {g o j k : Nat} {z : Int} (h : AtR W g o j z) (hk : j ≤ k) : AtR W g o k z:=by
 obtain ⟨A,l,c,h1,h2,h3⟩:=h
 exact ⟨A,l,c,h1,h2,h3.mono hk⟩
theorem res_locP {S0 : Nat} {x : Nat → Value} {v : Value} {w : World} {g k : Nat} {z1 z2 : Int} (h : (kRes g k z1 z2).sem S0 x v w) : LocP w g k z1 z2:=⟨res_four h,dt h⟩
theorem put_four {S0 : Nat} {x : Nat → Value} {v : Value} {w : World} {e k g : Nat} {z1 z2 : Int} (h : (kPutP e k z1 z2).sem S0 x v w) (hx : x e = .pointer (some ⟨g,0,none⟩)) : ∃ u1 u2 u3 u4,Holds_ w g #[u1,u2,u3,u4]:=by
 obtain ⟨g',cs,h1,_,hh,A,l,c,A',l',c',e1,_⟩:=h
 rw [hx] at h1
 injection h1 with h1; injection h1 with h1; injection h1 with h1
 subst h1; subst e1
 exact ⟨_,_,_,_,hh⟩
theorem mul18 {a : Int} {b : Nat} (h1 : a.natAbs < 1000000000 ^ 9) (h2 : b < 1000000000 ^ 9) : (a * (b : Int)).natAbs < 1000000000 ^ 18:=by
 rw [Int.natAbs_mul]
 have h:=Nat.mul_lt_mul'' h1 h2
 rw [← Nat.pow_add] at h
 exact h
theorem r2_add2 {w : World} {v : Value} {S0 : Nat} {x : Nat → Value} {a b : Int} (h : (kZRs [(18,a),(18,b)]).sem S0 x v w) (ha : a.natAbs < 1000000000 ^ 18) (hb : b.natAbs < 1000000000 ^ 18) : Calls Tryz.prog 75 #[v] w (TellsZ w 19 (a + b)):=by
 obtain ⟨g,e,_,h2,h3⟩:=h
 have hab : (a + b).natAbs < 1000000000 ^ 19:=by
   have h:=two_lt ha hb; have h4:=Int.natAbs_add_le a b; exact Nat.lt_of_le_of_lt h4 h
 have p39 : ∀ {n k : Nat},n < 1000000000 ^ k → k ≤ 39 → n < 1000000000 ^ 39:=fun h hk=>Nat.lt_of_lt_of_le h (pow_le hk)
 have h:=r2_addL (l:=[(18,a),(18,b)]) ⟨g,e,h2,h3⟩ (fun q hq=>by
   rcases List.mem_cons.1 hq with h | h
   · rw [h]; exact (by decide : (18 : Nat) ≤ 39)
   · rw [List.mem_singleton.1 h]; exact (by decide : (18 : Nat) ≤ 39)) (by simp) (fun i hi=>by
   have hi2 : i ≤ 2:=hi; have h3 : i = 0 ∨ i = 1 ∨ i = 2:=by omega
   rcases h3 with rfl | rfl | rfl
   · exact (by decide : (0 : Int).natAbs < 1000000000 ^ 39)
   · simpa [qsum] using p39 ha (by decide)
   · simpa [qsum] using p39 hab (by decide))
 have e1 : qsum [(18,a),(18,b)] = a + b:=by simp [qsum]
 rw [e1] at h
 exact h.mono fun _ _ ⟨v,e,hz,hb'⟩=>⟨v,e,hz.tight hab,hb'⟩
theorem len_runR (b : Option Addr) (m c : Nat) (T : TypeId) : ∀ w,(Builtin.len_ #[ 42 ] T #[.slice b m c]).run Tryz.prog w = .ok (.int .i64 (m : Int)) w:=fun _=>by kernel_rfl
theorem run_idxR {w : World} {g i n : Nat} (h : i < n) : (Instr.indexAt 42 (.slice (some ⟨g,0,none⟩) n n) (.int .i64 (i : Int))).run Tryz.prog w = .ok (.pointer (some ⟨g,i * 4,none⟩)) w:=by
 have h1 : (0 : Int) ≤ (i : Int) ∧ (i : Int) < (n : Int):=by omega
 go_simp
section
variable {G : List Nat} {C : World → Prop} {S0 B : Nat} {ks : List PK} {a0 : Act} {i : Nat} {N : Nat} {W0 : World} {T : TypeId} {pos : String} {af : Array Edge} {gu : Option (Nat × Bool)}
theorem st_idxR {d t1 j1 t2 j2 g k n : Nat} (hk : k < n)      (h1 : at_ ks j1 = kIs (.slice (some ⟨g,0,none⟩) n n)) (h2 : at_ ks j2 = kIs (.int .i64 (k : Int))) (hi : at_ ks i = kIs (.pointer (some ⟨g,k * 4,none⟩))) (hN : a0.tmps.size = N:=by assumption) (hd : decide (d < N) = true:=by kernel_rfl) (ht1 : decide (t1 < N) = true:=by kernel_rfl) (ht2 : decide (t2 < N) = true:=by kernel_rfl) (hne : decide (t1 = t2) = false:=by kernel_rfl) :
   PkStep Tryz.prog C S0 ks a0 i { dst:=some d,op:=.indexAddr 42 (.tmp t1) (.tmp t2),type:=T,pos:=pos,after:=af,guard:=gu } [(j1,some t1),(j2,some t2)]:=by
 intro w x hC
 refine ay _ fun hdeps K hK=>?_
 have g1:=hdeps (j1,some t1) (by simp)
 rw [h1] at g1
 have g2:=hdeps (j2,some t2) (by simp)
 rw [h2] at g2
 have n12:=of_decide_eq_false hne
 have e1 : (putE x a0 [(j1,some t1),(j2,some t2)]).eval (.tmp t1) = x j1:=putE_new _ _ (by rw [hN]; exact of_decide_eq_true ht1) (by simp [slotAt,Ne.symm n12])
 have e2 : (putE x a0 [(j1,some t1),(j2,some t2)]).eval (.tmp t2) = x j2:=putE_new _ _ (by rw [hN]; exact of_decide_eq_true ht2) (by simp [slotAt])
 refine cb (v:=.pointer (some ⟨g,k * 4,none⟩)) (w':=w) rfl (by rw [az,hN]) hd ?_ (hK _ _ ?_ ?_)
 · show Sem.run _ (Instr.indexAt 42 ((putE x a0 [(j1,some t1),(j2,some t2)]).eval (.tmp t1)) ((putE x a0 [(j1,some t1),(j2,some t2)]).eval (.tmp t2)) >>= fun v=>pure (Next.value v)) w = _
   rw [e1.trans g1,e2.trans g2,bm (run_idxR hk)]; rfl
 · rw [hi]; exact Below.refl _ _
 · rw [hi]; rfl
theorem st_loadE {d t j g n : Nat} {E : Nat → Value → World → Prop} {hb hs} (hl : ElAt W0 g n (E n)) (hE : ∀ i v B (W0 : World) G w,Reg B W0 G w → E i v W0 → E i v w)     (hj : at_ ks j = kIs (.pointer (some ⟨g,n * 4,none⟩))) (hi : at_ ks i = .p (E n) hb hs) (hG : g ∉ G:=by simp) (hN : a0.tmps.size = N:=by assumption) (hd : decide (d < N) = true:=by kernel_rfl) (ht : decide (t < N) = true:=by kernel_rfl) :
   PkStep Tryz.prog (Reg B W0 G) S0 ks a0 i { dst:=some d,op:=.load 26 (.tmp t),type:=T,pos:=pos,after:=af,guard:=gu } [(j,some t)]:=by
 intro w x hC
 refine ay _ fun hdeps K hK=>?_
 have g1:=hdeps (j,some t) (by simp)
 rw [hj] at g1
 have e1 : (putE x a0 [(j,some t)]).eval (.tmp t) = x j:=putE_new _ _ (by rw [hN]; exact of_decide_eq_true ht) (by simp [slotAt])
 obtain ⟨u0,u1,u2,u3,h0,h1,h2,h3,h4⟩:=hl.reg hE hG hC
 refine cb (w':=w) rfl (by rw [az,hN]) hd (ex_load (e1.trans g1) (run_loadPI h0 h1 h2 h3)) (hK _ _ ?_ ?_)
 · rw [hi]; exact Below.refl _ _
 · rw [hi]; exact h4
theorem lj {d t j g o k : Nat} {z : Int} (hl : AtR W0 g o k z)    (hj : at_ ks j = kIs (.pointer (some ⟨g,o,none⟩))) (hi : at_ ks i = kZ k z) (hN : a0.tmps.size = N:=by assumption) (hd : decide (d < N) = true:=by kernel_rfl) (ht : decide (t < N) = true:=by kernel_rfl) :
   PkStep Tryz.prog (fun w=>Reg B W0 [g] w ∧ w.heap[g]? = W0.heap[g]?) S0 ks a0 i { dst:=some d,op:=.load 24 (.tmp t),type:=T,pos:=pos,after:=af,guard:=gu } [(j,some t)]:=by
 intro w x hC
 refine ay _ fun hdeps K hK=>?_
 have g1:=hdeps (j,some t) (by simp)
 rw [hj] at g1
 have e1 : (putE x a0 [(j,some t)]).eval (.tmp t) = x j:=putE_new _ _ (by rw [hN]; exact of_decide_eq_true ht) (by simp [slotAt])
 obtain ⟨A,m,c,h1,h2,hz⟩:=iu hC hl
 refine cb (w':=w) rfl (by rw [az,hN]) hd (ex_load (e1.trans g1) (run_loadInt h1 h2)) (hK _ _ ?_ ?_)
 · rw [hi]; exact Below.refl _ _
 · rw [hi]; exact hz
end
theorem refAddE {w : World} {v : Value} {E : Nat → Value → World → Prop} {A S : Nat → Rat} (hEb : ∀ i v w w', E i v w → Below w.heap.size w w' → E i v w') (hEs : ∀ i v w w' g, E i v w → Stored g w w' → E i v w') (hER : ∀ i v B (W0 : World) G w, Reg B W0 G w → E i v W0 → E i v w)
   (HT : ∀ i,i < 2 → ∀ (W : World) (v : Value),Below w.heap.size w W → E i v W → Calls Tryz.prog 48 #[v] W (TellsP W 9 (A i).num ((A i).den : Int)))
   (h : ∃ g,v = .slice (some ⟨g,0,none⟩) 2 2 ∧ g < w.heap.size ∧ ∀ i,i < 2 → ElAt w g i (E i)) (hS0 : S 0 = 0) (hS : ∀ i,i < 2 → S (i + 1) = S i + A i) (hSb : ∀ i,i < 2 → (S i).num.natAbs < 1000000000 ^ 9 ∧ (S i).den < 1000000000 ^ 9) (hAb : ∀ i,i < 2 → (A i).num.natAbs < 1000000000 ^ 9 ∧ (A i).den < 1000000000 ^ 9) :
   Calls Tryz.prog 33 #[v] w (TellsP w 40 (S 2).num ((S 2).den : Int)):=by
 obtain ⟨g2,rfl,hg2,hl2⟩:=h
 go_enter Tryz.func33,Tryz.ntmps33
 repeat apply wp_seq
 refine mf fun K HK=>?_
 go_wp2
 refine HK.out _ _ (then_n ?_)
 refine mb (G:=fun W=>Code.wp _ _ _ _ W) ?_
 intro W_0 bb_0 K0
 have R4_0:=ge K0
 have LL_0 : ∀ i,i < 2 → ElAt W_0 g2 i (E i):=fun i hi=>(hl2 i hi).below (hEb i) bb_0
 clear K0 hl2
 refine ly (G:=fun a=>Code.wp _ _ _ a _) 40 ?_
 intro a_0 ha hN_0 hD_0
 have e0_0 : a_0.eval (.tmp 0) = (.slice (some ⟨g2,0,none⟩) 2 2):=ma ha
 have e2_0:=lu ha 2 w.heap.size
 repeat first | apply lw | apply lx
 refine lm bb_0 [kP 1 0 1,PK.fresh 4,kPutP 1 1 0 1] [[],[],[1,0]] [6,3,999] [] [] ?_ ?_
 ·
   refine aa rfl rfl (aq [] rfl rfl fun hC=>tp db) ?_; refine aa rfl rfl (bp rfl) ?_; refine aa rfl rfl (du rfl rfl rfl) ?_; exact ae rfl
 intro W_1 z a_1 hC hall ha hN_1 hD_1 bb_1
 obtain ⟨g3,hx,hge,y1,y2⟩:=di (me hall 2)
 obtain ⟨u1,u2,u3,u4,hh⟩:=put_four (show (kPutP 1 1 0 1).sem _ _ _ _ from hall 2 (of_decide_eq_true (by kernel_rfl))) hx
 have d3:=Nat.lt_of_lt_of_le R4_0.lt hge
 have e0_1:=ab ha e0_0
 have e2_1:=ab ha e2_0
 have e3_1:=(ak (t:=3) (i:=1) ha).trans (hx)
 have R4_1:=hC.holds R4_0
 have LL_1:=(fun i hi=>(LL_0 i hi).reg hER (by simp) hC)
 have X_1 : LocP W_1 g3 40 (S 0).num ((S 0).den : Int):=by rw [hS0]; exact ⟨⟨_,_,_,_,hh⟩,y1.up (by decide),y2.up (by decide)⟩
 clear hx hge hC hall y1 y2 hh
 repeat first | apply lw | apply lx
 refine wp_set fun z hx=>?_
 refine then_n ?_
 obtain ⟨a_2,ha⟩ : ∃ a,a = putE z a_1 [(0,some 4)]:=⟨_,rfl⟩
 rw [← ha]
 have hN_2:=size_behind ha hN_1
 have hD_2:=defers_behind ha hD_1
 have e0_2:=ab ha e0_1
 have e2_2:=ab ha e2_1
 have e3_2:=ab ha e3_1
 have e4_2:=(ak (t:=4) (i:=0) ha).trans (hx)
 have bb_2:=bb_1
 have R4_2:=R4_1
 have LL_2:=LL_1
 have X_2:=X_1
 clear hx
 repeat first | apply lw | apply lx
 refine wp_block ?_
 refine wp_loop (fun a W=>a.tmps.size = 40 ∧ a.defers = [] ∧ a.eval (.tmp 0) = (.slice (some ⟨g2,0,none⟩) 2 2) ∧ a.eval (.tmp 2) = (.pointer (some ⟨w.heap.size,0,none⟩)) ∧ a.eval (.tmp 3) = .pointer (some ⟨g3,0,none⟩) ∧ Below w.heap.size w W ∧ Holds_ W w.heap.size #[Value.bool false,Value.slice none 0 0,Value.bool false,Value.slice none 0 0] ∧ (∀ i,i < 2 → ElAt W g2 i (E i)) ∧ ∃ i : Nat,i ≤ 2 ∧ a.eval (.tmp 4) = .int .i64 (i : Int) ∧ LocP W g3 40 (S i).num ((S i).den : Int)) (fun a _=>2 - (intOf (a.eval (.tmp 4))).toNat) ?_ ?_
 · exact ⟨hN_2,hD_2,e0_2,e2_2,e3_2,bb_2,R4_2,LL_2,0,by decide,e4_2,X_2⟩
 clear hN_2 hD_2 e0_2 e2_2 e3_2 e4_2 bb_2 R4_2 LL_2 X_2
 rintro a_10 W_10 ⟨hN_10,hD_10,e0_10,e2_10,e3_10,bb_10,R4_10,LL_10,i,hi7,e4_10,X_10⟩
 have hm : intOf (a_10.eval (.tmp 4)) = (i : Int):=by rw [e4_10]; rfl
 rw [hm]
 clear hm
 repeat first | apply lw | apply lx
 refine lh e4_10 e0_10 (len_runR _ _ _ _) (less_run _ _) fun z hx=>?_
 refine then_n ?_
 obtain ⟨a_11,ha⟩ : ∃ a,a = putE z a_10 [(0,some 7),(1,some 8),(2,some 9),(3,some 10)]:=⟨_,rfl⟩
 rw [← ha]
 have hN_11:=size_behind ha hN_10
 have hD_11:=defers_behind ha hD_10
 have e0_11:=ab ha e0_10
 have e2_11:=ab ha e2_10
 have e3_11:=ab ha e3_10
 have e4_11:=ab ha e4_10
 have e10_11:=(ak (t:=10) (i:=3) ha).trans (hx)
 have bb_11:=bb_10
 have R4_11:=R4_10
 have LL_11:=LL_10
 have X_11:=X_10
 clear hx
 by_cases hi : i < 2
 ·
   have hc : decide ((i : Int) < ((2 : Nat) : Int)) = true:=decide_eq_true (by omega); rw [hc] at e10_11; clear hc; refine wp_cond_true e10_11 ?_; refine wp_skip ?_; refine then_n ?_
   repeat first | apply lw | apply lx
   refine wp_block ?_
   repeat first | apply lw | apply lx
   refine lm bb_11 [kIs ((.slice (some ⟨g2,0,none⟩) 2 2)),kIs (.int .i64 (i : Int)),kIs (.pointer (some ⟨g2,i * 4,none⟩)),PK.p (E i) (hEb i) (hEs i),kP 9 (A i).num ((A i).den : Int),PK.fresh 4,kPutP 5 9 (A i).num ((A i).den : Int)] [[],[],[0,1],[2],[3],[],[5,4]] [13,14,15,16,17,5,999] [] [] ?_ ?_
   ·
     refine p01 e0_11 ?_; refine p01 e4_11 ?_; refine aa rfl rfl (st_idxR hi rfl rfl rfl) ?_; refine aa rfl rfl (st_loadE (LL_11 i hi) hER rfl rfl) ?_; refine aa rfl rfl (ac rfl rfl fun hC h1=>tp (HT i hi _ _ (bb_11.trans hC.below) h1)) ?_; refine aa rfl rfl (bp rfl) ?_; refine aa rfl rfl (du rfl rfl rfl) ?_; exact ae rfl
   intro W_11 z a_12 hC hall ha hN_12 hD_12 bb_12; obtain ⟨g5,hx,hge,y1,y2⟩:=di (me hall 6); have d5 : g3 < g5:=by obtain ⟨⟨_,_,_,_,hh⟩,_⟩:=X_11; exact Nat.lt_of_lt_of_le hh.lt hge
   have e0_12:=ab ha e0_11; have e2_12:=ab ha e2_11; have e3_12:=ab ha e3_11; have e4_12:=ab ha e4_11; have e5_12:=(ak (t:=5) (i:=5) ha).trans (hx); have R4_12:=hC.holds R4_11
   have LL_12:=(fun i hi=>(LL_11 i hi).reg hER (by simp) hC)
   have X_12:=hC.locP (by simp) X_11; have y1_12:=y1; have y2_12:=y2; clear hx hge hC hall y1 y2
   repeat first | apply lw | apply lx
   obtain ⟨⟨u1, u2, u3, u4, X3⟩, s1, s2⟩ := X_12; have t1 := s1.tight (hSb i hi).1; have t2 := s2.tight (show (((S i).den : Int)).natAbs < 1000000000 ^ 9 from (hSb i hi).2); have bx : (((S i).num * ((A i).den : Int))).natAbs < 1000000000 ^ 18 := mul18 (hSb i hi).1 (hAb i hi).2; have by_ : (((A i).num * ((S i).den : Int))).natAbs < 1000000000 ^ 18 := mul18 (hAb i hi).1 (hSb i hi).2; refine gc hN_12 w.heap.size g3 X3 (by omega) 21 [1, 8, 13] [kIs (.pointer (some ⟨g3, 0, none⟩)), kZ 9 (S i).num, kIs (.pointer (some ⟨g5, 2, none⟩)), kZ 9 ((A i).den : Int), kZ 18 ((S i).num * ((A i).den : Int)), kIs (.pointer (some ⟨g5, 0, none⟩)), kZ 9 (A i).num, kIs (.pointer (some ⟨g3, 2, none⟩)), kZ 9 ((S i).den : Int), kZ 18 ((A i).num * ((S i).den : Int)), kZRs [(18, ((S i).num * ((A i).den : Int))), (18, ((A i).num * ((S i).den : Int)))], kZ 19 (((S i).num * ((A i).den : Int)) + ((A i).num * ((S i).den : Int))), kIs (.pointer (some ⟨g3, 2, none⟩)), kZ 9 ((S i).den : Int), kIs (.pointer (some ⟨g5, 2, none⟩)), kZ 9 ((A i).den : Int), kZ 18 (((S i).den : Int) * ((A i).den : Int)), kPT 40 ((Rat.divInt (((S i).num * ((A i).den : Int)) + ((A i).num * ((S i).den : Int))) (((S i).den : Int) * ((A i).den : Int))).num) (((Rat.divInt (((S i).num * ((A i).den : Int)) + ((A i).num * ((S i).den : Int))) (((S i).den : Int) * ((A i).den : Int))).den : Int)) (.int .i64 (0)), kPT 40 ((Rat.divInt (((S i).num * ((A i).den : Int)) + ((A i).num * ((S i).den : Int))) (((S i).den : Int) * ((A i).den : Int))).num) (((Rat.divInt (((S i).num * ((A i).den : Int)) + ((A i).num * ((S i).den : Int))) (((S i).den : Int) * ((A i).den : Int))).den : Int)) (.int .i64 (0)), kP 40 ((Rat.divInt (((S i).num * ((A i).den : Int)) + ((A i).num * ((S i).den : Int))) (((S i).den : Int) * ((A i).den : Int))).num) (((Rat.divInt (((S i).num * ((A i).den : Int)) + ((A i).num * ((S i).den : Int))) (((S i).den : Int) * ((A i).den : Int))).den : Int)), kIs (.int .i64 (0)), kRes g3 40 ((Rat.divInt (((S i).num * ((A i).den : Int)) + ((A i).num * ((S i).den : Int))) (((S i).den : Int) * ((A i).den : Int))).num) (((Rat.divInt (((S i).num * ((A i).den : Int)) + ((A i).num * ((S i).den : Int))) (((S i).den : Int) * ((A i).den : Int))).den : Int))]
     [ [],[(0,some 19)],[],[(2,some 21)],[(1,some 20),(3,some 22)],[],[(5,some 24)],[],[(7,some 26)],[(6,some 25),(8,some 27)],[(4,some 23),(9,some 28)],[(10,some 29)],[],[(12,some 31)],[],[(14,some 33)],[(13,some 32),(15,some 34)],[(11,some 30),(16,some 35)],[(17,some 36)],[(18,some 18)],[(18,some 18)],[(19,some 37)] ] [(0,some 19),(1,some 20),(2,some 21),(3,some 22),(4,some 23),(5,some 24),(6,some 25),(7,some 26),(8,some 27),(9,some 28),(10,some 29),(11,some 30),(12,some 31),(13,some 32),(14,some 33),(15,some 34),(16,some 35),(17,some 36),(18,some 18),(19,some 37),(20,some 38),(21,none)] [] [] (by kernel_rfl) (by kernel_rfl) (by kernel_rfl) (by kernel_rfl) (by kernel_rfl) (by kernel_rfl) (by kernel_rfl) rfl rfl (by kernel_rfl) (by kernel_rfl) bb_12.size ?_ ?_
   ·
     refine ah rfl rfl (bq [] [(3,.pointer (some ⟨g3,0,none⟩))] (.pointer (some ⟨g3,0,none⟩)) rfl (old1 e3_12)) ?_; refine bj rfl rfl rfl ?_ ?_
     · exact lj t1 rfl rfl
     refine ah rfl rfl (bq [] [(5,.pointer (some ⟨g5,0,none⟩))] (.pointer (some ⟨g5,2,none⟩)) rfl (old1 e5_12)) ?_; refine ah rfl rfl (kt (hG:=(by simp only [List.mem_singleton]; omega)) y2_12 rfl rfl) ?_; refine ah rfl rfl (ai rfl rfl rfl fun hC h1 h2=>tz (ref_mulT (rr h1) (rr h2) (by decide) (by decide))) ?_; refine ah rfl rfl (bq [] [(5,.pointer (some ⟨g5,0,none⟩))] (.pointer (some ⟨g5,0,none⟩)) rfl (old1 e5_12)) ?_; refine ah rfl rfl (kt (hG:=(by simp only [List.mem_singleton]; omega)) y1_12 rfl rfl) ?_; refine ah rfl rfl (bq [] [(3,.pointer (some ⟨g3,0,none⟩))] (.pointer (some ⟨g3,2,none⟩)) rfl (old1 e3_12)) ?_; refine bj rfl rfl rfl ?_ ?_
     · exact lj t2 rfl rfl
     refine ah rfl rfl (ai rfl rfl rfl fun hC h1 h2=>tz (ref_mulT (rr h1) (rr h2) (by decide) (by decide))) ?_; refine ah rfl rfl (eu rfl rfl rfl) ?_; refine ah rfl rfl (ac rfl rfl fun hC h1=>tz (r2_add2 h1 bx by_)) ?_; refine ah rfl rfl (bq [] [(3,.pointer (some ⟨g3,0,none⟩))] (.pointer (some ⟨g3,2,none⟩)) rfl (old1 e3_12)) ?_; refine bj rfl rfl rfl ?_ ?_
     · exact lj t2 rfl rfl
     refine ah rfl rfl (bq [] [(5,.pointer (some ⟨g5,0,none⟩))] (.pointer (some ⟨g5,2,none⟩)) rfl (old1 e5_12)) ?_; refine ah rfl rfl (kt (hG:=(by simp only [List.mem_singleton]; omega)) y2_12 rfl rfl) ?_; refine ah rfl rfl (ai rfl rfl rfl fun hC h1 h2=>tz (ref_mulT (rr h1) (rr h2) (by decide) (by decide))) ?_; refine ah rfl rfl (ai rfl rfl rfl fun hC h1 h2=>tpt (refOf_yes (Int.mul_ne_zero (den_ne _) (den_ne _)) ((rr h1).mono (by decide)) ((rr h2).mono (by decide)))) ?_; refine ah rfl rfl (bg rfl rfl) ?_; refine ah rfl rfl (eq rfl rfl ext_p) ?_; refine ah rfl rfl (eq rfl rfl ext_v) ?_; refine ah rfl rfl (bd X3 rfl e3_12 rfl rfl) ?_; exact cn rfl
   intro W_20 z hC hall; have hres:=show (kRes g3 40 ((Rat.divInt (((S i).num * ((A i).den : Int)) + ((A i).num * ((S i).den : Int))) (((S i).den : Int) * ((A i).den : Int))).num) (((Rat.divInt (((S i).num * ((A i).den : Int)) + ((A i).num * ((S i).den : Int))) (((S i).den : Int) * ((A i).den : Int))).den : Int))).sem _ _ _ _ from hall 21 (of_decide_eq_true (by kernel_rfl))
   have X2 : LocP W_20 g3 40 (S (i + 1)).num ((S (i + 1)).den : Int):=by have h:=res_locP hres; rw [q_add,← hS i hi] at h; exact h
   obtain ⟨a_13,ha⟩ : ∃ a,a = putE z a_12 [(0,some 19),(1,some 20),(2,some 21),(3,some 22),(4,some 23),(5,some 24),(6,some 25),(7,some 26),(8,some 27),(9,some 28),(10,some 29),(11,some 30),(12,some 31),(13,some 32),(14,some 33),(15,some 34),(16,some 35),(17,some 36),(18,some 18),(19,some 37),(20,some 38),(21,none)]:=⟨_,rfl⟩
   rw [← ha]; have hN_13:=size_behind ha hN_12; have hD_13:=defers_behind ha hD_12; have e0_13:=ab ha e0_12; have e2_13:=ab ha e2_12; have e3_13:=ab ha e3_12; have e4_13:=ab ha e4_12; have bb_13:=bb_12.trans hC.below; have R4_13:=hC.holdsG (by simp only [List.mem_singleton]; omega) R4_12
   have LL_13:=(fun i hi=>(LL_12 i hi).reg hER (by simp only [List.mem_singleton]; omega) hC)
   have X_13:=X2; clear hres X2 hC hall X3 t1 t2 s1 s2 y1_12 y2_12; refine jy ?_; refine then_n ?_; refine lg (n:=(i : Int)) (m:=((i + 1 : Nat) : Int)) e4_13 (add_run i 1 (by omega)) fun z hx=>?_
   obtain ⟨a_14,ha⟩ : ∃ a,a = putE z a_13 [(0,some 11),(1,some 12),(2,some 4)]:=⟨_,rfl⟩
   rw [← ha]; have hN_14:=size_behind ha hN_13; have hD_14:=defers_behind ha hD_13; have e0_14:=ab ha e0_13; have e2_14:=ab ha e2_13; have e3_14:=ab ha e3_13; have e4_14:=(ak (t:=4) (i:=2) ha).trans (hx); have bb_14:=bb_13; have R4_14:=R4_13; have LL_14:=LL_13; have X_14:=X_13; refine then_n ⟨⟨hN_14,hD_14,e0_14,e2_14,e3_14,bb_14,R4_14,LL_14,i + 1,by omega,e4_14,X_14⟩,?_⟩; rw [show intOf (a_14.eval (.tmp 4)) = ((i + 1 : Nat) : Int) by rw [e4_14]; rfl]; omega
 ·
   have hc : decide ((i : Int) < ((2 : Nat) : Int)) = false:=decide_eq_false (by omega); rw [hc] at e10_11; clear hc; refine wp_cond_false e10_11 ?_; refine wp_exit ?_; refine iy ?_; refine iy ?_; refine ig ?_; refine then_n ?_; obtain rfl : i = 2:=by omega
   obtain ⟨_,s1,s2⟩:=X_11
   repeat first | apply lw | apply lx
   refine mg bb_11 R4_11 [kP 40 (S 2).num ((S 2).den : Int),kRes w.heap.size 40 (S 2).num ((S 2).den : Int)] [[],[0]] [39,999] [] [] ?_ ?_
   ·
     refine aa rfl rfl (aw (hG:=(by simp only [List.mem_singleton]; omega)) s1 s2 e3_11 rfl) ?_; refine aa rfl rfl (bd R4_11 rfl e2_11 rfl rfl) ?_; exact ae rfl
   intro W z a1 hC hall ha hN1 hD1 bb1; obtain ⟨cs,hgg,hP⟩:=me hall 1; have i2:=ab (t:=2) ha e2_11
   repeat first | apply lw | apply lx
   refine wp_ret ?_
   repeat (refine then_r ?_)
   exact dl (t:=2) rfl hD1 i2 hgg hP fun v hv=>⟨v,rfl,hv,bb1⟩
theorem decimal_9t {w : World} {v1 : Value} {a : Rat} (HT : Hid (Tab w ∧ 2 ≤ w.heap.size)) (h1 : Pr w v1 9 a.num (a.den : Int)) : Calls Tryz.prog 68 #[v1] w (fun e w'=>e = .returned (.string (textQ a)) ∧ Below w.heap.size w w'):=by
 by_cases h : a.den = 1
 · rw [gn h]; exact decimal_9w HT h h1
 · rw [ff h]; exact decimal_9b HT h h1
theorem NegQ {w : World} {v1 : Value} {a : Rat} {b1 b1' : Bool} {xs1 ys1 : List Nat}  (HO1 : Hid (∀ (W : World) (v : Value),Below w.heap.size w W → Qv W v b1 xs1 b1' ys1 → Calls Tryz.prog 43 #[v] W (TellsP W 9 a.num (a.den : Int)))) (h1 : Qv w v1 b1 xs1 b1' ys1) :
   Calls Tryz.prog 18 #[v1] w (TellsP w 9 (-a).num ((-a).den : Int)):=by
 obtain ⟨y1,z1,y1',z1',rfl,H1⟩:=h1.op
 go_enter Tryz.func18,Tryz.ntmps18
 repeat apply wp_seq
 refine mf fun K HK=>?_
 go_wp2
 refine HK.out _ _ (then_n ?_)
 refine mc (G:=fun W=>Code.wp _ _ _ _ W) ?_
 intro W_0 bb_0 K0 K1
 have q1_0:=H1.out _ _ _ bb_0 K0
 have R4_0:=ge K1
 clear K0 K1
 refine ly (G:=fun a=>Code.wp _ _ _ a _) 7 ?_
 intro a_0 ha hN_0 hD_0
 have e1_0:=lu ha 1 w.heap.size
 have e2_0:=lu ha 2 (w.heap.size + 1)
 repeat first | apply lw | apply lx
 refine mg bb_0 R4_0 [kQ b1 xs1 b1' ys1,kP 9 a.num (a.den : Int),kP 9 (-a).num ((-a).den : Int),kP 9 (-a).num ((-a).den : Int),kRes (w.heap.size + 1) 9 (-a).num ((-a).den : Int)] [[],[0],[1],[2],[3]] [3,4,5,6,999] [] [] ?_ ?_
 ·
   refine aa rfl rfl (be (hG:=(by simp only [List.mem_singleton]; omega)) q1_0 e1_0 rfl) ?_; refine aa rfl rfl (ac rfl rfl fun hC h1=>tp (HO1.out _ _ (bb_0.trans hC.below) h1)) ?_; refine aa rfl rfl (ac rfl rfl fun hC h1=>tp (negated_9 (pm h1))) ?_; refine aa rfl rfl (dj rfl rfl) ?_; refine aa rfl rfl (bd R4_0 rfl e2_0 rfl rfl) ?_; exact ae rfl
 intro W z a1 hC hall ha hN1 hD1 bb1
 obtain ⟨cs,hgg,hP⟩:=me hall 4
 have i2:=ab (t:=2) ha e2_0
 repeat first | apply lw | apply lx
 refine wp_ret ?_
 repeat (refine then_r ?_)
 exact dl (t:=2) rfl hD1 i2 hgg hP fun v hv=>⟨v,rfl,hv,bb1⟩
theorem CmpQ {w : World} {v1 v2 : Value} {a b : Rat} {b1 b1' : Bool} {xs1 ys1 : List Nat} {b2 b2' : Bool} {xs2 ys2 : List Nat}  (HO1 : Hid (∀ (W : World) (v : Value),Below w.heap.size w W → Qv W v b1 xs1 b1' ys1 → Calls Tryz.prog 43 #[v] W (TellsP W 9 a.num (a.den : Int)))) (HO2 : Hid (∀ (W : World) (v : Value),Below w.heap.size w W → Qv W v b2 xs2 b2' ys2 → Calls Tryz.prog 43 #[v] W (TellsP W 9 b.num (b.den : Int)))) (h1 : Qv w v1 b1 xs1 b1' ys1) (h2 : Qv w v2 b2 xs2 b2' ys2) :
   Calls Tryz.prog 14 #[v1,v2] w (fun e w'=>e = .returned (.int .i64 (ordI (a.num * (b.den : Int)) (b.num * (a.den : Int)))) ∧ Below w.heap.size w w'):=by
 obtain ⟨y1,z1,y1',z1',rfl,H1⟩:=h1.op
 obtain ⟨y2,z2,y2',z2',rfl,H2⟩:=h2.op
 go_enter Tryz.func14,Tryz.ntmps14
 repeat apply wp_seq
 refine mf fun K HK=>?_
 go_wp2
 refine HK.out _ _ (then_n ?_)
 refine mc (G:=fun W=>Code.wp _ _ _ _ W) ?_
 intro W_0 bb_0 K0 K1
 have q1_0:=H1.out _ _ _ bb_0 K0
 have q2_0:=H2.out _ _ _ bb_0 K1
 clear K0 K1
 refine ly (G:=fun a=>Code.wp _ _ _ a _) 10 ?_
 intro a_0 ha hN_0 hD_0
 have e2_0:=lu ha 2 w.heap.size
 have e3_0:=lu ha 3 (w.heap.size + 1)
 repeat first | apply lw | apply lx
 refine lm bb_0 [kQ b1 xs1 b1' ys1,kP 9 a.num (a.den : Int),kQ b2 xs2 b2' ys2,kP 9 b.num (b.den : Int),kIs (.int .i64 (ordI (a.num * (b.den : Int)) (b.num * (a.den : Int)))),kIs (.int .i64 (ordI (a.num * (b.den : Int)) (b.num * (a.den : Int))))] [[],[0],[],[2],[1,3],[4]] [5,6,7,8,9,4] [] [] ?_ ?_
 ·
   refine aa rfl rfl (be q1_0 e2_0 rfl) ?_; refine aa rfl rfl (ac rfl rfl fun hC h1=>tp (HO1.out _ _ (bb_0.trans hC.below) h1)) ?_; refine aa rfl rfl (be q2_0 e3_0 rfl) ?_; refine aa rfl rfl (ac rfl rfl fun hC h1=>tp (HO2.out _ _ (bb_0.trans hC.below) h1)) ?_; refine aa rfl rfl (ai rfl rfl rfl fun hC h1 h2=>ti (compare_9 (pm h1) (pm h2))) ?_; refine p10 ?_; exact ae rfl
 intro W z a_1 hC hall ha hN_1 hD_1 bb_1
 have e4_1:=ln ha hall 4 5
 repeat first | apply lw | apply lx
 refine wp_ret ?_
 repeat (refine then_r ?_)
 exact bc (t:=4) rfl hD_1 e4_1 ⟨rfl,bb_1⟩
theorem SubQ {w : World} {v1 v2 : Value} {a b : Rat} {b1 b1' : Bool} {xs1 ys1 : List Nat} {b2 b2' : Bool} {xs2 ys2 : List Nat}  (HO1 : Hid (∀ (W : World) (v : Value),Below w.heap.size w W → Qv W v b1 xs1 b1' ys1 → Calls Tryz.prog 43 #[v] W (TellsP W 9 a.num (a.den : Int)))) (HO2 : Hid (∀ (W : World) (v : Value),Below w.heap.size w W → Qv W v b2 xs2 b2' ys2 → Calls Tryz.prog 43 #[v] W (TellsP W 9 b.num (b.den : Int)))) (h1 : Qv w v1 b1 xs1 b1' ys1) (h2 : Qv w v2 b2 xs2 b2' ys2) :
   Calls Tryz.prog 20 #[v1,v2] w (TellsP w 19 (a + (-b)).num ((a + (-b)).den : Int)):=by
 obtain ⟨y1,z1,y1',z1',rfl,H1⟩:=h1.op
 obtain ⟨y2,z2,y2',z2',rfl,H2⟩:=h2.op
 go_enter Tryz.func20,Tryz.ntmps20
 repeat apply wp_seq
 refine mf fun K HK=>?_
 go_wp2
 refine HK.out _ _ (then_n ?_)
 refine md (G:=fun W=>Code.wp _ _ _ _ W) ?_
 intro W_0 bb_0 K0 K1 K2
 have q1_0:=H1.out _ _ _ bb_0 K0
 have q2_0:=H2.out _ _ _ bb_0 K1
 have R4_0:=ge K2
 clear K0 K1 K2
 refine ly (G:=fun a=>Code.wp _ _ _ a _) 12 ?_
 intro a_0 ha hN_0 hD_0
 have e2_0:=lu ha 2 w.heap.size
 have e3_0:=lu ha 3 (w.heap.size + 1)
 have e4_0:=lu ha 4 (w.heap.size + 1 + 1)
 repeat first | apply lw | apply lx
 refine mg bb_0 R4_0 [kQ b1 xs1 b1' ys1,kP 9 a.num (a.den : Int),kQ b2 xs2 b2' ys2,kP 9 b.num (b.den : Int),kP 9 (-b).num ((-b).den : Int),kP 19 (a + (-b)).num ((a + (-b)).den : Int),kP 19 (a + (-b)).num ((a + (-b)).den : Int),kRes (w.heap.size + 1 + 1) 19 (a + (-b)).num ((a + (-b)).den : Int)] [[],[0],[],[2],[3],[1,4],[5],[6]] [5,6,7,8,9,10,11,999] [] [] ?_ ?_
 ·
   refine aa rfl rfl (be (hG:=(by simp only [List.mem_singleton]; omega)) q1_0 e2_0 rfl) ?_; refine aa rfl rfl (ac rfl rfl fun hC h1=>tp (HO1.out _ _ (bb_0.trans hC.below) h1)) ?_; refine aa rfl rfl (be (hG:=(by simp only [List.mem_singleton]; omega)) q2_0 e3_0 rfl) ?_; refine aa rfl rfl (ac rfl rfl fun hC h1=>tp (HO2.out _ _ (bb_0.trans hC.below) h1)) ?_; refine aa rfl rfl (ac rfl rfl fun hC h1=>tp (negated_9 (pm h1))) ?_; refine aa rfl rfl (ai rfl rfl rfl fun hC h1 h2=>tp (plus_9 (pm h1) (pm h2))) ?_; refine aa rfl rfl (dj rfl rfl) ?_; refine aa rfl rfl (bd R4_0 rfl e4_0 rfl rfl) ?_; exact ae rfl
 intro W z a1 hC hall ha hN1 hD1 bb1
 obtain ⟨cs,hgg,hP⟩:=me hall 7
 have i2:=ab (t:=4) ha e4_0
 repeat first | apply lw | apply lx
 refine wp_ret ?_
 repeat (refine then_r ?_)
 exact dl (t:=4) rfl hD1 i2 hgg hP fun v hv=>⟨v,rfl,hv,bb1⟩
theorem FloorQ {w : World} {v1 : Value} {a : Rat} {b1 b1' : Bool} {xs1 ys1 : List Nat}  (HO1 : Hid (∀ (W : World) (v : Value),Below w.heap.size w W → Qv W v b1 xs1 b1' ys1 → Calls Tryz.prog 43 #[v] W (TellsP W 9 a.num (a.den : Int)))) (h1 : Qv w v1 b1 xs1 b1' ys1) :
   Calls Tryz.prog 27 #[v1] w (TellsZ w 10 (zq a.num (a.den : Int))):=by
 obtain ⟨y1,z1,y1',z1',rfl,H1⟩:=h1.op
 go_enter Tryz.func27,Tryz.ntmps27
 repeat apply wp_seq
 refine mf fun K HK=>?_
 go_wp2
 refine HK.out _ _ (then_n ?_)
 refine mc (G:=fun W=>Code.wp _ _ _ _ W) ?_
 intro W_0 bb_0 K0 K1
 have q1_0:=H1.out _ _ _ bb_0 K0
 have R4_0:=ll K1
 clear K0 K1
 refine ly (G:=fun a=>Code.wp _ _ _ a _) 6 ?_
 intro a_0 ha hN_0 hD_0
 have e1_0:=lu ha 1 w.heap.size
 have e2_0:=lu ha 2 (w.heap.size + 1)
 repeat first | apply lw | apply lx
 refine mg bb_0 R4_0 [kQ b1 xs1 b1' ys1,kP 9 a.num (a.den : Int),kZ 10 (zq a.num (a.den : Int)),kResZ (w.heap.size + 1) 10 (zq a.num (a.den : Int))] [[],[0],[1],[2]] [3,4,5,999] [] [] ?_ ?_
 ·
   refine aa rfl rfl (be (hG:=(by simp only [List.mem_singleton]; omega)) q1_0 e1_0 rfl) ?_; refine aa rfl rfl (ac rfl rfl fun hC h1=>tp (HO1.out _ _ (bb_0.trans hC.below) h1)) ?_; refine aa rfl rfl (ac rfl rfl fun hC h1=>tz (floor_9 (pm h1))) ?_; refine aa rfl rfl (ci R4_0 e2_0 rfl rfl) ?_; exact ae rfl
 intro W z a1 hC hall ha hN1 hD1 bb1
 obtain ⟨cs,hgg,hP⟩:=me hall 3
 have i2:=ab (t:=2) ha e2_0
 repeat first | apply lw | apply lx
 refine wp_ret ?_
 repeat (refine then_r ?_)
 exact co (t:=2) rfl hD1 i2 hgg hP fun v hv=>⟨v,rfl,hv,bb1⟩
theorem TextQ {w : World} {v1 : Value} {a : Rat} {b1 b1' : Bool} {xs1 ys1 : List Nat} (HT : Hid (Tab w ∧ 2 ≤ w.heap.size)) (HO1 : Hid (∀ (W : World) (v : Value),Below w.heap.size w W → Qv W v b1 xs1 b1' ys1 → Calls Tryz.prog 43 #[v] W (TellsP W 9 a.num (a.den : Int)))) (h1 : Qv w v1 b1 xs1 b1' ys1) :
   Calls Tryz.prog 24 #[v1] w (fun e w'=>e = .returned (.string (textQ a)) ∧ Below w.heap.size w w'):=by
 obtain ⟨y1,z1,y1',z1',rfl,H1⟩:=h1.op
 go_enter Tryz.func24,Tryz.ntmps24
 repeat apply wp_seq
 refine mf fun K HK=>?_
 go_wp2
 refine HK.out _ _ (then_n ?_)
 refine mb (G:=fun W=>Code.wp _ _ _ _ W) ?_
 intro W_0 bb_0 K0
 have q1_0:=H1.out _ _ _ bb_0 K0
 clear K0
 refine ly (G:=fun a=>Code.wp _ _ _ a _) 6 ?_
 intro a_0 ha hN_0 hD_0
 have e1_0:=lu ha 1 w.heap.size
 repeat first | apply lw | apply lx
 refine lm bb_0 [kQ b1 xs1 b1' ys1,kP 9 a.num (a.den : Int),kIs (.string (textQ a)),kIs (.string (textQ a))] [[],[0],[1],[2]] [3,4,5,2] [] [] ?_ ?_
 ·
   refine aa rfl rfl (be q1_0 e1_0 rfl) ?_; refine aa rfl rfl (ac rfl rfl fun hC h1=>tp (HO1.out _ _ (bb_0.trans hC.below) h1)) ?_; refine aa rfl rfl (ac rfl rfl fun hC h1=>ti (decimal_9t (Lib.hid ⟨HT.out.1.below (bb_0.trans hC.below) HT.out.2,Nat.le_trans HT.out.2 (bb_0.trans hC.below).size⟩) (pm h1))) ?_; refine p10 ?_; exact ae rfl
 intro W z a_1 hC hall ha hN_1 hD_1 bb_1
 have e2_1:=ln ha hall 2 3
 repeat first | apply lw | apply lx
 refine wp_ret ?_
 repeat (refine then_r ?_)
 exact bc (t:=2) rfl hD_1 e2_1 ⟨rfl,bb_1⟩
theorem DivQ {w : World} {v1 v2 : Value} {a b : Rat} {b1 b1' : Bool} {xs1 ys1 : List Nat} {b2 b2' : Bool} {xs2 ys2 : List Nat} (hz : b.num ≠ 0) (HO1 : Hid (∀ (W : World) (v : Value),Below w.heap.size w W → Qv W v b1 xs1 b1' ys1 → Calls Tryz.prog 43 #[v] W (TellsP W 9 a.num (a.den : Int)))) (HO2 : Hid (∀ (W : World) (v : Value),Below w.heap.size w W → Qv W v b2 xs2 b2' ys2 → Calls Tryz.prog 43 #[v] W (TellsP W 9 b.num (b.den : Int)))) (h1 : Qv w v1 b1 xs1 b1' ys1) (h2 : Qv w v2 b2 xs2 b2' ys2) :
   Calls Tryz.prog 9 #[v1,v2] w (fun e w'=>∃ v,e = .returned (.tuple #[v,.int .i64 (0)]) ∧ Pr w' v 18 (a * (b⁻¹)).num ((a * (b⁻¹)).den : Int) ∧ Below w.heap.size w w'):=by
 obtain ⟨y1,z1,y1',z1',rfl,H1⟩:=h1.op
 obtain ⟨y2,z2,y2',z2',rfl,H2⟩:=h2.op
 go_enter Tryz.func9,Tryz.ntmps9
 repeat apply wp_seq
 refine mf fun K HK=>?_
 go_wp2
 refine HK.out _ _ (then_n ?_)
 refine md (G:=fun W=>Code.wp _ _ _ _ W) ?_
 intro W_0 bb_0 K0 K1 K2
 have q1_0:=H1.out _ _ _ bb_0 K0
 have q2_0:=H2.out _ _ _ bb_0 K1
 have R4_0:=ge K2
 clear K0 K1 K2
 refine ly (G:=fun a=>Code.wp _ _ _ a _) 21 ?_
 intro a_0 ha hN_0 hD_0
 have e2_0:=lu ha 2 w.heap.size
 have e3_0:=lu ha 3 (w.heap.size + 1)
 have e4_0:=lu ha 4 (w.heap.size + 1 + 1)
 repeat first | apply lw | apply lx
 refine lm bb_0 [kQ b2 xs2 b2' ys2,kP 9 b.num (b.den : Int),PK.fresh 4,kPutP 2 9 b.num (b.den : Int)] [[],[0],[],[2,1]] [7,8,6,999] [] [] ?_ ?_
 ·
   refine aa rfl rfl (be q2_0 e3_0 rfl) ?_; refine aa rfl rfl (ac rfl rfl fun hC h1=>tp (HO2.out _ _ (bb_0.trans hC.below) h1)) ?_; refine aa rfl rfl (st_allocF rfl) ?_; refine aa rfl rfl (st_putF rfl rfl rfl) ?_; exact ae rfl
 intro W_1 z a_1 hC hall ha hN_1 hD_1 bb_1
 obtain ⟨g6,hx,hge,y1,y2⟩:=di (me hall 3)
 have d6:=Nat.lt_of_lt_of_le R4_0.lt hge
 have e2_1:=ab ha e2_0
 have e4_1:=ab ha e4_0
 have e6_1:=(ak (t:=6) (i:=2) ha).trans (hx)
 have q1_1:=hC.locQ (by simp) q1_0
 have R4_1:=hC.holds R4_0
 have y1_1:=y1
 have y2_1:=y2
 clear hx hge hC hall y1 y2
 repeat first | apply lw | apply lx
 refine lm bb_1 [lp g6 0,lp g6 0,kZ 9 b.num,lr] [[],[0],[1],[2]] [9,10,11,12] [] [] ?_ ?_
 ·
   refine p01 e6_1 ?_; refine p10 ?_; refine ag y1_1 ?_; refine aa rfl rfl (ac rfl rfl fun hC h1=>ti (isNone_z (rr h1) hz)) ?_; exact ae rfl
 intro W_2 z a_2 hC hall ha hN_2 hD_2 bb_2
 have e2_2:=ab ha e2_1
 have e4_2:=ab ha e4_1
 have e6_2:=ab ha e6_1
 have e12_2:=ln ha hall 12 3
 have q1_2:=hC.locQ (by simp) q1_1
 have R4_2:=hC.holds R4_1
 have y1_2:=hC.at0 y1_1
 have y2_2:=hC.at0 y2_1
 clear hC hall
 refine wp_cond_false e12_2 ?_
 refine wp_skip ?_
 refine then_n ?_
 clear e12_2
 repeat first | apply lw | apply lx
 refine mg bb_2 R4_2 [kQ b1 xs1 b1' ys1,kP 9 a.num (a.den : Int),kP 9 b.num (b.den : Int),kP 9 (b⁻¹).num ((b⁻¹).den : Int),kP 18 (a * (b⁻¹)).num ((a * (b⁻¹)).den : Int),kP 18 (a * (b⁻¹)).num ((a * (b⁻¹)).den : Int),kRes (w.heap.size + 1 + 1) 18 (a * (b⁻¹)).num ((a * (b⁻¹)).den : Int),kIs (.int .i64 (0))] [[],[0],[],[2],[1,3],[4],[5],[]] [15,16,17,18,19,20,999,5] [] [] ?_ ?_
 ·
   refine aa rfl rfl (be (hG:=(by simp only [List.mem_singleton]; omega)) q1_2 e2_2 rfl) ?_; refine aa rfl rfl (ac rfl rfl fun hC h1=>tp (HO1.out _ _ (bb_2.trans hC.below) h1)) ?_; refine aa rfl rfl (st_load4F y1_2 y2_2 e6_2 rfl) ?_; refine aa rfl rfl (ac rfl rfl fun hC h1=>tp (turned_9 hz (pm h1))) ?_; refine aa rfl rfl (ai rfl rfl rfl fun hC h1 h2=>tp (times_9 (pm h1) (pm h2))) ?_; refine aa rfl rfl (dj rfl rfl) ?_; refine aa rfl rfl (bd R4_2 rfl e4_2 rfl rfl) ?_; refine p00 ?_; exact ae rfl
 intro W z a1 hC hall ha hN1 hD1 bb1
 obtain ⟨cs,hgg,hP⟩:=me hall 6
 have i4:=ab (t:=4) ha e4_2
 have i5:=ln ha hall 5 7
 repeat first | apply lw | apply lx
 refine wp_ret ?_
 repeat (refine then_r ?_)
 exact bi (t:=4) (u:=5) rfl hD1 i4 i5 hgg hP fun v hv=>⟨v,rfl,hv,bb1⟩
def isQP (b : Bool) (xs : List Nat) (b' : Bool) (ys : List Nat) (x y : Int) (g : Nat) (w : World) : Prop:=∃ u0 u1 u2 u3 u4 u5 u6 u7,w.heap[g]? = some (.cells #[u0,u1,u2,u3,u4,u5,u6,u7] 26 (0,0)) ∧ Qv w (.agg #[u0,u1,u2,u3]) b xs b' ys ∧ Pr w (.agg #[u4,u5,u6,u7]) 9 x y
def kQP (b : Bool) (xs : List Nat) (b' : Bool) (ys : List Nat) (x y : Int) : PK:=.list 2 (isQP b xs b' ys x y) (fun _ _ _ ⟨u0,u1,u2,u3,u4,u5,u6,u7,h1,h2,h3⟩ hb=>⟨u0,u1,u2,u3,u4,u5,u6,u7,(hb.block _ (lt_block h1)).trans h1,h2.below hb,h3.below hb⟩) (fun _ _ _ _ ⟨u0,u1,u2,u3,u4,u5,u6,u7,h1,h2,h3⟩ hs hne=>⟨u0,u1,u2,u3,u4,u5,u6,u7,(hs.other _ hne).trans h1,h2.stored hs,h3.stored hs⟩)
section
variable {G : List Nat} {S0 B : Nat} {ks : List PK} {a0 : Act} {i : Nat} {N : Nat} {W0 : World} {T : TypeId} {pos : String} {af : Array Edge} {gu : Option (Nat × Bool)}
theorem st_listQP {d j1 t1 j2 t2 : Nat} {b b' : Bool} {xs ys : List Nat} {x1 y1 : Int}       (h1 : at_ ks j1 = kQ b xs b' ys) (h2 : at_ ks j2 = kP 9 x1 y1) (hi : at_ ks i = kQP b xs b' ys x1 y1) (hN : a0.tmps.size = N:=by assumption) (hd : decide (d < N) = true:=by kernel_rfl) (ht1 : decide (t1 < N) = true:=by kernel_rfl) (ht2 : decide (t2 < N) = true:=by kernel_rfl) (hne : decide (t1 = t2) = false:=by kernel_rfl) (hS : S0 ≤ W0.heap.size:=by exact Nat.le_refl _) :
   PkStep Tryz.prog (Reg B W0 G) S0 ks a0 i { dst:=some d,op:=.buildSlice 42 2 #[(0,.tmp t1),(1,.tmp t2)],type:=T,pos:=pos,after:=af,guard:=gu } [(j1,some t1),(j2,some t2)]:=by
 intro w x hC
 refine ay _ fun hdeps K hK=>?_
 have g1:=hdeps (j1,some t1) (by simp)
 rw [h1] at g1
 have g2:=hdeps (j2,some t2) (by simp)
 rw [h2] at g2
 have n12:=of_decide_eq_false hne
 have e1 : (putE x a0 [(j1,some t1),(j2,some t2)]).eval (.tmp t1) = x j1:=putE_new _ _ (by rw [hN]; exact of_decide_eq_true ht1) (by simp [slotAt,Ne.symm n12])
 have e2 : (putE x a0 [(j1,some t1),(j2,some t2)]).eval (.tmp t2) = x j2:=putE_new _ _ (by rw [hN]; exact of_decide_eq_true ht2) (by simp [slotAt])
 obtain ⟨A,c,A',c',z1,r1,r1'⟩:=(show Qv w (x j1) b xs b' ys from g1)
 obtain ⟨A2,l2,c2,A2',l2',c2',z2,r2⟩:=(show Pr w (x j2) 9 x1 y1 from g2).parts
 have hsz:=hC.below.size
 refine cb rfl (by rw [az,hN]) hd (ex_slice2 (e1.trans z1) (e2.trans z2) run_plist2) (hK _ _ ?_ ?_)
 · rw [hi]; exact ⟨(Below.refl _ _).alloc (Nat.le_refl _) _,_,rfl,Nat.le_refl _⟩
 · rw [hi]; have ba:=fun (o : Obj)=>(Below.refl w.heap.size w).alloc (Nat.le_refl _) o; exact ⟨_,rfl,Nat.le_trans hS hsz,lt_alloc _ _,_,_,_,_,_,_,_,_,heap_alloc_new w _,⟨A,c,A',c',rfl,r1.below (ba _),r1'.below (ba _)⟩,r2.below (ba _)⟩
end
theorem Reg.prR {B : Nat} {W0 w : World} {G : List Nat} (h : Reg B W0 G w) {v : Value} {k : Nat} {x y : Int} (hp : Pr W0 v k x y) : Pr w v k x y:=by
 obtain ⟨A,l,c,A',l',c',e,⟨h1,h2⟩,h3,h4⟩:=hp
 exact ⟨A,l,c,A',l',c',e,⟨h.rr h1,h2⟩,h.rr h3,h4⟩
theorem Reg.qvR {B : Nat} {W0 w : World} {G : List Nat} (h : Reg B W0 G w) {v : Value} {b b' : Bool} {xs ys : List Nat} (hp : Qv W0 v b xs b' ys) : Qv w v b xs b' ys:=by
 obtain ⟨A,c,A',c',e,h1,h2⟩:=hp
 exact ⟨A,c,A',c',e,h.row h1,h.row h2⟩
theorem sub_told {w : World} {v : Value} {S0 : Nat} {x : Nat → Value} {b b' : Bool} {xs ys : List Nat} {a c : Rat} (HT : ∀ (W : World) (v : Value), Below w.heap.size w W → Qv W v b xs b' ys → Calls Tryz.prog 48 #[v] W (TellsP W 9 a.num (a.den : Int)))
   (hac : (a.num.natAbs < 1000000000 ^ 9 ∧ a.den < 1000000000 ^ 9) ∧ c.num.natAbs < 1000000000 ^ 9 ∧ c.den < 1000000000 ^ 9) (h : (kQP b xs b' ys (-c.num) (c.den : Int)).sem S0 x v w) : Calls Tryz.prog 33 #[v] w (TellsP w 40 (a + (-c)).num ((a + (-c)).den : Int)):=by
 obtain ⟨g,e,_,hg,u0,u1,u2,u3,u4,u5,u6,u7,hc,hq,hp⟩:=h
 have hn : (-c).num = -c.num:=Rat.neg_num c
 have hd : (-c).den = c.den:=Rat.neg_den c
 have cell : ∀ k,w.cell? ⟨g,k,none⟩ = (#[u0,u1,u2,u3,u4,u5,u6,u7] : Array Value)[k]?:=fun k=>by simp [World.cell?,hc]
 refine refAddE (E:=fun i v w=>if i = 0 then Qv w v b xs b' ys else Pr w v 9 (-c.num) (c.den : Int)) (A:=fun i=>if i = 0 then a else -c) (S:=fun i=>if i = 0 then 0 else if i = 1 then a else a + (-c)) ?_ ?_ ?_ ?_ ⟨g,e,hg,?_⟩ rfl ?_ ?_ ?_
 · intro i v w w' h hb
   by_cases hi : i = 0
   · rw [if_pos hi] at h ⊢; exact h.below hb
   · rw [if_neg hi] at h ⊢; exact h.below hb
 · intro i v w w' g h hs
   by_cases hi : i = 0
   · rw [if_pos hi] at h ⊢; exact h.stored hs
   · rw [if_neg hi] at h ⊢; exact h.stored hs
 · intro i v B W0 G w hR h
   by_cases hi : i = 0
   · rw [if_pos hi] at h ⊢; exact hR.qvR h
   · rw [if_neg hi] at h ⊢; exact hR.prR h
 · intro i hi W v hW h
   by_cases h0 : i = 0
   · rw [if_pos h0] at h ⊢; exact HT W v hW h
   · rw [if_neg h0] at h ⊢; rw [← hn,← hd] at h; have h19 : Pr W v 19 (-c).num ((-c).den : Int):=h.mono (by decide)
     refine (refTake_yes h19).mono fun e w' ⟨v,he,hv,hb⟩=>⟨v,he,hv.tight ?_ ?_,hb⟩
     · rw [hn,Int.natAbs_neg]; exact hac.2.1
     · rw [hd]; exact hac.2.2
 · intro i hi; have hi2 : i = 0 ∨ i = 1:=by omega
   rcases hi2 with rfl | rfl
   · exact ⟨u0,u1,u2,u3,by rw [cell]; rfl,by rw [cell]; rfl,by rw [cell]; rfl,by rw [cell]; rfl,hq⟩
   · exact ⟨u4,u5,u6,u7,by rw [cell]; rfl,by rw [cell]; rfl,by rw [cell]; rfl,by rw [cell]; rfl,hp⟩
 · intro i hi; have hi2 : i = 0 ∨ i = 1:=by omega
   rcases hi2 with rfl | rfl
   · show a = 0 + a; rw [Rat.zero_add]
   · rfl
 · intro i hi; have hi2 : i = 0 ∨ i = 1:=by omega
   rcases hi2 with rfl | rfl
   · exact ⟨(by decide : (0 : Rat).num.natAbs < 1000000000 ^ 9),(by decide : (0 : Rat).den < 1000000000 ^ 9)⟩
   · exact hac.1
 · intro i hi; have hi2 : i = 0 ∨ i = 1:=by omega
   rcases hi2 with rfl | rfl
   · exact hac.1
   · exact ⟨by show (-c).num.natAbs < _; rw [hn,Int.natAbs_neg]; exact hac.2.1,by show (-c).den < _; rw [hd]; exact hac.2.2⟩
theorem refSubQ {w : World} {v1 v2 : Value} {a b : Rat} {b1 b1' : Bool} {xs1 ys1 : List Nat} {b2 b2' : Bool} {xs2 ys2 : List Nat} (hab : (a.num.natAbs < 1000000000 ^ 9 ∧ a.den < 1000000000 ^ 9) ∧ b.num.natAbs < 1000000000 ^ 9 ∧ b.den < 1000000000 ^ 9) (HT1 : Hid (∀ (W : World) (v : Value),Below w.heap.size w W → Qv W v b1 xs1 b1' ys1 → Calls Tryz.prog 48 #[v] W (TellsP W 9 a.num (a.den : Int)))) (HT2 : Hid (∀ (W : World) (v : Value),Below w.heap.size w W → Qv W v b2 xs2 b2' ys2 → Calls Tryz.prog 48 #[v] W (TellsP W 9 b.num (b.den : Int)))) (h1 : Qv w v1 b1 xs1 b1' ys1) (h2 : Qv w v2 b2 xs2 b2' ys2) :
   Calls Tryz.prog 21 #[v1,v2] w (TellsP w 40 (a + (-b)).num ((a + (-b)).den : Int)):=by
 obtain ⟨y1,z1,y1',z1',rfl,H1⟩:=h1.op
 obtain ⟨y2,z2,y2',z2',rfl,H2⟩:=h2.op
 go_enter Tryz.func21,Tryz.ntmps21
 repeat apply wp_seq
 refine mf fun K HK=>?_
 go_wp2
 refine HK.out _ _ (then_n ?_)
 refine md (G:=fun W=>Code.wp _ _ _ _ W) ?_
 intro W_0 bb_0 K0 K1 K2
 have q1_0:=H1.out _ _ _ bb_0 K0
 have q2_0:=H2.out _ _ _ bb_0 K1
 have R4_0:=ge K2
 clear K0 K1 K2
 refine ly (G:=fun a=>Code.wp _ _ _ a _) 10 ?_
 intro a_0 ha hN_0 hD_0
 have e2_0:=lu ha 2 w.heap.size
 have e3_0:=lu ha 3 (w.heap.size + 1)
 have e4_0:=lu ha 4 (w.heap.size + 1 + 1)
 repeat first | apply lw | apply lx
 refine mg bb_0 R4_0 [kQ b1 xs1 b1' ys1,kQ b2 xs2 b2' ys2,kP 9 (-b.num) (b.den : Int),kQP b1 xs1 b1' ys1 (-b.num) (b.den : Int),kP 40 (a + (-b)).num ((a + (-b)).den : Int),kRes (w.heap.size + 1 + 1) 40 (a + (-b)).num ((a + (-b)).den : Int)] [[],[],[1],[0,2],[3],[4]] [5,6,7,8,9,999] [] [] ?_ ?_
 ·
   refine aa rfl rfl (be (hG:=(by simp only [List.mem_singleton]; omega)) q1_0 e2_0 rfl) ?_; refine aa rfl rfl (be (hG:=(by simp only [List.mem_singleton]; omega)) q2_0 e3_0 rfl) ?_; refine aa rfl rfl (ac rfl rfl fun hC h1=>tp (refNegQ (Lib.hid fun W v hW hv=>HT2.out W v ((bb_0.trans hC.below).trans (hW.mono (bb_0.trans hC.below).size)) hv) h1)) ?_; refine aa rfl rfl (st_listQP rfl rfl rfl) ?_; refine aa rfl rfl (ac rfl rfl fun hC h1=>tp (sub_told (fun W v hW hv=>HT1.out W v ((bb_0.trans hC.below).trans (hW.mono (bb_0.trans hC.below).size)) hv) hab h1)) ?_; refine aa rfl rfl (bd R4_0 rfl e4_0 rfl rfl) ?_; exact ae rfl
 intro W z a1 hC hall ha hN1 hD1 bb1
 obtain ⟨cs,hgg,hP⟩:=me hall 5
 have i2:=ab (t:=4) ha e4_0
 repeat first | apply lw | apply lx
 refine wp_ret ?_
 repeat (refine then_r ?_)
 exact dl (t:=4) rfl hD1 i2 hgg hP fun v hv=>⟨v,rfl,hv,bb1⟩
theorem DivQ0 {w : World} {v1 v2 : Value} {b : Rat} {b1 b1' : Bool} {xs1 ys1 : List Nat} {b2 b2' : Bool} {xs2 ys2 : List Nat} (hz : b.num = 0) (HO2 : Hid (∀ (W : World) (v : Value),Below w.heap.size w W → Qv W v b2 xs2 b2' ys2 → Calls Tryz.prog 43 #[v] W (TellsP W 9 b.num (b.den : Int)))) (h1 : Qv w v1 b1 xs1 b1' ys1) (h2 : Qv w v2 b2 xs2 b2' ys2) :
   Calls Tryz.prog 9 #[v1,v2] w (fun e w'=>∃ v,e = .returned (.tuple #[v,.int .i64 (9)]) ∧ Pr w' v 9 0 1 ∧ Below w.heap.size w w'):=by
 obtain ⟨y1,z1,y1',z1',rfl,H1⟩:=h1.op
 obtain ⟨y2,z2,y2',z2',rfl,H2⟩:=h2.op
 go_enter Tryz.func9,Tryz.ntmps9
 repeat apply wp_seq
 refine mf fun K HK=>?_
 go_wp2
 refine HK.out _ _ (then_n ?_)
 refine md (G:=fun W=>Code.wp _ _ _ _ W) ?_
 intro W_0 bb_0 K0 K1 K2
 have q1_0:=H1.out _ _ _ bb_0 K0
 have q2_0:=H2.out _ _ _ bb_0 K1
 have R4_0:=ge K2
 clear K0 K1 K2
 refine ly (G:=fun a=>Code.wp _ _ _ a _) 21 ?_
 intro a_0 ha hN_0 hD_0
 have e2_0:=lu ha 2 w.heap.size
 have e3_0:=lu ha 3 (w.heap.size + 1)
 have e4_0:=lu ha 4 (w.heap.size + 1 + 1)
 repeat first | apply lw | apply lx
 refine lm bb_0 [kQ b2 xs2 b2' ys2,kP 9 b.num (b.den : Int),PK.fresh 4,kPutP 2 9 b.num (b.den : Int)] [[],[0],[],[2,1]] [7,8,6,999] [] [] ?_ ?_
 ·
   refine aa rfl rfl (be q2_0 e3_0 rfl) ?_; refine aa rfl rfl (ac rfl rfl fun hC h1=>tp (HO2.out _ _ (bb_0.trans hC.below) h1)) ?_; refine aa rfl rfl (st_allocF rfl) ?_; refine aa rfl rfl (st_putF rfl rfl rfl) ?_; exact ae rfl
 intro W_1 z a_1 hC hall ha hN_1 hD_1 bb_1
 obtain ⟨g6,hx,hge,y1,y2⟩:=di (me hall 3)
 have d6:=Nat.lt_of_lt_of_le R4_0.lt hge
 have e4_1:=ab ha e4_0
 have e6_1:=(ak (t:=6) (i:=2) ha).trans (hx)
 have R4_1:=hC.holds R4_0
 have y1_1:=y1
 clear hx hge hC hall y1 y2
 repeat first | apply lw | apply lx
 refine lm bb_1 [lp g6 0,lp g6 0,kZ 9 b.num,lq] [[],[0],[1],[2]] [9,10,11,12] [] [] ?_ ?_
 ·
   refine p01 e6_1 ?_; refine p10 ?_; refine ag y1_1 ?_; refine aa rfl rfl (ac rfl rfl fun hC h1=>ti (isNone_zero (rr h1) hz)) ?_; exact ae rfl
 intro W_2 z a_2 hC hall ha hN_2 hD_2 bb_2
 have e4_2:=ab ha e4_1
 have e12_2:=ln ha hall 12 3
 have R4_2:=hC.holds R4_1
 clear hC hall
 refine wp_cond_true e12_2 ?_
 clear e12_2
 repeat first | apply lw | apply lx
 refine mg bb_2 R4_2 [kP 9 0 1,kP 9 0 1,kRes (w.heap.size + 1 + 1) 9 0 1,kIs (.int .i64 (9))] [[],[0],[1],[]] [13,14,999,5] [] [] ?_ ?_
 ·
   refine aa rfl rfl (aq [] rfl rfl fun hC=>tp jw) ?_; refine aa rfl rfl (dj rfl rfl) ?_; refine aa rfl rfl (bd R4_2 rfl e4_2 rfl rfl) ?_; refine p00 ?_; exact ae rfl
 intro W z a1 hC hall ha hN1 hD1 bb1
 obtain ⟨cs,hgg,hP⟩:=me hall 2
 have i4:=ab (t:=4) ha e4_2
 have i5:=ln ha hall 5 3
 repeat first | apply lw | apply lx
 refine wp_ret ?_
 repeat (refine then_r ?_)
 exact bi (t:=4) (u:=5) rfl hD1 i4 i5 hgg hP fun v hv=>⟨v,rfl,hv,bb1⟩
theorem refTextQ_w {w : World} {v1 : Value} {a : Rat} {b1 b1' : Bool} {xs1 ys1 : List Nat} (hz : a.den = 1) (HT1 : Hid (∀ (W : World) (v : Value),Below w.heap.size w W → Qv W v b1 xs1 b1' ys1 → Calls Tryz.prog 48 #[v] W (TellsP W 9 a.num (a.den : Int)))) (h1 : Qv w v1 b1 xs1 b1' ys1) :
   Calls Tryz.prog 25 #[v1] w (fun e w'=>e = .returned (.string (ztext a.num)) ∧ Below w.heap.size w w'):=by
 obtain ⟨y1,z1,y1',z1',rfl,H1⟩:=h1.op
 go_enter Tryz.func25,Tryz.ntmps25
 repeat apply wp_seq
 refine mf fun K HK=>?_
 go_wp2
 refine HK.out _ _ (then_n ?_)
 refine mb (G:=fun W=>Code.wp _ _ _ _ W) ?_
 intro W_0 bb_0 K0
 have q1_0:=H1.out _ _ _ bb_0 K0
 clear K0
 refine ly (G:=fun a=>Code.wp _ _ _ a _) 21 ?_
 intro a_0 ha hN_0 hD_0
 have e1_0:=lu ha 1 w.heap.size
 repeat first | apply lw | apply lx
 obtain ⟨u1,u2,u3,u4,X3⟩ : ∃ u1 u2 u3 u4,Holds_ W_0 (w.heap.size) #[u1,u2,u3,u4]:=by obtain ⟨_,_,_,_,hh,_⟩:=q1_0; exact ⟨_,_,_,_,hh⟩
 refine Wk9 bb_0 X3 2 [0] [kQ b1 xs1 b1' ys1,kP 9 a.num (a.den : Int),kRes (w.heap.size) 9 a.num (a.den : Int)] [[],[0],[1]] [4,5,999] [] [] ?_ ?_
 ·
   refine bj rfl rfl rfl ?_ ?_
   · exact eb q1_0 e1_0 rfl
   refine ah rfl rfl (ac rfl rfl fun hC h1=>tp (HT1.out _ _ (bb_0.trans hC.below) h1)) ?_; refine ah rfl rfl (bd X3 rfl e1_0 rfl rfl) ?_; exact cn rfl
 intro W_1 z a_1 hC hall ha hN_1 hD_1 bb_1
 obtain ⟨X1,X2⟩:=dt (me hall 2)
 have e1_1:=ab ha e1_0
 have p1_1:=X1
 have p1'_1:=X2
 clear hC hall X1 X2 X3
 repeat first | apply lw | apply lx
 refine lm bb_1 [lp w.heap.size 0,kZ 9 a.num,kIs (.string (ztext a.num)),kIs (.string (ztext a.num))] [[],[0],[1],[2]] [6,7,8,3] [] [] ?_ ?_
 ·
   refine p01 e1_1 ?_; refine ag p1_1 ?_; refine aa rfl rfl (ac rfl rfl fun hC h1=>ti (r2_text ((rr h1).zc (by decide)) (by decide))) ?_; refine p10 ?_; exact ae rfl
 intro W_2 z a_2 hC hall ha hN_2 hD_2 bb_2
 have e1_2:=ab ha e1_1
 have e3_2:=ln ha hall 3 3
 have p1'_2:=hC.atR (by simp) p1'_1
 clear hC hall
 repeat first | apply lw | apply lx
 refine lm bb_2 [lp w.heap.size 2,kZ 9 (a.den : Int),kZ 1 1,kIs (.int .i64 (0)),lq] [[],[0],[],[1,2],[3]] [9,10,11,12,13] [] [] ?_ ?_
 ·
   refine p01 e1_2 ?_; refine ag p1'_2 ?_; refine aa rfl rfl (aq [] rfl rfl fun hC=>tz ie) ?_; refine aa rfl rfl (ai rfl rfl rfl fun hC h1 h2=>ti (cmp_is (ord_eq (by rw [hz]; rfl)) (r2_cmp ((rr h1).mono (by decide)) ((rr h2).mono (by decide))))) ?_; refine p10 ?_; exact ae rfl
 intro W_3 z a_3 hC hall ha hN_3 hD_3 bb_3
 have e3_3:=ab ha e3_2
 have e13_3:=ln ha hall 13 4
 clear hC hall
 refine wp_cond_true e13_3 ?_
 clear e13_3
 repeat first | apply lw | apply lx
 refine lm bb_3 [kIs (.string (ztext a.num)),kIs (.string (ztext a.num))] [[],[0]] [14,2] [] [] ?_ ?_
 ·
   refine p01 e3_3 ?_; refine p10 ?_; exact ae rfl
 intro W z a_4 hC hall ha hN_4 hD_4 bb_4
 have e2_4:=ln ha hall 2 1
 repeat first | apply lw | apply lx
 refine wp_ret ?_
 repeat (refine then_r ?_)
 exact bc (t:=2) rfl hD_4 e2_4 ⟨rfl,bb_4⟩
theorem refTextQ_b {w : World} {v1 : Value} {a : Rat} {b1 b1' : Bool} {xs1 ys1 : List Nat} (hz : a.den ≠ 1) (HT1 : Hid (∀ (W : World) (v : Value),Below w.heap.size w W → Qv W v b1 xs1 b1' ys1 → Calls Tryz.prog 48 #[v] W (TellsP W 9 a.num (a.den : Int)))) (h1 : Qv w v1 b1 xs1 b1' ys1) :
   Calls Tryz.prog 25 #[v1] w (fun e w'=>e = .returned (.string ((ztext a.num ++ ⟨#[47]⟩) ++ ztext (a.den : Int))) ∧ Below w.heap.size w w'):=by
 obtain ⟨y1,z1,y1',z1',rfl,H1⟩:=h1.op
 go_enter Tryz.func25,Tryz.ntmps25
 repeat apply wp_seq
 refine mf fun K HK=>?_
 go_wp2
 refine HK.out _ _ (then_n ?_)
 refine mb (G:=fun W=>Code.wp _ _ _ _ W) ?_
 intro W_0 bb_0 K0
 have q1_0:=H1.out _ _ _ bb_0 K0
 clear K0
 refine ly (G:=fun a=>Code.wp _ _ _ a _) 21 ?_
 intro a_0 ha hN_0 hD_0
 have e1_0:=lu ha 1 w.heap.size
 repeat first | apply lw | apply lx
 obtain ⟨u1,u2,u3,u4,X3⟩ : ∃ u1 u2 u3 u4,Holds_ W_0 (w.heap.size) #[u1,u2,u3,u4]:=by obtain ⟨_,_,_,_,hh,_⟩:=q1_0; exact ⟨_,_,_,_,hh⟩
 refine Wk9 bb_0 X3 2 [0] [kQ b1 xs1 b1' ys1,kP 9 a.num (a.den : Int),kRes (w.heap.size) 9 a.num (a.den : Int)] [[],[0],[1]] [4,5,999] [] [] ?_ ?_
 ·
   refine bj rfl rfl rfl ?_ ?_
   · exact eb q1_0 e1_0 rfl
   refine ah rfl rfl (ac rfl rfl fun hC h1=>tp (HT1.out _ _ (bb_0.trans hC.below) h1)) ?_; refine ah rfl rfl (bd X3 rfl e1_0 rfl rfl) ?_; exact cn rfl
 intro W_1 z a_1 hC hall ha hN_1 hD_1 bb_1
 obtain ⟨X1,X2⟩:=dt (me hall 2)
 have e1_1:=ab ha e1_0
 have p1_1:=X1
 have p1'_1:=X2
 clear hC hall X1 X2 X3
 repeat first | apply lw | apply lx
 refine lm bb_1 [lp w.heap.size 0,kZ 9 a.num,kIs (.string (ztext a.num)),kIs (.string (ztext a.num))] [[],[0],[1],[2]] [6,7,8,3] [] [] ?_ ?_
 ·
   refine p01 e1_1 ?_; refine ag p1_1 ?_; refine aa rfl rfl (ac rfl rfl fun hC h1=>ti (r2_text ((rr h1).zc (by decide)) (by decide))) ?_; refine p10 ?_; exact ae rfl
 intro W_2 z a_2 hC hall ha hN_2 hD_2 bb_2
 have e1_2:=ab ha e1_1
 have e3_2:=ln ha hall 3 3
 have p1_2:=hC.atR (by simp) p1_1
 have p1'_2:=hC.atR (by simp) p1'_1
 clear hC hall
 repeat first | apply lw | apply lx
 refine lm bb_2 [lp w.heap.size 2,kZ 9 (a.den : Int),kZ 1 1,kIs (.int .i64 (1)),lr] [[],[0],[],[1,2],[3]] [9,10,11,12,13] [] [] ?_ ?_
 ·
   refine p01 e1_2 ?_; refine ag p1'_2 ?_; refine aa rfl rfl (aq [] rfl rfl fun hC=>tz ie) ?_; refine aa rfl rfl (ai rfl rfl rfl fun hC h1 h2=>ti (cmp_is (ord_gt (den_one hz)) (r2_cmp ((rr h1).mono (by decide)) ((rr h2).mono (by decide))))) ?_; refine p10 ?_; exact ae rfl
 intro W_3 z a_3 hC hall ha hN_3 hD_3 bb_3
 have e1_3:=ab ha e1_2
 have e3_3:=ab ha e3_2
 have e13_3:=ln ha hall 13 4
 have p1_3:=hC.atR (by simp) p1_2
 have p1'_3:=hC.atR (by simp) p1'_2
 clear hC hall
 refine wp_cond_false e13_3 ?_
 clear e13_3
 refine wp_skip ?_
 refine then_n ?_
 repeat first | apply lw | apply lx
 refine lm bb_3 [kIs (.string (ztext a.num)),kIs (.string (ztext a.num ++ ⟨#[47]⟩)),lp w.heap.size 2,kZ 9 (a.den : Int),kIs (.string (ztext (a.den : Int))),kIs (.string ((ztext a.num ++ ⟨#[47]⟩) ++ ztext (a.den : Int))),kIs (.string ((ztext a.num ++ ⟨#[47]⟩) ++ ztext (a.den : Int)))] [[],[0],[],[2],[3],[1,4],[5]] [15,16,17,18,19,20,2] [] [] ?_ ?_
 ·
   refine p01 e3_3 ?_; refine p10 (hr:=fun _=>gj (by kernel_rfl) (by kernel_rfl) (p1_3.add1 (by decide) (by decide))) ?_; refine p01 e1_3 ?_; refine ag p1'_3 ?_; refine aa rfl rfl (ac rfl rfl fun hC h1=>ti (r2_text ((rr h1).zc (by decide)) (by decide))) ?_; refine p20 (hr:=fun _=>gj (by kernel_rfl) (by kernel_rfl) (p1_3.add2 p1'_3 (by decide) (by decide))) ?_; refine p10 ?_; exact ae rfl
 intro W z a_4 hC hall ha hN_4 hD_4 bb_4
 have e2_4:=ln ha hall 2 6
 repeat first | apply lw | apply lx
 refine wp_ret ?_
 repeat (refine then_r ?_)
 exact bc (t:=2) rfl hD_4 e2_4 ⟨rfl,bb_4⟩
theorem refTextQ {w : World} {v1 : Value} {a : Rat} {b1 b1' : Bool} {xs1 ys1 : List Nat} (HT1 : Hid (∀ (W : World) (v : Value),Below w.heap.size w W → Qv W v b1 xs1 b1' ys1 → Calls Tryz.prog 48 #[v] W (TellsP W 9 a.num (a.den : Int)))) (h1 : Qv w v1 b1 xs1 b1' ys1) : Calls Tryz.prog 25 #[v1] w (fun e w'=>e = .returned (.string (textQ a)) ∧ Below w.heap.size w w'):=by
 by_cases h : a.den = 1
 · rw [gn h]; exact refTextQ_w h HT1 h1
 · rw [ff h]; exact refTextQ_b h HT1 h1
theorem ofQ_no {w : World} {v1 : Value} {b1 b1' : Bool} {xs1 ys1 : List Nat} (HR : Hid (∀ (W : World) (v : Value),Below w.heap.size w W → Qv W v b1 xs1 b1' ys1 → Calls Tryz.prog 16 #[v] W (SaysB W false))) (h1 : Qv w v1 b1 xs1 b1' ys1) :
   Calls Tryz.prog 43 #[v1] w (TellsP w 9 0 1):=by
 obtain ⟨y1,z1,y1',z1',rfl,H1⟩:=h1.op
 go_enter Tryz.func43,Tryz.ntmps43
 repeat apply wp_seq
 refine mf fun K HK=>?_
 go_wp2
 refine HK.out _ _ (then_n ?_)
 refine mc (G:=fun W=>Code.wp _ _ _ _ W) ?_
 intro W_0 bb_0 K0 K1
 have q1_0:=H1.out _ _ _ bb_0 K0
 have R4_0:=ge K1
 clear K0 K1
 refine ly (G:=fun a=>Code.wp _ _ _ a _) 17 ?_
 intro a_0 ha hN_0 hD_0
 have e1_0:=lu ha 1 w.heap.size
 have e2_0:=lu ha 2 (w.heap.size + 1)
 repeat first | apply lw | apply lx
 refine lm bb_0 [kQ b1 xs1 b1' ys1,lr,lq] [[],[0],[1]] [3,4,5] [] [] ?_ ?_
 ·
   refine aa rfl rfl (be q1_0 e1_0 rfl) ?_; refine aa rfl rfl (ac rfl rfl fun hC h1=>ti (HR.out _ _ (bb_0.trans hC.below) h1)) ?_; refine p10 ?_; exact ae rfl
 intro W_1 z a_1 hC hall ha hN_1 hD_1 bb_1
 have e2_1:=ab ha e2_0
 have e5_1:=ln ha hall 5 2
 have R4_1:=hC.holds R4_0
 clear hC hall
 refine wp_cond_true e5_1 ?_
 clear e5_1
 repeat first | apply lw | apply lx
 refine mg bb_1 R4_1 [kP 9 0 1,kRes (w.heap.size + 1) 9 0 1] [[],[0]] [6,999] [] [] ?_ ?_
 ·
   refine aa rfl rfl (aq [] rfl rfl fun hC=>tp jw) ?_; refine aa rfl rfl (gi R4_1 rfl e2_1 rfl rfl) ?_; exact ae rfl
 intro W z a1 hC hall ha hN1 hD1 bb1
 obtain ⟨cs,hgg,hP⟩:=me hall 1
 have i2:=ab (t:=2) ha e2_1
 repeat first | apply lw | apply lx
 refine wp_ret ?_
 repeat (refine then_r ?_)
 exact ea (t:=2) rfl hD1 i2 hgg hP fun v hv=>⟨v,rfl,hv,bb1⟩
theorem takeQ_no {w : World} {v1 : Value} {b1 b1' : Bool} {xs1 ys1 : List Nat} (HR : Hid (∀ (W : World) (v : Value),Below w.heap.size w W → Qv W v b1 xs1 b1' ys1 → Calls Tryz.prog 17 #[v] W (SaysB W false))) (h1 : Qv w v1 b1 xs1 b1' ys1) :
   Calls Tryz.prog 48 #[v1] w (TellsP w 1 0 1):=by
 obtain ⟨y1,z1,y1',z1',rfl,H1⟩:=h1.op
 go_enter Tryz.func48,Tryz.ntmps48
 repeat apply wp_seq
 refine mf fun K HK=>?_
 go_wp2
 refine HK.out _ _ (then_n ?_)
 refine mc (G:=fun W=>Code.wp _ _ _ _ W) ?_
 intro W_0 bb_0 K0 K1
 have q1_0:=H1.out _ _ _ bb_0 K0
 have R4_0:=ge K1
 clear K0 K1
 refine ly (G:=fun a=>Code.wp _ _ _ a _) 7 ?_
 intro a_0 ha hN_0 hD_0
 have e1_0:=lu ha 1 w.heap.size
 have e2_0:=lu ha 2 (w.heap.size + 1)
 repeat first | apply lw | apply lx
 refine lm bb_0 [kQ b1 xs1 b1' ys1,lr] [[],[0]] [3,4] [] [] ?_ ?_
 ·
   refine aa rfl rfl (be q1_0 e1_0 rfl) ?_; refine aa rfl rfl (ac rfl rfl fun hC h1=>ti (HR.out _ _ (bb_0.trans hC.below) h1)) ?_; exact ae rfl
 intro W_1 z a_1 hC hall ha hN_1 hD_1 bb_1
 have e2_1:=ab ha e2_0
 have e4_1:=ln ha hall 4 1
 have R4_1:=hC.holds R4_0
 clear hC hall
 refine wp_cond_false e4_1 ?_
 refine wp_skip ?_
 refine then_n ?_
 clear e4_1
 repeat first | apply lw | apply lx
 refine mg bb_1 R4_1 [kP 1 0 1,kRes (w.heap.size + 1) 1 0 1] [[],[0]] [6,999] [] [] ?_ ?_
 ·
   refine aa rfl rfl (aq [] rfl rfl fun hC=>tp db) ?_; refine aa rfl rfl (bd R4_1 rfl e2_1 rfl rfl) ?_; exact ae rfl
 intro W z a1 hC hall ha hN1 hD1 bb1
 obtain ⟨cs,hgg,hP⟩:=me hall 1
 have i2:=ab (t:=2) ha e2_1
 repeat first | apply lw | apply lx
 refine wp_ret ?_
 repeat (refine then_r ?_)
 exact dl (t:=2) rfl hD1 i2 hgg hP fun v hv=>⟨v,rfl,hv,bb1⟩
theorem refRightQ_no1 {w : World} {v1 : Value} {b1 b1' : Bool} {xs1 ys1 : List Nat} (HA : Hid (∀ (W : World) (v : Value),Below w.heap.size w W → Nv W v b1 xs1 → Calls Tryz.prog 52 #[v] W (SaysB W false))) (h1 : Qv w v1 b1 xs1 b1' ys1) :
   Calls Tryz.prog 17 #[v1] w (SaysB w false):=by
 obtain ⟨y1,z1,y1',z1',rfl,H1⟩:=h1.op
 go_enter Tryz.func17,Tryz.ntmps17
 repeat apply wp_seq
 refine mf fun K HK=>?_
 go_wp2
 refine HK.out _ _ (then_n ?_)
 refine mb (G:=fun W=>Code.wp _ _ _ _ W) ?_
 intro W_0 bb_0 K0
 have q1_0:=H1.out _ _ _ bb_0 K0
 clear K0
 refine ly (G:=fun a=>Code.wp _ _ _ a _) 29 ?_
 intro a_0 ha hN_0 hD_0
 have e1_0:=lu ha 1 w.heap.size
 repeat first | apply lw | apply lx
 refine lm bb_0 [lp w.heap.size 0,kN b1 xs1,lr,lr,ls,ls,ls,lr,lr,ls,ls,ls,ls,ls,lr,lr,ls,ls,ls,ls,ls,ls,ls,ls,ls,lr,lr] [[],[0],[1],[2],[],[4],[5],[3,6],[7],[],[9],[],[10,11],[12],[8,13],[14],[],[16],[],[18],[17,19],[20],[],[21,22],[23],[15,24],[25]] [3,4,5,6,7,8,9,10,11,12,13,14,15,16,17,18,19,20,21,22,23,24,25,26,27,28,2] [(3,false),(8,false),(15,false)] [4,5,6,9,10,11,12,13,16,17,18,19,20,21,22,23,24] ?_ ?_
 ·
   refine p01 e1_0 ?_; refine aa rfl rfl (dw q1_0 rfl rfl) ?_; refine aa rfl rfl (ac rfl rfl fun hC h1=>ti (HA.out _ _ (bb_0.trans hC.below) h1)) ?_; refine p10 ?_; refine am rfl ?_; refine am rfl ?_; refine am rfl ?_; refine p20 ?_; refine p10 ?_; refine am rfl ?_; refine am rfl ?_; refine am rfl ?_; refine am rfl ?_; refine am rfl ?_; refine p20 ?_; refine p10 ?_; refine am rfl ?_; refine am rfl ?_; refine am rfl ?_; refine am rfl ?_; refine am rfl ?_; refine am rfl ?_; refine am rfl ?_; refine am rfl ?_; refine am rfl ?_; refine p20 ?_; refine p10 ?_; exact ae rfl
 intro W z a_1 hC hall ha hN_1 hD_1 bb_1
 have e2_1:=ln ha hall 2 26
 repeat first | apply lw | apply lx
 refine wp_ret ?_
 repeat (refine then_r ?_)
 exact bc (t:=2) rfl hD_1 e2_1 ⟨rfl,bb_1⟩
theorem refRightQ_no2 {w : World} {v1 : Value} {b1 b1' : Bool} {xs1 ys1 : List Nat} (HA : Hid (∀ (W : World) (v : Value),Below w.heap.size w W → Nv W v b1 xs1 → Calls Tryz.prog 52 #[v] W (SaysB W true))) (HB : Hid (∀ (W : World) (v : Value),Below w.heap.size w W → Nv W v b1' ys1 → Calls Tryz.prog 52 #[v] W (SaysB W false))) (h1 : Qv w v1 b1 xs1 b1' ys1) :
   Calls Tryz.prog 17 #[v1] w (SaysB w false):=by
 obtain ⟨y1,z1,y1',z1',rfl,H1⟩:=h1.op
 go_enter Tryz.func17,Tryz.ntmps17
 repeat apply wp_seq
 refine mf fun K HK=>?_
 go_wp2
 refine HK.out _ _ (then_n ?_)
 refine mb (G:=fun W=>Code.wp _ _ _ _ W) ?_
 intro W_0 bb_0 K0
 have q1_0:=H1.out _ _ _ bb_0 K0
 clear K0
 refine ly (G:=fun a=>Code.wp _ _ _ a _) 29 ?_
 intro a_0 ha hN_0 hD_0
 have e1_0:=lu ha 1 w.heap.size
 repeat first | apply lw | apply lx
 refine lm bb_0 [lp w.heap.size 0,kN b1 xs1,lq,lq,lp w.heap.size 2,kN b1' ys1,lr,lr,lr,ls,ls,ls,ls,ls,lr,lr,ls,ls,ls,ls,ls,ls,ls,ls,ls,lr,lr] [[],[0],[1],[2],[],[4],[5],[3,6],[7],[],[9],[],[10,11],[12],[8,13],[14],[],[16],[],[18],[17,19],[20],[],[21,22],[23],[15,24],[25]] [3,4,5,6,7,8,9,10,11,12,13,14,15,16,17,18,19,20,21,22,23,24,25,26,27,28,2] [(3,true),(8,false),(15,false)] [9,10,11,12,13,16,17,18,19,20,21,22,23,24] ?_ ?_
 ·
   refine p01 e1_0 ?_; refine aa rfl rfl (dw q1_0 rfl rfl) ?_; refine aa rfl rfl (ac rfl rfl fun hC h1=>ti (HA.out _ _ (bb_0.trans hC.below) h1)) ?_; refine p10 ?_; refine p01 e1_0 ?_; refine aa rfl rfl (jz q1_0 rfl rfl) ?_; refine aa rfl rfl (ac rfl rfl fun hC h1=>ti (HB.out _ _ (bb_0.trans hC.below) h1)) ?_; refine p20 ?_; refine p10 ?_; refine am rfl ?_; refine am rfl ?_; refine am rfl ?_; refine am rfl ?_; refine am rfl ?_; refine p20 ?_; refine p10 ?_; refine am rfl ?_; refine am rfl ?_; refine am rfl ?_; refine am rfl ?_; refine am rfl ?_; refine am rfl ?_; refine am rfl ?_; refine am rfl ?_; refine am rfl ?_; refine p20 ?_; refine p10 ?_; exact ae rfl
 intro W z a_1 hC hall ha hN_1 hD_1 bb_1
 have e2_1:=ln ha hall 2 26
 repeat first | apply lw | apply lx
 refine wp_ret ?_
 repeat (refine then_r ?_)
 exact bc (t:=2) rfl hD_1 e2_1 ⟨rfl,bb_1⟩
def BothTell (b : Bool) (xs : List Nat) (b' : Bool) (ys : List Nat) (a : Rat) (rt : Bool) : Prop :=
 a.num.natAbs < 1000000000 ^ 9 ∧ a.den < 1000000000 ^ 9 ∧ ∀ (W : World) (v : Value), Qv W v b xs b' ys →
   Calls Tryz.prog 16 #[v] W (SaysB W rt) ∧ Calls Tryz.prog 43 #[v] W (TellsP W 9 a.num (a.den : Int)) ∧
   Calls Tryz.prog 17 #[v] W (SaysB W rt) ∧ Calls Tryz.prog 48 #[v] W (TellsP W 9 a.num (a.den : Int))
theorem Qv.pr {W : World} {v : Value} {b b' : Bool} {xs ys : List Nat} (h : Qv W v b xs b' ys) (s1 : small 4294967296 xs) (l1 : xs.length ≤ 8) (s2 : small 4294967296 ys) (l2 : ys.length ≤ 8) (h1 : RN b xs) (h2 : RN b' ys) : Pr W v 9 (zOf (val xs) b) (zOf (val ys) b'):=by
 obtain ⟨A,c,A',c',rfl,r1,r2⟩:=h
 have e1:=sign_of h1.1 h1.2
 have e2:=sign_of h2.1 h2.2
 exact ⟨A,_,c,A',_,c',by rw [e1,e2],⟨by rw [bk]; exact ⟨_,_,xs,rfl,r1,h1.1,by omega,rfl⟩,by rw [bk]; exact Nat.lt_of_lt_of_le (val_lt32 s1) (pow_le (by omega))⟩,by rw [bk]; exact ⟨_,_,ys,rfl,r2,h2.1,by omega,rfl⟩,by rw [bk]; exact Nat.lt_of_lt_of_le (val_lt32 s2) (pow_le (by omega))⟩
theorem tells_nought {P : Program} {F : FuncId} {vs : Array Value} {w : World} {k : Nat} (hk : k ≤ 9) (h : Calls P F vs w (TellsP w k 0 1)) : Calls P F vs w (TellsP w 9 (0 : Rat).num ((0 : Rat).den : Int)) :=
 h.mono fun _ _ ⟨v,e,hp,hb⟩=>⟨v,e,hp.mono hk,hb⟩
theorem ratQ {b b' : Bool} {xs ys : List Nat} (s1 : small 4294967296 xs) (l1 : xs.length ≤ 8) (s2 : small 4294967296 ys) (l2 : ys.length ≤ 8) : ∃ (a : Rat) (rt : Bool),BothTell b xs b' ys a rt:=by
 have hz : (0 : Rat).num.natAbs < 1000000000 ^ 9 ∧ (0 : Rat).den < 1000000000 ^ 9:=by decide
 have no : (∀ (W : World) (v : Value),Qv W v b xs b' ys → Calls Tryz.prog 16 #[v] W (SaysB W false)) → (∀ (W : World) (v : Value),Qv W v b xs b' ys → Calls Tryz.prog 17 #[v] W (SaysB W false)) → ∃ (a : Rat) (rt : Bool),BothTell b xs b' ys a rt:=fun hr hr' =>
   ⟨0,false,hz.1,hz.2,fun W v hv=>⟨hr W v hv,tells_nought (by decide) (ofQ_no (Lib.hid fun W' v' _ h=>hr W' v' h) hv),hr' W v hv,tells_nought (by decide) (takeQ_no (Lib.hid fun W' v' _ h=>hr' W' v' h) hv)⟩⟩
 have nv1 : ∀ (W : World) (v : Value),Nv W v b xs → (RN b xs → Calls Tryz.prog 52 #[v] W (SaysB W true)) ∧ (¬ RN b xs → Calls Tryz.prog 52 #[v] W (SaysB W false)):=fun W v h =>
   ⟨fun h1=>r2_right (h.zr s1 l1 h1.1 h1.2),fun h1=>gd h s1 l1 h1⟩
 by_cases h1 : RN b xs
 · by_cases h2 : RN b' ys
   · by_cases h3 : 0 < zOf (val ys) b' ∧ ((zgcd [(zOf (val xs) b),(zOf (val ys) b')] : Nat) : Int) = 1
     · obtain ⟨a,ha,hb⟩:=rat_of h3; have hp : ∀ (W : World) (v : Value),Qv W v b xs b' ys → Pr W v 9 a.num (a.den : Int):=fun W v hv=>by rw [ha,hb]; exact hv.pr s1 l1 s2 l2 h1 h2
       have n1 : a.num.natAbs < 1000000000 ^ 9:=by rw [ha,bk]; exact Nat.lt_of_lt_of_le (val_lt32 s1) (pow_le (by omega))
       have n2 : a.den < 1000000000 ^ 9:=by
         have e : ((a.den : Int)).natAbs = val ys:=by rw [hb,bk]
         have e2 : a.den = val ys:=e; rw [e2]; exact Nat.lt_of_lt_of_le (val_lt32 s2) (pow_le (by omega))
       refine ⟨a,true,n1,n2,fun W v hv=>⟨right_9 (hp W v hv),of_9 (hp W v hv),refRight_yes ((hp W v hv).mono (by decide)),?_⟩⟩
       exact (refTake_yes ((hp W v hv).mono (by decide))).mono fun _ _ ⟨u,e,hu,hb⟩=>⟨u,e,hu.tight n1 n2,hb⟩
     · exact no (fun W v hv=>right_no_9 h3 (hv.pr s1 l1 s2 l2 h1 h2)) fun W v hv=>refRight_no h3 ((hv.pr s1 l1 s2 l2 h1 h2).mono (by decide))
   · refine no (fun W v hv=>?_) fun W v hv=>refRightQ_no2 (Lib.hid fun W' v' _ h=>(nv1 W' v' h).1 h1) (Lib.hid fun W' v' _ h=>gd h s2 l2 h2) hv; obtain ⟨A,c,A',c',rfl,r1,r2⟩:=hv; exact rRight_no2 (fun W' hW'=>ib b ⟨_,_,xs,rfl,r1.below hW',h1.1,by omega,rfl⟩ fun e=>h1.2 (right_zero h1.1 e)) fun W' hW'=>je (r2.below hW') s2 (by omega) h2
 · refine no (fun W v hv=>?_) fun W v hv=>refRightQ_no1 (Lib.hid fun W' v' _ h=>(nv1 W' v' h).2 h1) hv; obtain ⟨A,c,A',c',rfl,r1,r2⟩:=hv; exact rRight_no1 fun W' hW'=>je (r1.below hW') s1 (by omega) h1
theorem OfN_no1 {w : World} {v1 v2 : Value} {b1 : Bool} {xs1 : List Nat} {b2 : Bool} {xs2 : List Nat} (HA : Hid (∀ (W : World) (v : Value),Below w.heap.size w W → Nv W v b1 xs1 → Calls Tryz.prog 50 #[v] W (SaysB W false))) (h1 : Nv w v1 b1 xs1) (h2 : Nv w v2 b2 xs2) :
   Calls Tryz.prog 11 #[v1,v2] w (fun e w'=>∃ v,e = .returned (.tuple #[v,.int .i64 (2)]) ∧ Pr w' v 9 0 1 ∧ Below w.heap.size w w'):=by
 obtain ⟨A1,c1,rfl,r1⟩:=h1
 have H1:=Lib.hid r1
 clear r1
 obtain ⟨A2,c2,rfl,r2⟩:=h2
 have H2:=Lib.hid r2
 clear r2
 go_enter Tryz.func11,Tryz.ntmps11
 repeat apply wp_seq
 refine mf fun K HK=>?_
 go_wp2
 refine HK.out _ _ (then_n ?_)
 refine md (G:=fun W=>Code.wp _ _ _ _ W) ?_
 intro W_0 bb_0 K0 K1 K2
 have q1_0 : LocN W_0 (w.heap.size) b1 xs1:=⟨A1,c1,⟨⟨_,K0⟩,by simp [noDig]⟩,H1.out.below bb_0⟩
 have q2_0 : LocN W_0 (w.heap.size + 1) b2 xs2:=⟨A2,c2,⟨⟨_,K1⟩,by simp [noDig]⟩,H2.out.below bb_0⟩
 have R4_0:=ge K2
 clear K0 K1 K2
 refine ly (G:=fun a=>Code.wp _ _ _ a _) 24 ?_
 intro a_0 ha hN_0 hD_0
 have e2_0:=lu ha 2 w.heap.size
 have e3_0:=lu ha 3 (w.heap.size + 1)
 have e4_0:=lu ha 4 (w.heap.size + 1 + 1)
 repeat first | apply lw | apply lx
 refine lm bb_0 [kN b1 xs1,lr,lq,lq,ls,ls,ls,lq] [[],[0],[1],[2],[],[4],[5],[3,6]] [6,7,8,9,10,11,12,13] [(3,true)] [4,5,6] ?_ ?_
 ·
   refine aa rfl rfl (ey q1_0 e2_0 rfl) ?_; refine aa rfl rfl (ac rfl rfl fun hC h1=>ti (HA.out _ _ (bb_0.trans hC.below) h1)) ?_; refine p10 ?_; refine p10 ?_; refine am rfl ?_; refine am rfl ?_; refine am rfl ?_; refine p20 ?_; exact ae rfl
 intro W_1 z a_1 hC hall ha hN_1 hD_1 bb_1
 have e4_1:=ab ha e4_0
 have e13_1:=ln ha hall 13 7
 have R4_1:=hC.holds R4_0
 clear hC hall
 refine wp_cond_true e13_1 ?_
 clear e13_1
 repeat first | apply lw | apply lx
 refine mg bb_1 R4_1 [kP 9 0 1,kP 9 0 1,kRes (w.heap.size + 1 + 1) 9 0 1,kIs (.int .i64 (2))] [[],[0],[1],[]] [14,15,999,5] [] [] ?_ ?_
 ·
   refine aa rfl rfl (aq [] rfl rfl fun hC=>tp jw) ?_; refine aa rfl rfl (dj rfl rfl) ?_; refine aa rfl rfl (bd R4_1 rfl e4_1 rfl rfl) ?_; refine p00 ?_; exact ae rfl
 intro W z a1 hC hall ha hN1 hD1 bb1
 obtain ⟨cs,hgg,hP⟩:=me hall 2
 have i4:=ab (t:=4) ha e4_1
 have i5:=ln ha hall 5 3
 repeat first | apply lw | apply lx
 refine wp_ret ?_
 repeat (refine then_r ?_)
 exact bi (t:=4) (u:=5) rfl hD1 i4 i5 hgg hP fun v hv=>⟨v,rfl,hv,bb1⟩
theorem OfN_no2 {w : World} {v1 v2 : Value} {b1 : Bool} {xs1 : List Nat} {b2 : Bool} {xs2 : List Nat} (HA : Hid (∀ (W : World) (v : Value),Below w.heap.size w W → Nv W v b1 xs1 → Calls Tryz.prog 50 #[v] W (SaysB W true))) (HB : Hid (∀ (W : World) (v : Value),Below w.heap.size w W → Nv W v b2 xs2 → Calls Tryz.prog 50 #[v] W (SaysB W false))) (h1 : Nv w v1 b1 xs1) (h2 : Nv w v2 b2 xs2) :
   Calls Tryz.prog 11 #[v1,v2] w (fun e w'=>∃ v,e = .returned (.tuple #[v,.int .i64 (2)]) ∧ Pr w' v 9 0 1 ∧ Below w.heap.size w w'):=by
 obtain ⟨A1,c1,rfl,r1⟩:=h1
 have H1:=Lib.hid r1
 clear r1
 obtain ⟨A2,c2,rfl,r2⟩:=h2
 have H2:=Lib.hid r2
 clear r2
 go_enter Tryz.func11,Tryz.ntmps11
 repeat apply wp_seq
 refine mf fun K HK=>?_
 go_wp2
 refine HK.out _ _ (then_n ?_)
 refine md (G:=fun W=>Code.wp _ _ _ _ W) ?_
 intro W_0 bb_0 K0 K1 K2
 have q1_0 : LocN W_0 (w.heap.size) b1 xs1:=⟨A1,c1,⟨⟨_,K0⟩,by simp [noDig]⟩,H1.out.below bb_0⟩
 have q2_0 : LocN W_0 (w.heap.size + 1) b2 xs2:=⟨A2,c2,⟨⟨_,K1⟩,by simp [noDig]⟩,H2.out.below bb_0⟩
 have R4_0:=ge K2
 clear K0 K1 K2
 refine ly (G:=fun a=>Code.wp _ _ _ a _) 24 ?_
 intro a_0 ha hN_0 hD_0
 have e2_0:=lu ha 2 w.heap.size
 have e3_0:=lu ha 3 (w.heap.size + 1)
 have e4_0:=lu ha 4 (w.heap.size + 1 + 1)
 repeat first | apply lw | apply lx
 refine lm bb_0 [kN b1 xs1,lq,lr,lr,kN b2 xs2,lr,lq,lq] [[],[0],[1],[2],[],[4],[5],[3,6]] [6,7,8,9,10,11,12,13] [(3,false)] [] ?_ ?_
 ·
   refine aa rfl rfl (ey q1_0 e2_0 rfl) ?_; refine aa rfl rfl (ac rfl rfl fun hC h1=>ti (HA.out _ _ (bb_0.trans hC.below) h1)) ?_; refine p10 ?_; refine p10 ?_; refine aa rfl rfl (ey q2_0 e3_0 rfl) ?_; refine aa rfl rfl (ac rfl rfl fun hC h1=>ti (HB.out _ _ (bb_0.trans hC.below) h1)) ?_; refine p10 ?_; refine p20 ?_; exact ae rfl
 intro W_1 z a_1 hC hall ha hN_1 hD_1 bb_1
 have e4_1:=ab ha e4_0
 have e13_1:=ln ha hall 13 7
 have R4_1:=hC.holds R4_0
 clear hC hall
 refine wp_cond_true e13_1 ?_
 clear e13_1
 repeat first | apply lw | apply lx
 refine mg bb_1 R4_1 [kP 9 0 1,kP 9 0 1,kRes (w.heap.size + 1 + 1) 9 0 1,kIs (.int .i64 (2))] [[],[0],[1],[]] [14,15,999,5] [] [] ?_ ?_
 ·
   refine aa rfl rfl (aq [] rfl rfl fun hC=>tp jw) ?_; refine aa rfl rfl (dj rfl rfl) ?_; refine aa rfl rfl (bd R4_1 rfl e4_1 rfl rfl) ?_; refine p00 ?_; exact ae rfl
 intro W z a1 hC hall ha hN1 hD1 bb1
 obtain ⟨cs,hgg,hP⟩:=me hall 2
 have i4:=ab (t:=4) ha e4_1
 have i5:=ln ha hall 5 3
 repeat first | apply lw | apply lx
 refine wp_ret ?_
 repeat (refine then_r ?_)
 exact bi (t:=4) (u:=5) rfl hD1 i4 i5 hgg hP fun v hv=>⟨v,rfl,hv,bb1⟩
theorem refOfN_no1 {w : World} {v1 v2 : Value} {b1 : Bool} {xs1 : List Nat} {b2 : Bool} {xs2 : List Nat} (HA : Hid (∀ (W : World) (v : Value),Below w.heap.size w W → Nv W v b1 xs1 → Calls Tryz.prog 52 #[v] W (SaysB W false))) (h1 : Nv w v1 b1 xs1) (h2 : Nv w v2 b2 xs2) :
   Calls Tryz.prog 12 #[v1,v2] w (fun e w'=>∃ v,e = .returned (.tuple #[v,.int .i64 (2)]) ∧ Pr w' v 1 0 1 ∧ Below w.heap.size w w'):=by
 obtain ⟨A1,c1,rfl,r1⟩:=h1
 have H1:=Lib.hid r1
 clear r1
 obtain ⟨A2,c2,rfl,r2⟩:=h2
 have H2:=Lib.hid r2
 clear r2
 go_enter Tryz.func12,Tryz.ntmps12
 repeat apply wp_seq
 refine mf fun K HK=>?_
 go_wp2
 refine HK.out _ _ (then_n ?_)
 refine md (G:=fun W=>Code.wp _ _ _ _ W) ?_
 intro W_0 bb_0 K0 K1 K2
 have q1_0 : LocN W_0 (w.heap.size) b1 xs1:=⟨A1,c1,⟨⟨_,K0⟩,by simp [noDig]⟩,H1.out.below bb_0⟩
 have q2_0 : LocN W_0 (w.heap.size + 1) b2 xs2:=⟨A2,c2,⟨⟨_,K1⟩,by simp [noDig]⟩,H2.out.below bb_0⟩
 have R4_0:=ge K2
 clear K0 K1 K2
 refine ly (G:=fun a=>Code.wp _ _ _ a _) 56 ?_
 intro a_0 ha hN_0 hD_0
 have e2_0:=lu ha 2 w.heap.size
 have e3_0:=lu ha 3 (w.heap.size + 1)
 have e4_0:=lu ha 4 (w.heap.size + 1 + 1)
 repeat first | apply lw | apply lx
 refine lm bb_0 [kN b1 xs1,lr,lq,lq,ls,ls,ls,lq] [[],[0],[1],[2],[],[4],[5],[3,6]] [13,14,15,16,17,18,19,20] [(3,true)] [4,5,6] ?_ ?_
 ·
   refine aa rfl rfl (ey q1_0 e2_0 rfl) ?_; refine aa rfl rfl (ac rfl rfl fun hC h1=>ti (HA.out _ _ (bb_0.trans hC.below) h1)) ?_; refine p10 ?_; refine p10 ?_; refine am rfl ?_; refine am rfl ?_; refine am rfl ?_; refine p20 ?_; exact ae rfl
 intro W_1 z a_1 hC hall ha hN_1 hD_1 bb_1
 have e4_1:=ab ha e4_0
 have e20_1:=ln ha hall 20 7
 have R4_1:=hC.holds R4_0
 clear hC hall
 refine wp_cond_true e20_1 ?_
 clear e20_1
 repeat first | apply lw | apply lx
 refine mg bb_1 R4_1 [kP 1 0 1,kRes (w.heap.size + 1 + 1) 1 0 1,kIs (.int .i64 (2))] [[],[0],[]] [21,999,5] [] [] ?_ ?_
 ·
   refine aa rfl rfl (aq [] rfl rfl fun hC=>tp db) ?_; refine aa rfl rfl (bd R4_1 rfl e4_1 rfl rfl) ?_; refine p00 ?_; exact ae rfl
 intro W z a1 hC hall ha hN1 hD1 bb1
 obtain ⟨cs,hgg,hP⟩:=me hall 1
 have i4:=ab (t:=4) ha e4_1
 have i5:=ln ha hall 5 2
 repeat first | apply lw | apply lx
 refine wp_ret ?_
 repeat (refine then_r ?_)
 exact bi (t:=4) (u:=5) rfl hD1 i4 i5 hgg hP fun v hv=>⟨v,rfl,hv,bb1⟩
theorem refOfN_no2 {w : World} {v1 v2 : Value} {b1 : Bool} {xs1 : List Nat} {b2 : Bool} {xs2 : List Nat} (HA : Hid (∀ (W : World) (v : Value),Below w.heap.size w W → Nv W v b1 xs1 → Calls Tryz.prog 52 #[v] W (SaysB W true))) (HB : Hid (∀ (W : World) (v : Value),Below w.heap.size w W → Nv W v b2 xs2 → Calls Tryz.prog 52 #[v] W (SaysB W false))) (h1 : Nv w v1 b1 xs1) (h2 : Nv w v2 b2 xs2) :
   Calls Tryz.prog 12 #[v1,v2] w (fun e w'=>∃ v,e = .returned (.tuple #[v,.int .i64 (2)]) ∧ Pr w' v 1 0 1 ∧ Below w.heap.size w w'):=by
 obtain ⟨A1,c1,rfl,r1⟩:=h1
 have H1:=Lib.hid r1
 clear r1
 obtain ⟨A2,c2,rfl,r2⟩:=h2
 have H2:=Lib.hid r2
 clear r2
 go_enter Tryz.func12,Tryz.ntmps12
 repeat apply wp_seq
 refine mf fun K HK=>?_
 go_wp2
 refine HK.out _ _ (then_n ?_)
 refine md (G:=fun W=>Code.wp _ _ _ _ W) ?_
 intro W_0 bb_0 K0 K1 K2
 have q1_0 : LocN W_0 (w.heap.size) b1 xs1:=⟨A1,c1,⟨⟨_,K0⟩,by simp [noDig]⟩,H1.out.below bb_0⟩
 have q2_0 : LocN W_0 (w.heap.size + 1) b2 xs2:=⟨A2,c2,⟨⟨_,K1⟩,by simp [noDig]⟩,H2.out.below bb_0⟩
 have R4_0:=ge K2
 clear K0 K1 K2
 refine ly (G:=fun a=>Code.wp _ _ _ a _) 56 ?_
 intro a_0 ha hN_0 hD_0
 have e2_0:=lu ha 2 w.heap.size
 have e3_0:=lu ha 3 (w.heap.size + 1)
 have e4_0:=lu ha 4 (w.heap.size + 1 + 1)
 repeat first | apply lw | apply lx
 refine lm bb_0 [kN b1 xs1,lq,lr,lr,kN b2 xs2,lr,lq,lq] [[],[0],[1],[2],[],[4],[5],[3,6]] [13,14,15,16,17,18,19,20] [(3,false)] [] ?_ ?_
 ·
   refine aa rfl rfl (ey q1_0 e2_0 rfl) ?_; refine aa rfl rfl (ac rfl rfl fun hC h1=>ti (HA.out _ _ (bb_0.trans hC.below) h1)) ?_; refine p10 ?_; refine p10 ?_; refine aa rfl rfl (ey q2_0 e3_0 rfl) ?_; refine aa rfl rfl (ac rfl rfl fun hC h1=>ti (HB.out _ _ (bb_0.trans hC.below) h1)) ?_; refine p10 ?_; refine p20 ?_; exact ae rfl
 intro W_1 z a_1 hC hall ha hN_1 hD_1 bb_1
 have e4_1:=ab ha e4_0
 have e20_1:=ln ha hall 20 7
 have R4_1:=hC.holds R4_0
 clear hC hall
 refine wp_cond_true e20_1 ?_
 clear e20_1
 repeat first | apply lw | apply lx
 refine mg bb_1 R4_1 [kP 1 0 1,kRes (w.heap.size + 1 + 1) 1 0 1,kIs (.int .i64 (2))] [[],[0],[]] [21,999,5] [] [] ?_ ?_
 ·
   refine aa rfl rfl (aq [] rfl rfl fun hC=>tp db) ?_; refine aa rfl rfl (bd R4_1 rfl e4_1 rfl rfl) ?_; refine p00 ?_; exact ae rfl
 intro W z a1 hC hall ha hN1 hD1 bb1
 obtain ⟨cs,hgg,hP⟩:=me hall 1
 have i4:=ab (t:=4) ha e4_1
 have i5:=ln ha hall 5 2
 repeat first | apply lw | apply lx
 refine wp_ret ?_
 repeat (refine then_r ?_)
 exact bi (t:=4) (u:=5) rfl hD1 i4 i5 hgg hP fun v hv=>⟨v,rfl,hv,bb1⟩
theorem WholeN_no {w : World} {v1 : Value} {b1 : Bool} {xs1 : List Nat} (HA : Hid (∀ (W : World) (v : Value),Below w.heap.size w W → Nv W v b1 xs1 → Calls Tryz.prog 50 #[v] W (SaysB W false))) (h1 : Nv w v1 b1 xs1) :
   Calls Tryz.prog 22 #[v1] w (TellsP w 9 0 1):=by
 obtain ⟨A1,c1,rfl,r1⟩:=h1
 have H1:=Lib.hid r1
 clear r1
 go_enter Tryz.func22,Tryz.ntmps22
 repeat apply wp_seq
 refine mf fun K HK=>?_
 go_wp2
 refine HK.out _ _ (then_n ?_)
 refine mc (G:=fun W=>Code.wp _ _ _ _ W) ?_
 intro W_0 bb_0 K0 K1
 have q1_0 : LocN W_0 (w.heap.size) b1 xs1:=⟨A1,c1,⟨⟨_,K0⟩,by simp [noDig]⟩,H1.out.below bb_0⟩
 have R4_0:=ge K1
 clear K0 K1
 refine ly (G:=fun a=>Code.wp _ _ _ a _) 13 ?_
 intro a_0 ha hN_0 hD_0
 have e1_0:=lu ha 1 w.heap.size
 have e2_0:=lu ha 2 (w.heap.size + 1)
 repeat first | apply lw | apply lx
 refine lm bb_0 [kN b1 xs1,lr,lq] [[],[0],[1]] [3,4,5] [] [] ?_ ?_
 ·
   refine aa rfl rfl (ey q1_0 e1_0 rfl) ?_; refine aa rfl rfl (ac rfl rfl fun hC h1=>ti (HA.out _ _ (bb_0.trans hC.below) h1)) ?_; refine p10 ?_; exact ae rfl
 intro W_1 z a_1 hC hall ha hN_1 hD_1 bb_1
 have e2_1:=ab ha e2_0
 have e5_1:=ln ha hall 5 2
 have R4_1:=hC.holds R4_0
 clear hC hall
 refine wp_cond_true e5_1 ?_
 clear e5_1
 repeat first | apply lw | apply lx
 refine mg bb_1 R4_1 [kP 9 0 1,kP 9 0 1,kRes (w.heap.size + 1) 9 0 1] [[],[0],[1]] [6,7,999] [] [] ?_ ?_
 ·
   refine aa rfl rfl (aq [] rfl rfl fun hC=>tp jw) ?_; refine aa rfl rfl (dj rfl rfl) ?_; refine aa rfl rfl (bd R4_1 rfl e2_1 rfl rfl) ?_; exact ae rfl
 intro W z a1 hC hall ha hN1 hD1 bb1
 obtain ⟨cs,hgg,hP⟩:=me hall 2
 have i2:=ab (t:=2) ha e2_1
 repeat first | apply lw | apply lx
 refine wp_ret ?_
 repeat (refine then_r ?_)
 exact dl (t:=2) rfl hD1 i2 hgg hP fun v hv=>⟨v,rfl,hv,bb1⟩
theorem refWholeN_no {w : World} {v1 : Value} {b1 : Bool} {xs1 : List Nat} (HA : Hid (∀ (W : World) (v : Value),Below w.heap.size w W → Nv W v b1 xs1 → Calls Tryz.prog 52 #[v] W (SaysB W false))) (h1 : Nv w v1 b1 xs1) :
   Calls Tryz.prog 23 #[v1] w (TellsP w 1 0 1):=by
 obtain ⟨A1,c1,rfl,r1⟩:=h1
 have H1:=Lib.hid r1
 clear r1
 go_enter Tryz.func23,Tryz.ntmps23
 repeat apply wp_seq
 refine mf fun K HK=>?_
 go_wp2
 refine HK.out _ _ (then_n ?_)
 refine mc (G:=fun W=>Code.wp _ _ _ _ W) ?_
 intro W_0 bb_0 K0 K1
 have q1_0 : LocN W_0 (w.heap.size) b1 xs1:=⟨A1,c1,⟨⟨_,K0⟩,by simp [noDig]⟩,H1.out.below bb_0⟩
 have R4_0:=ge K1
 clear K0 K1
 refine ly (G:=fun a=>Code.wp _ _ _ a _) 10 ?_
 intro a_0 ha hN_0 hD_0
 have e1_0:=lu ha 1 w.heap.size
 have e2_0:=lu ha 2 (w.heap.size + 1)
 repeat first | apply lw | apply lx
 refine lm bb_0 [kN b1 xs1,lr,lq] [[],[0],[1]] [3,4,5] [] [] ?_ ?_
 ·
   refine aa rfl rfl (ey q1_0 e1_0 rfl) ?_; refine aa rfl rfl (ac rfl rfl fun hC h1=>ti (HA.out _ _ (bb_0.trans hC.below) h1)) ?_; refine p10 ?_; exact ae rfl
 intro W_1 z a_1 hC hall ha hN_1 hD_1 bb_1
 have e2_1:=ab ha e2_0
 have e5_1:=ln ha hall 5 2
 have R4_1:=hC.holds R4_0
 clear hC hall
 refine wp_cond_true e5_1 ?_
 clear e5_1
 repeat first | apply lw | apply lx
 refine mg bb_1 R4_1 [kP 1 0 1,kRes (w.heap.size + 1) 1 0 1] [[],[0]] [6,999] [] [] ?_ ?_
 ·
   refine aa rfl rfl (aq [] rfl rfl fun hC=>tp db) ?_; refine aa rfl rfl (bd R4_1 rfl e2_1 rfl rfl) ?_; exact ae rfl
 intro W z a1 hC hall ha hN1 hD1 bb1
 obtain ⟨cs,hgg,hP⟩:=me hall 1
 have i2:=ab (t:=2) ha e2_1
 repeat first | apply lw | apply lx
 refine wp_ret ?_
 repeat (refine then_r ?_)
 exact dl (t:=2) rfl hD1 i2 hgg hP fun v hv=>⟨v,rfl,hv,bb1⟩
theorem OfN_zero {w : World} {v1 v2 : Value} {b1 : Bool} {xs1 : List Nat} {b2 : Bool} {xs2 : List Nat} (HA : Hid (∀ (W : World) (v : Value),Below w.heap.size w W → Nv W v b1 xs1 → Calls Tryz.prog 50 #[v] W (SaysB W true))) (HB : Hid (∀ (W : World) (v : Value),Below w.heap.size w W → Nv W v b2 xs2 → Calls Tryz.prog 50 #[v] W (SaysB W true))) (HZ : Hid (∀ (W : World) (v : Value),Nv W v b2 xs2 → Zr W v 9 0)) (h1 : Nv w v1 b1 xs1) (h2 : Nv w v2 b2 xs2) :
   Calls Tryz.prog 11 #[v1,v2] w (fun e w'=>∃ v,e = .returned (.tuple #[v,.int .i64 (9)]) ∧ Pr w' v 9 0 1 ∧ Below w.heap.size w w'):=by
 obtain ⟨A1,c1,rfl,r1⟩:=h1
 have H1:=Lib.hid r1
 clear r1
 obtain ⟨A2,c2,rfl,r2⟩:=h2
 have H2:=Lib.hid r2
 clear r2
 go_enter Tryz.func11,Tryz.ntmps11
 repeat apply wp_seq
 refine mf fun K HK=>?_
 go_wp2
 refine HK.out _ _ (then_n ?_)
 refine md (G:=fun W=>Code.wp _ _ _ _ W) ?_
 intro W_0 bb_0 K0 K1 K2
 have q1_0 : LocN W_0 (w.heap.size) b1 xs1:=⟨A1,c1,⟨⟨_,K0⟩,by simp [noDig]⟩,H1.out.below bb_0⟩
 have q2_0 : LocN W_0 (w.heap.size + 1) b2 xs2:=⟨A2,c2,⟨⟨_,K1⟩,by simp [noDig]⟩,H2.out.below bb_0⟩
 have R4_0:=ge K2
 clear K0 K1 K2
 refine ly (G:=fun a=>Code.wp _ _ _ a _) 24 ?_
 intro a_0 ha hN_0 hD_0
 have e2_0:=lu ha 2 w.heap.size
 have e3_0:=lu ha 3 (w.heap.size + 1)
 have e4_0:=lu ha 4 (w.heap.size + 1 + 1)
 repeat first | apply lw | apply lx
 refine lm bb_0 [kN b1 xs1,lq,lr,lr,kN b2 xs2,lq,lr,lr] [[],[0],[1],[2],[],[4],[5],[3,6]] [6,7,8,9,10,11,12,13] [(3,false)] [] ?_ ?_
 ·
   refine aa rfl rfl (ey q1_0 e2_0 rfl) ?_; refine aa rfl rfl (ac rfl rfl fun hC h1=>ti (HA.out _ _ (bb_0.trans hC.below) h1)) ?_; refine p10 ?_; refine p10 ?_; refine aa rfl rfl (ey q2_0 e3_0 rfl) ?_; refine aa rfl rfl (ac rfl rfl fun hC h1=>ti (HB.out _ _ (bb_0.trans hC.below) h1)) ?_; refine p10 ?_; refine p20 ?_; exact ae rfl
 intro W_1 z a_1 hC hall ha hN_1 hD_1 bb_1
 have e3_1:=ab ha e3_0
 have e4_1:=ab ha e4_0
 have e13_1:=ln ha hall 13 7
 have q2_1:=hC.locN (by simp) q2_0
 have R4_1:=hC.holds R4_0
 clear hC hall
 refine wp_cond_false e13_1 ?_
 refine wp_skip ?_
 refine then_n ?_
 clear e13_1
 repeat first | apply lw | apply lx
 refine lm bb_1 [kN b2 xs2,lq] [[],[0]] [16,17] [] [] ?_ ?_
 ·
   refine aa rfl rfl (ey q2_1 e3_1 rfl) ?_; refine aa rfl rfl (ac rfl rfl fun hC h1=>ti (isNone_zero (HZ.out _ _ h1) rfl)) ?_; exact ae rfl
 intro W_2 z a_2 hC hall ha hN_2 hD_2 bb_2
 have e4_2:=ab ha e4_1
 have e17_2:=ln ha hall 17 1
 have R4_2:=hC.holds R4_1
 clear hC hall
 refine wp_cond_true e17_2 ?_
 clear e17_2
 repeat first | apply lw | apply lx
 refine mg bb_2 R4_2 [kP 9 0 1,kP 9 0 1,kRes (w.heap.size + 1 + 1) 9 0 1,kIs (.int .i64 (9))] [[],[0],[1],[]] [18,19,999,5] [] [] ?_ ?_
 ·
   refine aa rfl rfl (aq [] rfl rfl fun hC=>tp jw) ?_; refine aa rfl rfl (dj rfl rfl) ?_; refine aa rfl rfl (bd R4_2 rfl e4_2 rfl rfl) ?_; refine p00 ?_; exact ae rfl
 intro W z a1 hC hall ha hN1 hD1 bb1
 obtain ⟨cs,hgg,hP⟩:=me hall 2
 have i4:=ab (t:=4) ha e4_2
 have i5:=ln ha hall 5 3
 repeat first | apply lw | apply lx
 refine wp_ret ?_
 repeat (refine then_r ?_)
 exact bi (t:=4) (u:=5) rfl hD1 i4 i5 hgg hP fun v hv=>⟨v,rfl,hv,bb1⟩
def TellsPE (w : World) (a : Rat) (e : Int) (k : Nat) (r : Ending) (w' : World) : Prop:=∃ v,r = .returned (.tuple #[v,.int .i64 e]) ∧ Pr w' v k a.num (a.den : Int) ∧ Below w.heap.size w w'
theorem nv_right {b : Bool} {xs : List Nat} (s1 : small 4294967296 xs) (l1 : xs.length ≤ 8) (h1 : RN b xs) {W : World} {v : Value} (h : Nv W v b xs) : Calls Tryz.prog 50 #[v] W (SaysB W true):=by
 obtain ⟨A,c,rfl,r1⟩:=h
 have _:=s1
 have _:=l1
 exact ib b ⟨_,_,xs,rfl,r1,h1.1,by omega,rfl⟩ fun e=>h1.2 (right_zero h1.1 e)
theorem jf {b : Bool} {xs : List Nat} (s1 : small 4294967296 xs) (l1 : xs.length ≤ 8) (h1 : ¬ RN b xs) {W : World} {v : Value} (h : Nv W v b xs) : Calls Tryz.prog 50 #[v] W (SaysB W false):=by
 obtain ⟨A,c,rfl,r1⟩:=h
 exact je r1 s1 (by omega) h1
theorem ofBoth {b1 b2 : Bool} {xs1 xs2 : List Nat} (s1 : small 4294967296 xs1) (l1 : xs1.length ≤ 8) (s2 : small 4294967296 xs2) (l2 : xs2.length ≤ 8) : ∃ (a : Rat) (e : Int), ∀ (W : World) (v1 v2 : Value), Nv W v1 b1 xs1 → Nv W v2 b2 xs2 →
   Calls Tryz.prog 11 #[v1,v2] W (TellsPE W a e 40) ∧ Calls Tryz.prog 12 #[v1,v2] W (TellsPE W a e 40):=by
 have up : ∀ {P : Program} {F : FuncId} {vs : Array Value} {w : World} {k : Nat} {e : Int} {x y : Int} {a : Rat},k ≤ 40 → x = a.num → y = (a.den : Int) → Calls P F vs w (fun r w'=>∃ v,r = .returned (.tuple #[v,.int .i64 e]) ∧ Pr w' v k x y ∧ Below w.heap.size w w') → Calls P F vs w (TellsPE w a e 40):=fun hk hx hy h=>by
   subst hx; subst hy
   exact h.mono fun _ _ ⟨v,e,hp,hb⟩=>⟨v,e,hp.mono hk,hb⟩
 by_cases h1 : RN b1 xs1
 · by_cases h2 : RN b2 xs2
   · have z1 : ∀ (W : World) (v : Value),Nv W v b1 xs1 → Zr W v 9 (zOf (val xs1) b1):=fun W v h=>h.zr s1 l1 h1.1 h1.2; have z2 : ∀ (W : World) (v : Value),Nv W v b2 xs2 → Zr W v 9 (zOf (val xs2) b2):=fun W v h=>h.zr s2 l2 h2.1 h2.2
     by_cases h0 : zOf (val xs2) b2 = 0
     · refine ⟨0,9,fun W v1 v2 q1 q2=>⟨up (k:=9) (by decide) rfl rfl (OfN_zero (Lib.hid fun _ _ _ h=>nv_right s1 l1 h1 h) (Lib.hid fun _ _ _ h=>nv_right s2 l2 h2 h) (Lib.hid fun W' v' h=>h0 ▸ z2 W' v' h) q1 q2),up (k:=1) (by decide) rfl rfl (refOf_zero h0 ((z1 _ _ q1).mono (by decide)) ((z2 _ _ q2).mono (by decide)))⟩⟩
     · exact ⟨Rat.divInt (zOf (val xs1) b1) (zOf (val xs2) b2),0,fun W v1 v2 q1 q2=>⟨up (k:=9) (by decide) rfl rfl (Of_9 h0 (z1 _ _ q1) (z2 _ _ q2)),up (k:=40) (by decide) rfl rfl (refOf_yes h0 ((z1 _ _ q1).mono (by decide)) ((z2 _ _ q2).mono (by decide)))⟩⟩
   · exact ⟨0,2,fun W v1 v2 q1 q2=>⟨up (k:=9) (by decide) rfl rfl (OfN_no2 (Lib.hid fun _ _ _ h=>nv_right s1 l1 h1 h) (Lib.hid fun _ _ _ h=>jf s2 l2 h2 h) q1 q2),up (k:=1) (by decide) rfl rfl (refOfN_no2 (Lib.hid fun _ _ _ h=>r2_right (h.zr s1 l1 h1.1 h1.2)) (Lib.hid fun _ _ _ h=>gd h s2 l2 h2) q1 q2)⟩⟩
 · exact ⟨0,2,fun W v1 v2 q1 q2=>⟨up (k:=9) (by decide) rfl rfl (OfN_no1 (Lib.hid fun _ _ _ h=>jf s1 l1 h1 h) q1 q2),up (k:=1) (by decide) rfl rfl (refOfN_no1 (Lib.hid fun _ _ _ h=>gd h s1 l1 h1) q1 q2)⟩⟩
theorem wholeBoth {b1 : Bool} {xs1 : List Nat} (s1 : small 4294967296 xs1) (l1 : xs1.length ≤ 8) : ∃ (x y : Int), ∀ (W : World) (v1 : Value), Nv W v1 b1 xs1 →
   Calls Tryz.prog 22 #[v1] W (TellsP W 40 x y) ∧ Calls Tryz.prog 23 #[v1] W (TellsP W 40 x y):=by
 have up : ∀ {P : Program} {F : FuncId} {vs : Array Value} {w : World} {k : Nat} {x y : Int},k ≤ 40 → Calls P F vs w (TellsP w k x y) → Calls P F vs w (TellsP w 40 x y):=fun hk h=>h.mono fun _ _ ⟨v,e,hp,hb⟩=>⟨v,e,hp.mono hk,hb⟩
 by_cases h1 : RN b1 xs1
 · have z1 : ∀ (W : World) (v : Value),Nv W v b1 xs1 → Zr W v 9 (zOf (val xs1) b1):=fun W v h=>h.zr s1 l1 h1.1 h1.2; exact ⟨zOf (val xs1) b1,1,fun W v1 q1=>⟨up (k:=9) (by decide) (Whole_9 (z1 _ _ q1)),up (k:=19) (by decide) (refWhole ((z1 _ _ q1).mono (by decide)))⟩⟩
 · exact ⟨0,1,fun W v1 q1=>⟨up (k:=9) (by decide) (WholeN_no (Lib.hid fun _ _ _ h=>jf s1 l1 h1 h) q1),up (k:=1) (by decide) (refWholeN_no (Lib.hid fun _ _ _ h=>gd h s1 l1 h1) q1)⟩⟩
theorem mark_any (k i : Int) (hk : 0 ≤ k ∧ k ≤ 100) (hi : 0 ≤ i ∧ i ≤ 1000000) (w : World) :
   Calls Tryz.prog 116 #[.int .i64 k,.int .i64 i] w fun e w'=>e = .returned (.int .i64 (1000003 * (k + 7) + i)) ∧ w = w':=by
 obtain ⟨h1,h2⟩:=hk
 obtain ⟨h3,h4⟩:=hi
 go_enter Tryz.func116,Tryz.ntmps116
 go_wp2
 go_ret
 exact ⟨rfl,rfl⟩
def markL (k : Nat) : List Nat:=(List.range k).map (8000024 + ·)
theorem markL_succ (k : Nat) : markL (k + 1) = markL k ++ [8000024 + k]:=by simp [markL,List.range_succ]
theorem markL_length (k : Nat) : (markL k).length = k:=by simp [markL]
theorem markL_at {n k : Nat} (h : k < n) : (markL n).getD k 0 = 8000024 + k:=by
 rw [List.getD_eq_getElem?_getD]; simp [markL,h]
def LentRet (w : World) (xs : List Nat) (e : Ending) (w' : World) : Prop:=∃ g cap,e = .returned (.slice (some ⟨g,0,none⟩) xs.length cap) ∧ w.heap.size ≤ g ∧ Own w' w.heap.size 81 (.slice (some ⟨g,0,none⟩) (xs.length + 12) cap) (u32s (xs ++ markL 12)) ∧ Below w.heap.size w w'
theorem lent_any {w : World} {A : Option Addr} {c : Nat} {xs : List Nat} (hr : Row w A (u32s xs)) (hlen : xs.length ≤ 4000) :
   Calls Tryz.prog 84 #[.slice A xs.length c] w (LentRet w xs):=by
 obtain ⟨i0,hi,hz0,hz1,hz2⟩:=info_parts ep
 obtain ⟨B,hB⟩ : ∃ B,B = w.heap.size:=⟨_,rfl⟩
 have HB:=Lib.hid hB
 obtain ⟨n,hn⟩ : ∃ n,n = xs.length:=⟨_,rfl⟩
 have hn1 : n ≤ 4000:=by omega
 rw [← hn]
 have HN:=Lib.hid hn
 clear hB hn hlen
 go_enter Tryz.func84,Tryz.ntmps84
 go_wp2_with (at_make; refine wpList_make_own _ rfl _ _ 22 rfl B 81 i0 (.int .u32 0) 1 Tryz.underlying22 hi hz0 hz1 .i64 .i64 ((n : Int) + 12) (n + 12) rfl rfl (by omega) ?b2 ?b3 ?b4 ?_)
 case b2=>first | omega | (rw [hz2]; omega)
 case b3=>unfold maxLen; omega
 case b4=>rw [HB.out]; exact Nat.le_refl _
 intro w1 hown hgrow
 have hb1 : Below w.heap.size w w1:=(Below.refl _ _).grown hgrow (Nat.le_refl _) (fun k h=>by cases h)
 have ho1 : Own w1 B 81 (.slice (some ⟨w.heap.size,0,none⟩) 0 (n + 12)) (u32s []):=Own.mk_ hown
 have hr1:=hr.below hb1
 have hs1:=hb1.size
 clear hown hgrow hr
 go_wp2_with (at_builtin; refine fd rfl _ _ 22 rfl B 81 i0 (.int .u32 0) 4 Tryz.underlying22 hi hz0 hz1 hz2 rfl _ _ _ rfl ho1 A n c (u32s xs) rfl (by rw [an,← HN.out]) hr1 (u32s_one xs) (by rw [an]; unfold maxLen; simp; omega) (by rw [an]; simp; omega) (by rw [HB.out]; exact hs1) ?_)
 intro v2 w2 hown2 hgrow2
 have ho2 : Own w2 B 81 v2 (u32s xs):=by
   have:=Own.mk_ hown2
   simpa [u32s] using this
 have hb2 : Below w.heap.size w w2:=by
   have:=fb (o:=.cells #[] 0) (w1:=w1) (wr:=w1) (w2:=w2) (B:=B) (Below.refl _ _) ho1 (by rw [HB.out]; exact hs1); refine hb1.trans ?_; refine (Below.refl _ _).grown hgrow2 hs1 (fun k hk=>?_); have hh : w1.ownsRow B 81 1 _ _ _:=ho1; have:=(hh.lt k hk).1; rw [HB.out] at this; exact this
 clear hown2 hgrow2 ho1 hb1 hr1 hs1
 go_wp2_with fail
 go_loopw [3,4] (fun ov iv wr=>∃ k : Nat,k ≤ 12 ∧ iv = .int .i64 (k : Int) ∧ Own wr B 81 ov (u32s (xs ++ markL k)) ∧ Below w.heap.size w wr) (fun _ iv _=>12 - (intOf iv).toNat)
 case atStart=>exact ⟨0,Nat.zero_le _,rfl,by simpa [markL] using ho2,hb2⟩
 case round =>
   obtain ⟨k,hk,rfl,hout,hb⟩:=hrel; have hsz:=hb.size; have hlk : (xs ++ markL k).length = n + k:=by rw [List.length_append,markL_length,← HN.out]
   have HLK:=Lib.hid hlk; clear hlk
   by_cases hlt : k < 12
   · have hmk:=mark_any 1 (k : Int) (by omega) (by omega) wr; have HMK:=Lib.hid hmk; have hlt' : (k : Int) < 12:=by omega
     clear hmk
     go_wp2_with (first
       | (go_at_call 116; refine HMK.out.mono ?_; rintro e w' ⟨rfl,rfl⟩)
       | (at_builtin; refine wpList_append_own _ rfl _ _ 22 rfl B 81 i0 (.int .u32 0) 1 4 Tryz.underlying22 hi hz0 hz1 hz2 rfl (by decide) _ _ _ rfl (hout.alloc _) ⟨wr.heap.size,0,none⟩ 1 1 [.int .u32 ((8000024 + k : Nat) : Int)] rfl rfl ?c1 ?c2 ?c3 ?c4 ?c5 ?_))
     case c1=>exact one_news (int_eq (by omega))
     case c2=>exact cx
     case c3=>rw [an,HLK.out]; unfold maxLen; omega
     case c4=>rw [an,HLK.out]; omega
     case c5=>rw [HB.out]; simp; omega
     intro v' w3 hown' hgrow' _; have ho3:=dp hown'; have hb3:=dn hb hout HB hgrow'; rw [List.append_assoc,← markL_succ] at ho3; clear hown' hgrow' hout hb HMK
     go_wp2
     go_roundw
     case rel=>exact ⟨k + 1,by omega,by go_num,ho3,hb3⟩
     case measure=>simp [intOf]; omega
   · obtain rfl : k = 12:=by omega
     obtain ⟨A3,c3,rfl,hr3,hc3,hx3⟩:=hout.slice32; rw [HLK.out] at hout hc3; obtain ⟨ad,rfl,hx4⟩:=hr3.at_ (k:=0) (by rw [an,HLK.out]; omega); obtain ⟨g,rfl,hg,hgs⟩:=hout.lt.2 ad rfl; have hlk:=HLK.out; clear hx3 hx4 hr3
     go_wp2
     go_ret
     obtain rfl : n = xs.length:=HN.out; exact ⟨g,c3,by simp,HB.out ▸ hg,HB.out ▸ hout,hb⟩
theorem add_at (g k : Nat) : (⟨g,0,none⟩ : Addr).add k = ⟨g,k,none⟩:=by
 unfold Addr.add; split
 · rename_i h; subst h; rfl
 · simp
theorem kept_any {w : World} {g cap c : Nat} {A : Option Addr} {xs : List Nat} (hO : Row w (some ⟨g,0,none⟩) (u32s (xs ++ markL 12))) (hcap : xs.length + 12 ≤ cap) (hr : Row w A (u32s xs)) (hlen : xs.length ≤ 4000) :
   Calls Tryz.prog 106 #[.slice (some ⟨g,0,none⟩) xs.length cap,.slice A xs.length c] w fun e w'=>e = .returned (.bool true) ∧ Drawn w w':=by
 obtain ⟨n,hn⟩ : ∃ n,n = xs.length:=⟨_,rfl⟩
 have hn1 : n ≤ 4000:=by omega
 rw [← hn] at hcap ⊢
 have HN:=Lib.hid hn
 clear hn hlen
 go_enter Tryz.func106,Tryz.ntmps106
 go_wp2_with fail
 go_loopw [6] (fun iv wr=>∃ k : Nat,k ≤ n + 12 ∧ iv = .int .i64 (k : Int) ∧ Hid (Drawn w wr)) (fun iv _=>n + 12 - (intOf iv).toNat)
 case atStart=>exact ⟨0,Nat.zero_le _,rfl,Drawn.refl _⟩
 case round =>
   obtain ⟨k,hk,rfl,HW⟩:=hrel
   by_cases hlt : k < n + 12
   · have hlt' : (k : Int) < (n : Int) + 12:=by omega
     by_cases hkn : k < n
     · obtain ⟨ad,x,rfl,hc,hx,hm⟩:=(hr.drawn HW.out).dig (k:=k) (by rw [← HN.out]; exact hkn); obtain ⟨ad2,y,e2,hc2,hy,hm2⟩:=(hO.drawn HW.out).dig (k:=k) (by rw [List.length_append,← HN.out]; omega); injection e2 with e2; subst e2
       have hxy : y = x:=by
         rw [← hx.out,← hy.out,List.getD_eq_getElem?_getD,List.getD_eq_getElem?_getD,List.getElem?_append_left (by rw [← HN.out]; exact hkn)]
       subst hxy
       have hc2' : wr.cell? ⟨g,k,none⟩ = some (.int .u32 (y : Int)):=by
         have:=add_at g k; rw [← this]; exact hc2
       have hg1 : decide (k < n) = true:=decide_eq_true hkn; have hg2 : decide (n ≤ k) = false:=decide_eq_false (by omega); clear hm hm2 hc2 hx hy
       go_wp2
       go_quiet (fail)
       go_wp2
       go_roundw
       case rel=>exact ⟨k + 1,by omega,by go_num,HW.out.trans ⟨_,rfl⟩⟩
       case measure=>simp [intOf]; omega
     · obtain ⟨d,hd⟩ : ∃ d,k = n + d:=⟨k - n,by omega⟩
       obtain ⟨ad2,y,e2,hc2,hy,hm2⟩:=(hO.drawn HW.out).dig (k:=k) (by rw [List.length_append,← HN.out,markL_length]; omega); injection e2 with e2; subst e2
       have hyv : y = 8000024 + d:=by
         rw [← hy.out,List.getD_eq_getElem?_getD,List.getElem?_append_right (by rw [← HN.out]; omega),← HN.out,hd,Nat.add_sub_cancel_left,← List.getD_eq_getElem?_getD]; exact markL_at (by omega)
       have hc2' : wr.cell? ⟨g,k,none⟩ = some (.int .u32 (8000024 + (d : Int))):=by
         have h1:=add_at g k; rw [← h1,hc2,hyv]; rfl
       have hg1 : decide (k < n) = false:=decide_eq_false (by omega); have hg2 : decide (n ≤ k) = true:=decide_eq_true (by omega)
       have hmk : ∀ m,Calls Tryz.prog 116 #[.int .i64 1,.int .i64 (d : Int)] (wr.drewN m) (fun e w'=>e = .returned (.int .i64 (8000024 + (d : Int))) ∧ w' = wr.drewN m):=fun m=>(mark_any 1 (d : Int) (by omega) (by omega) (wr.drewN m)).mono fun _ _ h=>⟨by rw [h.1]; congr 2,h.2.symm⟩
       have HMK:=Lib.hid hmk; have hsub : (k : Int) - (n : Int) = (d : Int):=by omega
       have hd12 : d < 12:=by omega
       clear hm2 hc2 hy hmk hyv hd hkn
       go_wp2
       go_quiet ((go_at_call 116; exact Calls.quiet_of_same (HMK.out _)))
       go_wp2
       go_roundw
       case rel=>exact ⟨k + 1,by omega,by go_num,HW.out.trans ⟨_,rfl⟩⟩
       case measure=>simp [intOf]; omega
   · have hlt' : ¬ (k : Int) < (n : Int) + 12:=by omega
     go_wp2
     go_returns
     exact ⟨rfl,HW.out⟩
theorem lentInt_any {w : World} {A : Option Addr} {c : Nat} {b : Bool} {xs : List Nat} (hr : Row w A (u32s xs)) (hlen : xs.length ≤ 4000) :
   Calls Tryz.prog 42 #[.agg #[.bool b,.slice A xs.length c]] w fun e w'=>∃ g cap,e = .returned (.agg #[.bool b,.slice (some ⟨g,0,none⟩) xs.length cap]) ∧ Row w' (some ⟨g,0,none⟩) (u32s (xs ++ markL 12)) ∧ xs.length + 12 ≤ cap ∧ Below w.heap.size w w':=by
 have hl:=fun (W : World) (hW : Below w.heap.size w W)=>lent_any (c:=c) (hr.below hW) hlen
 have HL:=Lib.hid hl
 clear hl hr hlen
 go_enter Tryz.func42,Tryz.ntmps42
 go_wp2_with fail
 refine (HL.out _ (bal (bal (Below.refl _ _) _) _)).mono ?_
 rintro e w1 ⟨g,cap,rfl,hg,ho,hb⟩
 have K1:=(hb.block w.heap.size (by simp <;> omega)).trans ((Below.heap_alloc _ _ _ (by simp <;> omega)).trans (new_at (by simp)))
 have K2:=(hb.block (w.heap.size + 1) (by simp)).trans (new_at (by simp))
 have hb1:=bstep (bal (bal (Below.refl w.heap.size w) _) _) hb
 obtain ⟨m1,m2,m3,m4⟩:=cell_of_two K1
 obtain ⟨n1,n2,n3,n4⟩:=cell_of_two K2
 have HO:=Lib.hid ho
 have s1:=lt_block K1
 have s2:=lt_block K2
 clear hb ho hg
 go_wp2
 have hrow:=HO.out.row32
 have hcap : xs.length + 12 ≤ cap:=by
   obtain ⟨_,_,e,_,hc,_⟩:=HO.out.slice32; injection e with _ e2 e3; omega
 have K3 : (w1.setCell ⟨w.heap.size,1,none⟩ (.slice (some ⟨g,0,none⟩) xs.length cap)).heap[w.heap.size + 1]? = some (Obj.cells #[Value.bool false,Value.slice none 0 0] 24):=(Below.heap_setCell _ _ _ _ (by simp)).trans K2
 have hh : Holds_ (w1.setCell ⟨w.heap.size,1,none⟩ (.slice (some ⟨g,0,none⟩) xs.length cap)) (w.heap.size + 1) #[Value.bool false,Value.slice none 0 0]:=⟨⟨_,K3⟩,by simp [noDig]⟩
 have hp:=cg hh (noDig_bool b) (noDig_slice (some ⟨g,0,none⟩) xs.length cap)
 obtain ⟨q1,q2,_,_⟩:=hp.two
 have r1:=hrow.set_not (v:=.slice (some ⟨g,0,none⟩) xs.length cap) m2 (fun d h=>by cases h)
 unfold put2 at q1 q2
 refine bodyPost_ret (v:=.agg #[.bool b,.slice (some ⟨g,0,none⟩) xs.length cap]) (by simp [results,Tryz.results42,go_sem,q1,q2]) rfl ?_
 refine ⟨g,cap,rfl,?_,hcap,((hb1.setCell (by simp) _).setCell (by simp) _).setCell (by simp) _⟩
 have st:=stored_put2 hh (noDig_bool b) (noDig_slice (some ⟨g,0,none⟩) xs.length cap)
 exact (Reg.store (B:=0) (W0:=w1.setCell ⟨w.heap.size,1,none⟩ (.slice (some ⟨g,0,none⟩) xs.length cap)) (G:=[w.heap.size + 1]) (Reg.start (fun g' hg'=>by rw [List.mem_singleton.1 hg']; exact ⟨_,hh⟩) (.inl rfl)) (.inl (by simp)) (Nat.zero_le _) st).row r1
theorem Row.pre {w : World} {A : Option Addr} {xs zs : List Nat} (h : Row w A (u32s (xs ++ zs))) : Row w A (u32s xs):=by
 have h1:=h.take xs.length
 have e : (u32s (xs ++ zs)).take xs.length = u32s xs:=by simp [u32s]
 rwa [e] at h1
def LN (W : World) (v : Value) (b : Bool) (xs : List Nat) : Prop:=∃ g cap,v = .agg #[.bool b,.slice (some ⟨g,0,none⟩) xs.length cap] ∧ Row W (some ⟨g,0,none⟩) (u32s (xs ++ markL 12)) ∧ xs.length + 12 ≤ cap
def Lv (W : World) (v : Value) (b : Bool) (xs : List Nat) (b' : Bool) (ys : List Nat) : Prop := ∃ g c g' c', v = .agg #[.bool b, .slice (some ⟨g, 0, none⟩) xs.length c, .bool b', .slice (some ⟨g', 0, none⟩) ys.length c'] ∧
 (Row W (some ⟨g,0,none⟩) (u32s (xs ++ markL 12)) ∧ xs.length + 12 ≤ c) ∧ Row W (some ⟨g',0,none⟩) (u32s (ys ++ markL 12)) ∧ ys.length + 12 ≤ c'
theorem LN.below {W W' : World} {v : Value} {b : Bool} {xs : List Nat} (h : LN W v b xs) (hb : Below W.heap.size W W') : LN W' v b xs:=by
 obtain ⟨g,c,h1,h2,h3⟩:=h
 exact ⟨g,c,h1,h2.below hb,h3⟩
theorem LN.stored {W W' : World} {k : Nat} {v : Value} {b : Bool} {xs : List Nat} (h : LN W v b xs) (hs : Stored k W W') : LN W' v b xs:=by
 obtain ⟨g,c,h1,h2,h3⟩:=h
 exact ⟨g,c,h1,Stored.row h2 hs,h3⟩
theorem Lv.below {W W' : World} {v : Value} {b b' : Bool} {xs ys : List Nat} (h : Lv W v b xs b' ys) (hb : Below W.heap.size W W') : Lv W' v b xs b' ys:=by
 obtain ⟨g,c,g',c',h1,⟨h2,h3⟩,h4,h5⟩:=h
 exact ⟨g,c,g',c',h1,⟨h2.below hb,h3⟩,h4.below hb,h5⟩
theorem Lv.stored {W W' : World} {k : Nat} {v : Value} {b b' : Bool} {xs ys : List Nat} (h : Lv W v b xs b' ys) (hs : Stored k W W') : Lv W' v b xs b' ys:=by
 obtain ⟨g,c,g',c',h1,⟨h2,h3⟩,h4,h5⟩:=h
 exact ⟨g,c,g',c',h1,⟨Stored.row h2 hs,h3⟩,Stored.row h4 hs,h5⟩
theorem Lv.qv {W : World} {v : Value} {b b' : Bool} {xs ys : List Nat} (h : Lv W v b xs b' ys) : Qv W v b xs b' ys:=by
 obtain ⟨g,c,g',c',h1,⟨h2,_⟩,h4,_⟩:=h
 exact ⟨_,c,_,c',h1,h2.pre,h4.pre⟩
def kLN (b : Bool) (xs : List Nat) : PK:=.p (fun v w=>LN w v b xs) (fun _ _ _ h hb=>h.below hb) (fun _ _ _ _ h hs=>h.stored hs)
def kL (b : Bool) (xs : List Nat) (b' : Bool) (ys : List Nat) : PK:=.p (fun v w=>Lv w v b xs b' ys) (fun _ _ _ h hb=>h.below hb) (fun _ _ _ _ h hs=>h.stored hs)
def LocL (W : World) (g : Nat) (b : Bool) (xs : List Nat) (b' : Bool) (ys : List Nat) : Prop:=∃ v,Lv W v b xs b' ys ∧ ∃ cs,v = .agg cs ∧ cs.size = 4 ∧ Holds_ W g cs
theorem Lv.parts {W : World} {v : Value} {b b' : Bool} {xs ys : List Nat} (h : Lv W v b xs b' ys) : ∃ A c A' c',v = .agg #[.bool b,.slice A xs.length c,.bool b',.slice A' ys.length c']:=by
 obtain ⟨g,c,g',c',h1,_⟩:=h
 exact ⟨_,c,_,c',h1⟩
theorem LocL.parts {W : World} {g : Nat} {b b' : Bool} {xs ys : List Nat} (h : LocL W g b xs b' ys) : ∃ A c A' c',Holds_ W g #[.bool b,.slice A xs.length c,.bool b',.slice A' ys.length c'] ∧ Lv W (.agg #[.bool b,.slice A xs.length c,.bool b',.slice A' ys.length c']) b xs b' ys:=by
 obtain ⟨v,hv,cs,rfl,_,hh⟩:=h
 obtain ⟨A,c,A',c',e⟩:=hv.parts
 injection e with e
 subst e
 exact ⟨A,c,A',c',hh,hv⟩
theorem LocL.q {W : World} {g : Nat} {b b' : Bool} {xs ys : List Nat} (h : LocL W g b xs b' ys) : LocQ W g b xs b' ys:=by
 obtain ⟨v,⟨g1,c,g2,c',rfl,⟨h2,_⟩,h4,_⟩,cs,e,_,hh⟩:=h
 injection e with e
 subst e
 exact ⟨_,c,_,c',hh,h2.pre,h4.pre⟩
theorem Reg.lv {B : Nat} {W0 w : World} {G : List Nat} (h : Reg B W0 G w) {v : Value} {b b' : Bool} {xs ys : List Nat} (hv : Lv W0 v b xs b' ys) : Lv w v b xs b' ys:=by
 obtain ⟨g,c,g',c',h1,⟨h2,h3⟩,h4,h5⟩:=hv
 exact ⟨g,c,g',c',h1,⟨h.row h2,h3⟩,h.row h4,h5⟩
theorem Reg.locL {B : Nat} {W0 w : World} {G : List Nat} (h : Reg B W0 G w) {g : Nat} (hg : g ∉ G) {b b' : Bool} {xs ys : List Nat} (hl : LocL W0 g b xs b' ys) : LocL w g b xs b' ys:=by
 obtain ⟨v,hv,cs,rfl,hsz,hh⟩:=hl
 exact ⟨_,h.lv hv,cs,rfl,hsz,h.holdsG hg hh⟩
def isL (b : Bool) (xs : List Nat) (b' : Bool) (ys : List Nat) (cs : Array Value) (w : World) : Prop:=Lv w (.agg cs) b xs b' ys
def kPutL (e : Nat) (b : Bool) (xs : List Nat) (b' : Bool) (ys : List Nat) : PK:=.put e (isL b xs b' ys) (fun _ _ _ h hb=>Lv.below h hb) (fun _ _ _ _ h hs=>Lv.stored h hs)
theorem put_locL {S0 : Nat} {x : Nat → Value} {v : Value} {w : World} {e : Nat} {b b' : Bool} {xs ys : List Nat} (h : (kPutL e b xs b' ys).sem S0 x v w) : ∃ g,x e = .pointer (some ⟨g,0,none⟩) ∧ S0 ≤ g ∧ LocL w g b xs b' ys:=by
 obtain ⟨g,cs,h1,hg,h2,h3⟩:=h
 obtain ⟨A,c,A',c',e1⟩:=(show Lv w (.agg cs) b xs b' ys from h3).parts
 injection e1 with e1
 subst e1
 exact ⟨g,h1,hg,_,h3,_,rfl,rfl,h2⟩
section
variable {G : List Nat} {S0 B : Nat} {ks : List PK} {a0 : Act} {i : Nat} {N : Nat} {W0 : World} {T : TypeId} {pos : String} {af : Array Edge} {gu : Option (Nat × Bool)} {b b' : Bool} {xs ys : List Nat}
theorem st_loadL {d t g : Nat} (hl : LocL W0 g b xs b' ys)  (hp : a0.eval (.tmp t) = .pointer (some ⟨g,0,none⟩))   (hi : at_ ks i = kL b xs b' ys) (hG : g ∉ G:=by simp) (hN : a0.tmps.size = N:=by assumption) (hd : decide (d < N) = true:=by kernel_rfl) :
   PkStep Tryz.prog (Reg B W0 G) S0 ks a0 i { dst:=some d,op:=.load 26 (.tmp t),type:=T,pos:=pos,after:=af,guard:=gu } []:=by
 intro w x hC K hK
 obtain ⟨A,c,A',c',h1,h2⟩:=(hC.locL hG hl).parts
 obtain ⟨m1,m2,m3,m4,_,_,_,_⟩:=h1.four
 refine cb (w':=w) rfl hN hd (ex_load hp (run_load4P m1 m2 m3 m4)) (hK _ _ ?_ ?_)
 · rw [hi]; exact Below.refl _ _
 · rw [hi]; exact h2
theorem st_putL {t u e j : Nat}     (he : at_ ks e = .fresh 4) (hj : at_ ks j = kL b xs b' ys) (hi : at_ ks i = kPutL e b xs b' ys) (hN : a0.tmps.size = N:=by assumption) (ht : decide (t < N) = true:=by kernel_rfl) (hu : decide (u < N) = true:=by kernel_rfl) (htu : decide (t = u) = false:=by kernel_rfl) :
   PkStep Tryz.prog (Reg B W0 G) S0 ks a0 i { dst:=none,op:=.store 26 (.tmp t) (.tmp u),type:=T,pos:=pos,after:=af,guard:=gu } [(e,some t),(j,some u)]:=by
 intro w x hC
 refine ay _ fun hdeps K hK=>?_
 have h1:=hdeps (e,some t) (by simp)
 have h2:=hdeps (j,some u) (by simp)
 have htu' : t ≠ u:=of_decide_eq_false htu
 have e1 : (putE x a0 [(e,some t),(j,some u)]).eval (.tmp t) = x e:=putE_new _ _ (by rw [hN]; exact of_decide_eq_true ht) (by simp [slotAt,Ne.symm htu'])
 have e2 : (putE x a0 [(e,some t),(j,some u)]).eval (.tmp u) = x j:=putE_new _ _ (by rw [hN]; exact of_decide_eq_true hu) (by simp [slotAt])
 simp only [he,hj] at h1 h2
 obtain ⟨g,cs,hx,hg0,hg,hsz⟩:=h1
 obtain ⟨a,b0,c0,d0,rfl⟩:=fl hsz
 have h3 : Lv w (x j) b xs b' ys:=h2
 obtain ⟨A,c,A',c',hy⟩:=h3.parts
 obtain ⟨m1,m2,m3,m4,f1,f2,f3,f4⟩:=hg.four
 have hst:=dr hg (noDig_bool b) (noDig_slice A xs.length c) (noDig_bool b') (noDig_slice A' ys.length c')
 refine jp (w':=put4 w g (.bool b) (.slice A xs.length c) (.bool b') (.slice A' ys.length c')) rfl ?_ (hK _ _ ?_ ?_)
 · exact fu (e1.trans hx) (e2.trans hy) (run_storeP m1 m2 m3 m4 f1 f2 f3 f4)
 · rw [hi]; exact ⟨g,hx,hg0,hst⟩
 · rw [hi]; refine ⟨g,_,hx,hg0,dz hg (noDig_bool _) (noDig_slice _ _ _) (noDig_bool _) (noDig_slice _ _ _),?_⟩; rw [hy] at h3; exact Lv.stored h3 hst
theorem st_lensP2 {d j1 t1 j2 t2 l1 l1' l2 l2' : Nat} {b1 b1' b2 b2' : Bool} {A1 A1' A2 A2' : Option Addr} {c1 c1' c2 c2' : Nat}      
   (h1 : at_ ks j1 = kIs (.agg #[.bool b1,.slice A1 l1 c1,.bool b1',.slice A1' l1' c1'])) (h2 : at_ ks j2 = kIs (.agg #[.bool b2,.slice A2 l2 c2,.bool b2',.slice A2' l2' c2'])) (hi : at_ ks i = kLensP [(l1,l1'),(l2,l2')]) (hN : a0.tmps.size = N:=by assumption) (hd : decide (d < N) = true:=by kernel_rfl) (ht1 : decide (t1 < N) = true:=by kernel_rfl) (ht2 : decide (t2 < N) = true:=by kernel_rfl) (hne : decide (t1 = t2) = false:=by kernel_rfl) (hS : S0 ≤ W0.heap.size:=by exact Nat.le_refl _) :
   PkStep Tryz.prog (Reg B W0 G) S0 ks a0 i { dst:=some d,op:=.buildSlice 42 2 #[(0,.tmp t1),(1,.tmp t2)],type:=T,pos:=pos,after:=af,guard:=gu } [(j1,some t1),(j2,some t2)]:=by
 intro w x hC
 refine ay _ fun hdeps K hK=>?_
 have hx:=hdeps (j1,some t1) (by simp)
 have hy:=hdeps (j2,some t2) (by simp)
 rw [h1] at hx
 rw [h2] at hy
 replace hx : x j1 = .agg #[.bool b1,.slice A1 l1 c1,.bool b1',.slice A1' l1' c1']:=hx
 replace hy : x j2 = .agg #[.bool b2,.slice A2 l2 c2,.bool b2',.slice A2' l2' c2']:=hy
 have hne' : t1 ≠ t2:=of_decide_eq_false hne
 have e1 : (putE x a0 [(j1,some t1),(j2,some t2)]).eval (.tmp t1) = x j1:=putE_new _ _ (by rw [hN]; exact of_decide_eq_true ht1) (by simp [slotAt,Ne.symm hne'])
 have e2 : (putE x a0 [(j1,some t1),(j2,some t2)]).eval (.tmp t2) = x j2:=putE_new _ _ (by rw [hN]; exact of_decide_eq_true ht2) (by simp [slotAt])
 have hsz:=hC.below.size
 refine cb rfl (by rw [az,hN]) hd (ex_slice2 (e1.trans hx) (e2.trans hy) run_plist2) (hK _ _ ?_ ?_)
 · rw [hi]; exact ⟨(Below.refl _ _).alloc (Nat.le_refl _) _,_,rfl,Nat.le_refl _⟩
 · rw [hi]; refine ⟨_,rfl,Nat.le_trans hS hsz,lt_alloc _ _,fun j q hj=>?_⟩
   match j,hj with
   | 0,hj=>simp at hj; subst hj; exact ⟨⟨A1,c1,by simp⟩,A1',c1',by simp⟩
   | 1,hj=>simp at hj; subst hj; exact ⟨⟨A2,c2,by simp⟩,A2',c2',by simp⟩
end
theorem sameInt_raw {w : World} {A1 A2 : Option Addr} {c1 c2 : Nat} {b : Bool} {xs : List Nat} (r1 : Row w A1 (u32s xs)) (r2 : Row w A2 (u32s xs)) (hl : xs.length ≤ 1000000) :
   Calls Tryz.prog 26 #[.agg #[.bool b,.slice A1 xs.length c1],.agg #[.bool b,.slice A2 xs.length c2]] w (SaysB w true):=by
 have hsm:=fun (W : World) (hW : Below w.heap.size w W)=>same_yes0 (w:=W) (c1:=c1) (c2:=c2) (r1.below hW) (r2.below hW) hl
 have HSM:=Lib.hid hsm
 clear hsm r1 r2 hl
 go_enter Tryz.func26,Tryz.ntmps26
 go_wp2_with fail
 refine (HSM.out _ (bal (bal (Below.refl _ _) _) _)).mono ?_
 rintro e w1 ⟨rfl,hd⟩
 have hb:=bstep (bal (bal (Below.refl w.heap.size w) _) _) hd.below
 clear hd
 go_wp2
 go_ret
 exact ⟨rfl,hb⟩
theorem sameInt_nv {w : World} {v1 v2 : Value} {b : Bool} {xs : List Nat} (h1 : Nv w v1 b xs) (h2 : Nv w v2 b xs) (hl : xs.length ≤ 1000000) : Calls Tryz.prog 26 #[v1,v2] w (SaysB w true):=by
 obtain ⟨A1,c1,rfl,r1⟩:=h1
 obtain ⟨A2,c2,rfl,r2⟩:=h2
 exact sameInt_raw r1 r2 hl
theorem LN.nv {W : World} {v : Value} {b : Bool} {xs : List Nat} (h : LN W v b xs) : Nv W v b xs:=by
 obtain ⟨g,c,h1,h2,_⟩:=h
 exact ⟨_,c,h1,h2.pre⟩
theorem keptInt_ln {w : World} {v1 v2 : Value} {b : Bool} {xs : List Nat} (h1 : LN w v1 b xs) (h2 : Nv w v2 b xs) (hl : xs.length ≤ 4000) : Calls Tryz.prog 72 #[v1,v2] w (SaysB w true):=by
 obtain ⟨g,cap,rfl,r1,hc⟩:=h1
 obtain ⟨A,c,rfl,r2⟩:=h2
 have hsm:=fun (W : World) (hW : Below w.heap.size w W)=>sameInt_raw (w:=W) (b:=b) (c1:=cap) (c2:=c) (r1.pre.below hW) (r2.below hW) (by omega)
 have hke:=fun (W : World) (hW : Below w.heap.size w W)=>kept_any (w:=W) (c:=c) (r1.below hW) hc (r2.below hW) hl
 have HSM:=Lib.hid hsm
 have HKE:=Lib.hid hke
 clear hsm hke r1 r2 hl hc
 go_enter Tryz.func72,Tryz.ntmps72
 go_wp2_with fail
 refine (HSM.out _ (bal (bal (Below.refl _ _) _) _)).mono ?_
 rintro e w1 ⟨rfl,hb⟩
 have K1:=(hb.block w.heap.size (by simp <;> omega)).trans ((Below.heap_alloc _ _ _ (by simp <;> omega)).trans (new_at (by simp)))
 have K2:=(hb.block (w.heap.size + 1) (by simp)).trans (new_at (by simp))
 have hb1:=bstep (bal (bal (Below.refl w.heap.size w) _) _) hb
 obtain ⟨m1,m2,m3,m4⟩:=cell_of_two K1
 obtain ⟨n1,n2,n3,n4⟩:=cell_of_two K2
 have HB1:=Lib.hid hb1
 clear hb hb1 m3 m4 n3 n4
 go_wp2_with fail
 refine (HKE.out _ HB1.out).mono ?_
 rintro e w2 ⟨rfl,hd⟩
 have HB2:=Lib.hid (bstep HB1.out hd.below)
 clear hd
 go_wp2
 go_ret
 exact ⟨rfl,HB2.out⟩
section
variable {G : List Nat} {S0 B : Nat} {ks : List PK} {a0 : Act} {i : Nat} {N : Nat} {W0 : World} {T : TypeId} {pos : String} {af : Array Edge} {gu : Option (Nat × Bool)} {b b' : Bool} {xs ys : List Nat}
theorem st_loadL0 {d t j g : Nat} (hl : LocL W0 g b xs b' ys)     (hj : at_ ks j = kIs (.pointer (some ⟨g,0,none⟩))) (hi : at_ ks i = kLN b xs) (hG : g ∉ G:=by simp) (hN : a0.tmps.size = N:=by assumption) (hd : decide (d < N) = true:=by kernel_rfl) (ht : decide (t < N) = true:=by kernel_rfl) :
   PkStep Tryz.prog (Reg B W0 G) S0 ks a0 i { dst:=some d,op:=.load 24 (.tmp t),type:=T,pos:=pos,after:=af,guard:=gu } [(j,some t)]:=by
 intro w x hC
 refine ay _ fun hdeps K hK=>?_
 have g1:=hdeps (j,some t) (by simp)
 rw [hj] at g1
 have g2 : x j = .pointer (some ⟨g,0,none⟩):=g1
 have e1 : (putE x a0 [(j,some t)]).eval (.tmp t) = x j:=putE_new _ _ (by rw [hN]; exact of_decide_eq_true ht) (by simp [slotAt])
 obtain ⟨A,c,A',c',h1,h2⟩:=(hC.locL hG hl).parts
 obtain ⟨m1,m2,_,_,_,_,_,_⟩:=h1.four
 obtain ⟨gg,cc,gg',cc',e,⟨h4,h5⟩,_⟩:=h2
 injection e with e; injection e with e
 injection e with _ e; injection e with e _; injection e with q1 q2 q3
 subst q1; subst q3
 refine cb (w':=w) rfl (by rw [az,hN]) hd (ex_load (e1.trans g2) (run_load m1 m2)) (hK _ _ ?_ ?_)
 · rw [hi]; exact Below.refl _ _
 · rw [hi]; exact ⟨_,_,rfl,h4,h5⟩
theorem st_loadL1 {d t j g : Nat} (hl : LocL W0 g b xs b' ys)     (hj : at_ ks j = kIs (.pointer (some ⟨g,2,none⟩))) (hi : at_ ks i = kLN b' ys) (hG : g ∉ G:=by simp) (hN : a0.tmps.size = N:=by assumption) (hd : decide (d < N) = true:=by kernel_rfl) (ht : decide (t < N) = true:=by kernel_rfl) :
   PkStep Tryz.prog (Reg B W0 G) S0 ks a0 i { dst:=some d,op:=.load 24 (.tmp t),type:=T,pos:=pos,after:=af,guard:=gu } [(j,some t)]:=by
 intro w x hC
 refine ay _ fun hdeps K hK=>?_
 have g1:=hdeps (j,some t) (by simp)
 rw [hj] at g1
 have g2 : x j = .pointer (some ⟨g,2,none⟩):=g1
 have e1 : (putE x a0 [(j,some t)]).eval (.tmp t) = x j:=putE_new _ _ (by rw [hN]; exact of_decide_eq_true ht) (by simp [slotAt])
 obtain ⟨A,c,A',c',h1,h2⟩:=(hC.locL hG hl).parts
 obtain ⟨_,_,m3,m4,_,_,_,_⟩:=h1.four
 obtain ⟨gg,cc,gg',cc',e,_,h4,h5⟩:=h2
 injection e with e; injection e with e
 injection e with _ e; injection e with _ e; injection e with _ e; injection e with e _; injection e with q1 q2 q3
 subst q1; subst q3
 refine cb (w':=w) rfl (by rw [az,hN]) hd (ex_load (e1.trans g2) (run_loadAt m3 m4)) (hK _ _ ?_ ?_)
 · rw [hi]; exact Below.refl _ _
 · rw [hi]; exact ⟨_,_,rfl,h4,h5⟩
end
theorem tlq {P : Program} {F : FuncId} {vs : Array Value} {w : World} {S0 : Nat} {x : Nat → Value} {b b' : Bool} {xs ys : List Nat} (h : Calls P F vs w fun e w'=>∃ u,e = .returned u ∧ Lv w' u b xs b' ys ∧ Below w.heap.size w w') : Calls P F vs w (Told (kL b xs b' ys) S0 x w) :=
 h.mono fun _ _ ⟨v,e,h1,h2⟩=>⟨_,e,h2,h1⟩
end Go.Proofs.YtnbhihhjgpddcaaGreatDoor

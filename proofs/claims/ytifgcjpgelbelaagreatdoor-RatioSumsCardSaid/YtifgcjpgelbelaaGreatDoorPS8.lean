/- RatioSums, its row and its card: for every list of ratios the call returns true; the list reads behind the call as it read before. Conditions: those of the given row and card: the three tables of the library are laid as the program's text lays them. Sums and products of at most six ratios of at most 8 digits a number, whatever they are: The law RatioSums, walked: -/
import Derived.Test.YtifgcjpgelbelaaGreatDoorPS7
import Derived.Test.YtifgcjpgelbelaaGreatDoorPS6
set_option maxRecDepth 100000
set_option maxHeartbeats 16000000
set_option linter.unusedVariables false
set_option linter.unusedSimpArgs false
set_option linter.unusedVariables false
set_option linter.unusedSimpArgs false
namespace Go.Proofs.YtifgcjpgelbelaaGreatDoor
open Go.RowKit
theorem ratQ8 {b b' : Bool} {xs ys : List Nat} (s1 : small 4294967296 xs) (l1 : xs.length ≤ 8) (s2 : small 4294967296 ys) (l2 : ys.length ≤ 8) : ∃ (a : Rat),(a.num.natAbs < 1000000000 ^ 8 ∧ a.den < 1000000000 ^ 8) ∧ ∃ rt : Bool,BothTell b xs b' ys a rt:=by
 have hz : (0 : Rat).num.natAbs < 1000000000 ^ 9 ∧ (0 : Rat).den < 1000000000 ^ 9:=by decide
 have hz8 : (0 : Rat).num.natAbs < 1000000000 ^ 8 ∧ (0 : Rat).den < 1000000000 ^ 8:=by decide
 have no : (∀ (W : World) (v : Value),Qv W v b xs b' ys → Calls Tryz.prog 19 #[v] W (SaysB W false)) → (∀ (W : World) (v : Value),Qv W v b xs b' ys → Calls Tryz.prog 20 #[v] W (SaysB W false)) → ∃ (a : Rat),(a.num.natAbs < 1000000000 ^ 8 ∧ a.den < 1000000000 ^ 8) ∧ ∃ rt : Bool,BothTell b xs b' ys a rt:=fun hr hr' =>
   ⟨0,hz8,false,hz.1,hz.2,fun W v hv=>⟨hr W v hv,tells_nought (by decide) (ofQ_no (Lib.hid fun W' v' _ h=>hr W' v' h) hv),hr' W v hv,tells_nought (by decide) (takeQ_no (Lib.hid fun W' v' _ h=>hr' W' v' h) hv)⟩⟩
 have nv1 : ∀ (W : World) (v : Value),Nv W v b xs → (RN b xs → Calls Tryz.prog 70 #[v] W (SaysB W true)) ∧ (¬ RN b xs → Calls Tryz.prog 70 #[v] W (SaysB W false)):=fun W v h =>
   ⟨fun h1=>r2_right (h.zr s1 l1 h1.1 h1.2),fun h1=>r2_right_no h s1 l1 h1⟩
 by_cases h1 : RN b xs
 · by_cases h2 : RN b' ys
   · by_cases h3 : 0 < zOf (val ys) b' ∧ ((zgcd [(zOf (val xs) b),(zOf (val ys) b')] : Nat) : Int) = 1
     · obtain ⟨a,ha,hb⟩:=rat_of h3; have hp : ∀ (W : World) (v : Value),Qv W v b xs b' ys → Pr W v 9 a.num (a.den : Int):=fun W v hv=>by rw [ha,hb]; exact hv.pr s1 l1 s2 l2 h1 h2
       have n1 : a.num.natAbs < 1000000000 ^ 8:=by rw [ha,bg]; exact Nat.lt_of_lt_of_le (val_lt h1.1.1) (pow_le l1)
       have n2 : a.den < 1000000000 ^ 8:=by
         have e : ((a.den : Int)).natAbs = val ys:=by rw [hb,bg]
         have e2 : a.den = val ys:=e; rw [e2]; exact Nat.lt_of_lt_of_le (val_lt h2.1.1) (pow_le l2)
       have m1:=Nat.lt_of_lt_of_le n1 (pow_le (show 8 ≤ 9 by decide)); have m2:=Nat.lt_of_lt_of_le n2 (pow_le (show 8 ≤ 9 by decide)); refine ⟨a,⟨n1,n2⟩,true,m1,m2,fun W v hv=>⟨right_9 (hp W v hv),of_9 (hp W v hv),refRight_yes ((hp W v hv).mono (by decide)),?_⟩⟩
       exact (refTake_yes ((hp W v hv).mono (by decide))).mono fun _ _ ⟨u,e,hu,hb⟩=>⟨u,e,hu.tight m1 m2,hb⟩
     · exact no (fun W v hv=>right_no_9 h3 (hv.pr s1 l1 s2 l2 h1 h2)) fun W v hv=>refRight_no h3 ((hv.pr s1 l1 s2 l2 h1 h2).mono (by decide))
   · refine no (fun W v hv=>?_) fun W v hv=>refRightQ_no2 (Lib.hid fun W' v' _ h=>(nv1 W' v' h).1 h1) (Lib.hid fun W' v' _ h=>r2_right_no h s2 l2 h2) hv; obtain ⟨A,c,A',c',rfl,r1,r2⟩:=hv; exact rRight_no2 (fun W' hW'=>numRight_yes b ⟨_,_,xs,rfl,r1.below hW',h1.1,by omega,rfl⟩ fun e=>h1.2 (right_zero h1.1 e)) fun W' hW'=>numRight_no (r2.below hW') s2 (by omega) h2
 · refine no (fun W v hv=>?_) fun W v hv=>refRightQ_no1 (Lib.hid fun W' v' _ h=>(nv1 W' v' h).2 h1) hv; obtain ⟨A,c,A',c',rfl,r1,r2⟩:=hv; exact rRight_no1 fun W' hW'=>numRight_no (r1.below hW') s1 (by omega) h1
def psumQ (A : Nat → Rat) : Nat → Rat
 | 0=>0
 | i + 1=>psumQ A i + A i
def pprodQ (A : Nat → Rat) : Nat → Rat
 | 0=>1
 | i + 1=>pprodQ A i * A i
theorem psum_le {A : Nat → Rat} {n D : Nat} (hA : ∀ i, i < n → (A i).num.natAbs < D ∧ (A i).den < D) : ∀ i, i ≤ n → (psumQ A i).num.natAbs ≤ i * D ^ i ∧ (psumQ A i).den ≤ D ^ i
 | 0,_=>by
   show (0 : Rat).num.natAbs ≤ 0 * D ^ 0 ∧ (0 : Rat).den ≤ D ^ 0
   exact ⟨by simp,by simp⟩
 | i + 1,hi=>by
   obtain ⟨h1,h2⟩:=psum_le hA i (by omega); obtain ⟨h3,h4⟩:=hA i (by omega); have e : psumQ A (i + 1) = Rat.divInt ((psumQ A i).num * ((A i).den : Int) + (A i).num * ((psumQ A i).den : Int)) (((psumQ A i).den : Int) * ((A i).den : Int)):=(q_add _ _).symm; rw [e]; have hn:=fj ((psumQ A i).num * ((A i).den : Int) + (A i).num * ((psumQ A i).den : Int)) (((psumQ A i).den : Int) * ((A i).den : Int)); have hd:=fk (n:=(psumQ A i).num * ((A i).den : Int) + (A i).num * ((psumQ A i).den : Int)) (Int.mul_ne_zero (den_ne (psumQ A i)) (den_ne (A i))); have ha:=Int.natAbs_add_le ((psumQ A i).num * ((A i).den : Int)) ((A i).num * ((psumQ A i).den : Int)); rw [Int.natAbs_mul,Int.natAbs_mul,Int.natAbs_natCast,Int.natAbs_natCast] at ha; rw [Int.natAbs_mul,Int.natAbs_natCast,Int.natAbs_natCast] at hd; have m1 : (psumQ A i).num.natAbs * (A i).den ≤ (i * D ^ i) * D:=Nat.mul_le_mul h1 (Nat.le_of_lt h4); have m2 : (A i).num.natAbs * (psumQ A i).den ≤ D * D ^ i:=Nat.mul_le_mul (Nat.le_of_lt h3) h2; have m3 : (psumQ A i).den * (A i).den ≤ D ^ i * D:=Nat.mul_le_mul h2 (Nat.le_of_lt h4); rw [Nat.pow_succ]; refine ⟨?_,Nat.le_trans hd m3⟩; have e2 : (i + 1) * (D ^ i * D) = (i * D ^ i) * D + D * D ^ i:=by rw [Nat.add_mul,Nat.one_mul,Nat.mul_assoc,Nat.mul_comm D (D ^ i)]
   rw [e2]; omega
theorem pprod_le {A : Nat → Rat} {n D : Nat} (hA : ∀ i, i < n → (A i).num.natAbs < D ∧ (A i).den < D) : ∀ i, i ≤ n → (pprodQ A i).num.natAbs ≤ D ^ i ∧ (pprodQ A i).den ≤ D ^ i
 | 0,_=>by
   show (1 : Rat).num.natAbs ≤ D ^ 0 ∧ (1 : Rat).den ≤ D ^ 0
   exact ⟨by simp,by simp⟩
 | i + 1,hi=>by
   obtain ⟨h1,h2⟩:=pprod_le hA i (by omega); obtain ⟨h3,h4⟩:=hA i (by omega); have e : pprodQ A (i + 1) = Rat.divInt ((pprodQ A i).num * (A i).num) (((pprodQ A i).den : Int) * ((A i).den : Int)):=(q_mul _ _).symm; rw [e]; have hn:=fj ((pprodQ A i).num * (A i).num) (((pprodQ A i).den : Int) * ((A i).den : Int)); have hd:=fk (n:=(pprodQ A i).num * (A i).num) (Int.mul_ne_zero (den_ne (pprodQ A i)) (den_ne (A i))); rw [Int.natAbs_mul] at hn; rw [Int.natAbs_mul,Int.natAbs_natCast,Int.natAbs_natCast] at hd; rw [Nat.pow_succ]; exact ⟨Nat.le_trans hn (Nat.mul_le_mul h1 (Nat.le_of_lt h3)),Nat.le_trans hd (Nat.mul_le_mul h2 (Nat.le_of_lt h4))⟩
theorem lt49 {X i : Nat} (hX : 7 ≤ X) (hi : i ≤ 6) : i * (X ^ 8) ^ i < X ^ 49 ∧ (X ^ 8) ^ i < X ^ 49:=by
 have h1 : (X ^ 8) ^ i ≤ X ^ 48:=by rw [← Nat.pow_mul]; exact Nat.pow_le_pow_right (by omega) (by omega)
 have h0 : 0 < X ^ 48:=Nat.pow_pos (by omega)
 have e : X ^ 49 = X ^ 48 * X:=Nat.pow_succ ..
 have h2 : X ^ 48 * 7 ≤ X ^ 48 * X:=Nat.mul_le_mul_left _ hX
 have h3 : i * (X ^ 8) ^ i ≤ 6 * X ^ 48:=Nat.mul_le_mul hi h1
 rw [e]
 omega
def qOf (L : List ((Bool × List Nat) × Bool × List Nat)) (i : Nat) : (Bool × List Nat) × Bool × List Nat:=L.getD i ((false,[]),false,[])
theorem qOf_at {L : List ((Bool × List Nat) × Bool × List Nat)} {i : Nat} (h : i < L.length) : L[i]? = some (qOf L i):=by
 unfold qOf; rw [List.getElem?_eq_getElem h,List.getD_eq_getElem?_getD,List.getElem?_eq_getElem h]; rfl
theorem LentAll.el {W : World} {B g cap m Sb : Nat} {L : List ((Bool × List Nat) × Bool × List Nat)} {E : List Value} (h : LentAll W B L E) (ho : Own4 W B (.slice (some ⟨g,0,none⟩) m cap) m E) (hg : g < Sb) : ∀ i,i < L.length → ElA Sb W (some ⟨g,0,none⟩) i (EL (qOf L) i):=fun i hi=>by
 obtain ⟨v,⟨a,b,c,d,rfl,e1,e2,e3,e4⟩,hlo⟩:=h i _ (qOf_at hi)
 exact ⟨⟨g,0,none⟩,rfl,hg,a,b,c,d,by rw [kx]; exact ⟨ho.cell e1,ho.cell e2,ho.cell e3,ho.cell e4⟩,hlo.lv⟩
def EQ (q : Nat → (Bool × List Nat) × Bool × List Nat) (i : Nat) (v : Value) (W : World) : Prop:=Qv W v (q i).1.1 (q i).1.2 (q i).2.1 (q i).2.2
theorem RawQs.el {W : World} {A : Option Addr} {L : List ((Bool × List Nat) × Bool × List Nat)} (h : RawQs W A L) : ∀ i,i < L.length → ElA W.heap.size W A i (EQ (qOf L) i):=fun i hi=>by
 obtain ⟨ad,e,⟨A1,c1,m1,m2,r1,_⟩,A2,c2,m3,m4,r2,_⟩:=h i _ (qOf_at hi)
 have hlt:=cell_lt m1
 rw [fo] at hlt
 exact ⟨ad,e,hlt,_,_,_,_,⟨m1,m2,m3,m4⟩,A1,c1,A2,c2,rfl,r1,r2⟩
theorem RawQs.smalls {W : World} {A : Option Addr} {L : List ((Bool × List Nat) × Bool × List Nat)} (h : RawQs W A L) : ∀ i,i < L.length → small 4294967296 (qOf L i).1.2 ∧ small 4294967296 (qOf L i).2.2:=fun i hi=>by
 obtain ⟨ad,e,⟨A1,c1,m1,m2,r1,s1⟩,A2,c2,m3,m4,r2,s2⟩:=h i _ (qOf_at hi)
 exact ⟨s1,s2⟩
theorem sumsQ_told {w : World} {A : Option Addr} {L : List ((Bool × List Nat) × Bool × List Nat)} (hR : RawQs w A L) (h6 : L.length ≤ 6) (hl : ∀ q ∈ L,q.1.2.length ≤ 8 ∧ q.2.2.length ≤ 8) :
   ∃ x y : Rat, (∀ (W : World) (B g m cap cap' c : Nat) (E : List Value), LentAll W B L E → Own4 W B (.slice (some ⟨g, 0, none⟩) m cap) m E → g < W.heap.size → Calls Tryz.prog 34 #[.slice (some ⟨g, 0, none⟩) L.length cap'] W (TellsPO W 79 x.num (x.den : Int)) ∧ Calls Tryz.prog 35 #[.slice (some ⟨g, 0, none⟩) L.length cap'] W (TellsPO W 79 y.num (y.den : Int))) ∧
     (∀ (W : World) (c : Nat),Below w.heap.size w W → Calls Tryz.prog 36 #[.slice A L.length c] W (TellsP W 49 x.num (x.den : Int)) ∧ Calls Tryz.prog 37 #[.slice A L.length c] W (TellsP W 49 y.num (y.den : Int))):=by
 have hex : ∀ i,∃ a : Rat,i < L.length → (a.num.natAbs < 1000000000 ^ 8 ∧ a.den < 1000000000 ^ 8) ∧ ∃ rt : Bool,BothTell (qOf L i).1.1 (qOf L i).1.2 (qOf L i).2.1 (qOf L i).2.2 a rt:=fun i=>by
   by_cases hi : i < L.length
   · obtain ⟨s1,s2⟩:=hR.smalls i hi; obtain ⟨l1,l2⟩:=hl _ (List.mem_of_getElem? (qOf_at hi)); obtain ⟨a,h⟩:=ratQ8 (b:=(qOf L i).1.1) (b':=(qOf L i).2.1) s1 l1 s2 l2; exact ⟨a,fun _=>h⟩
   · exact ⟨0,fun h=>absurd h hi⟩
 obtain ⟨Q,hQ⟩:=Classical.axiomOfChoice hex
 have hlt8 : ∀ i,i < L.length → (Q i).num.natAbs < 1000000000 ^ 8 ∧ (Q i).den < 1000000000 ^ 8:=fun i hi=>(hQ i hi).1
 have b1 : ∀ i,i ≤ L.length → (psumQ Q i).num.natAbs < 1000000000 ^ 49 ∧ (psumQ Q i).den < 1000000000 ^ 49:=fun i hi=>by
   have h:=psum_le hlt8 i hi; have h2:=lt49 (X:=1000000000) (by decide) (show i ≤ 6 by omega); exact ⟨Nat.lt_of_le_of_lt h.1 h2.1,Nat.lt_of_le_of_lt h.2 h2.2⟩
 have b2 : ∀ i,i ≤ L.length → (pprodQ Q i).num.natAbs < 1000000000 ^ 49 ∧ (pprodQ Q i).den < 1000000000 ^ 49:=fun i hi=>by
   have h:=pprod_le hlt8 i hi; have h2:=lt49 (X:=1000000000) (by decide) (show i ≤ 6 by omega); exact ⟨Nat.lt_of_le_of_lt h.1 h2.2,Nat.lt_of_le_of_lt h.2 h2.2⟩
 have up : ∀ {n : Nat},n < 1000000000 ^ 49 → n < 1000000000 ^ 79:=fun h=>Nat.lt_of_lt_of_le h (pow_le (by decide))
 have hAb : ∀ i,i < L.length → (Q i).num.natAbs < 1000000000 ^ 9 ∧ (Q i).den < 1000000000 ^ 9:=fun i hi=>⟨Nat.lt_of_lt_of_le (hlt8 i hi).1 (pow_le (by decide)),Nat.lt_of_lt_of_le (hlt8 i hi).2 (pow_le (by decide))⟩
 refine ⟨psumQ Q L.length,pprodQ Q L.length,fun W B g m cap cap' c E ha ho hg=>⟨?_,?_⟩,fun W c hW=>⟨?_,?_⟩⟩
 · exact Add_o (q:=qOf L) (A:=Q) (S:=psumQ Q) (fun i hi W v hv=>by obtain ⟨_,rt,hb⟩:=hQ i hi; exact (hb.2.2 W v (Lv.qv hv)).2.1) (ha.el ho hg) (by omega) rfl (fun _ _=>rfl) fun i hi=>⟨up (b1 i hi).1,up (b1 i hi).2⟩
 · exact Mul_o (q:=qOf L) (A:=Q) (S:=pprodQ Q) (fun i hi W v hv=>by obtain ⟨_,rt,hb⟩:=hQ i hi; exact (hb.2.2 W v (Lv.qv hv)).2.1) (ha.el ho hg) (by omega) rfl (fun _ _=>rfl) fun i hi=>⟨up (b2 i hi).1,up (b2 i hi).2⟩
 · exact refAddN (E:=EQ (qOf L)) (A:=Q) (S:=psumQ Q) (fun _ _ _ _ h hb=>Qv.below h hb) (fun _ _ _ _ _ h hs=>Qv.stored h hs) (fun _ _ _ _ _ _ hC h=>hC.qvR h) (fun i hi W' v _ hv=>by obtain ⟨_,rt,hb⟩:=hQ i hi; exact (hb.2.2 W' v hv).2.2.2) (hR.below hW).el (by omega) rfl (fun _ _=>rfl) b1 hAb
 · exact refMulN (E:=EQ (qOf L)) (A:=Q) (S:=pprodQ Q) (fun _ _ _ _ h hb=>Qv.below h hb) (fun _ _ _ _ _ h hs=>Qv.stored h hs) (fun _ _ _ _ _ _ hC h=>hC.qvR h) (fun i hi W' v _ hv=>by obtain ⟨_,rt,hb⟩:=hQ i hi; exact (hb.2.2 W' v hv).2.2.2) (hR.below hW).el (by omega) rfl (fun _ _=>rfl) b2 hAb
end Go.Proofs.YtifgcjpgelbelaaGreatDoor
set_option linter.unusedVariables false
set_option linter.unusedSimpArgs false
namespace Go.Proofs.YtifgcjpgelbelaaGreatDoor
open Go.RowKit
theorem told_pc {W0 w : World} {B S0 k : Nat} {F : FuncId} {x : Nat → Value} {v1 u1 : Value} {y z : Int} (H : Hid (∀ W,Below B W0 W → Calls Tryz.prog F #[u1] W (TellsP W k y z))) (hb : Below B W0 w) (h1 : (kIs u1).sem S0 x v1 w) : Calls Tryz.prog F #[v1] w (Told (kP k y z) S0 x w):=by
 obtain rfl : v1 = u1:=h1
 exact tp (H.out w hb)
theorem lawRatioSums_few {w : World} {A : Option Addr} {c : Nat} {L : List ((Bool × List Nat) × Bool × List Nat)} (hR : RawQs w A L) (h6 : L.length ≤ 6) (hl : ∀ q ∈ L,q.1.2.length ≤ 8 ∧ q.2.2.length ≤ 8) (HT : Hid (Tab w ∧ 2 ≤ w.heap.size)) (hm : MaxL w) :
   Calls Tryz.prog 4 #[.slice A L.length c] w fun e w'=>e = .returned (.bool true) ∧ Below w.heap.size w w':=by
 have HA:=Lib.hid (awake3_any HT hm)
 have hfw:=fun (W : World) (hW : Below w.heap.size w W)=>few_raw (c0:=c) (hR.below hW).lens (by rw [di]; omega) fun q hq=>by
   unfold lensOf at hq; obtain ⟨p,hp,rfl⟩:=List.mem_map.1 hq; have:=hl p hp; omega
 have hfp : (fewP (lensOf L) && decide ((lensOf L).length ≤ 6)) = true:=by
   rw [di,decide_eq_true h6,Bool.and_true]; unfold fewP lensOf; rw [List.all_map]; exact List.all_eq_true.2 fun q hq=>by have:=hl q hq; simp [this.1,this.2]
 rw [hfp,di] at hfw
 have hln:=fun (W : World) (hW : Below w.heap.size w W)=>lentRatios_any (c:=c) (hR.below hW) h6 hl
 obtain ⟨x,y,hp,hr⟩:=sumsQ_told hR h6 hl
 obtain ⟨n,hn⟩ : ∃ n,n = L.length:=⟨_,rfl⟩
 rw [← hn] at hfw hln hp hr ⊢
 have HF:=Lib.hid hfw
 have HLN:=Lib.hid hln
 have HP:=Lib.hid (show _ ∧ _ from ⟨hp,hr⟩)
 have HR:=Lib.hid (show _ ∧ _ ∧ _ ∧ _ from ⟨hR,hl,hn,h6⟩)
 clear hfw hfp hln hp hr hn hR h6 hl hm HT
 go_enter Tryz.func4,Tryz.ntmps4
 go_wp2_with fail
 refine HA.out.mono ?_
 rintro e w0 ⟨rfl,b0⟩
 go_wp2_with fail
 refine (HF.out _ b0).mono ?_
 rintro e w' ⟨rfl,rfl⟩
 go_wp2_with fail
 refine (HLN.out _ b0).mono ?_
 rintro e w1 ⟨g,cap,E,rfl,ho,ha,hm,hb⟩
 obtain ⟨hR,hl,hn,h6⟩:=HR.out
 have b1 : Below w.heap.size w w1:=b0.trans (hb.mono b0.size)
 have hgs : g < w1.heap.size:=by
   rcases ho.2 with ⟨_,e⟩ | ⟨g',cap',cur,e,_,hq,_⟩
   · omega
   · injection e with e _ _; injection e with e; injection e with e; subst e; exact lt_block hq
 have HADD:=Lib.hid fun (W : World) (hW : Below w1.heap.size w1 W)=>(HP.out.1 W _ g _ cap cap c E (ha.below hW) (ho.below hW) (Nat.lt_of_lt_of_le hgs hW.size)).1
 have HMUL:=Lib.hid fun (W : World) (hW : Below w1.heap.size w1 W)=>(HP.out.1 W _ g _ cap cap c E (ha.below hW) (ho.below hW) (Nat.lt_of_lt_of_le hgs hW.size)).2
 have HRA:=Lib.hid fun (W : World) (hW : Below w1.heap.size w1 W)=>(HP.out.2 W c (b1.trans (hW.mono b1.size))).1
 have HRM:=Lib.hid fun (W : World) (hW : Below w1.heap.size w1 W)=>(HP.out.2 W c (b1.trans (hW.mono b1.size))).2
 have HKE:=Lib.hid fun (W : World) (hW : Below w1.heap.size w1 W)=>keptRatios_any (c:=c) (ho.below hW) (ha.below hW) (hm.below hW) (hR.below (b1.trans (hW.mono b1.size))) hn (by omega) hl
 have HB:=Lib.hid b1
 clear hR hl hn h6 b1 hgs ho ha hm hb b0
 go_wp2_with fail
 refine (HADD.out _ (Below.refl _ _)).mono ?_
 rintro e w2 ⟨va,rfl,hpa,hb2⟩
 obtain ⟨A1,l1,c1,A2,l2,c2,rfl,ra⟩:=hpa
 obtain ⟨s1,hs1⟩ : ∃ s,s = decide (x.num < 0):=⟨_,rfl⟩
 obtain ⟨s2,hs2⟩ : ∃ s,s = decide ((x.den : Int) < 0):=⟨_,rfl⟩
 rw [← hs1,← hs2]
 have H2:=Lib.hid (show _ ∧ _ ∧ _ ∧ _ from ⟨hs1,hs2,ra,hb2⟩)
 clear hs1 hs2 ra hb2
 go_wp2_with fail
 refine (HMUL.out _ H2.out.2.2.2).mono ?_
 rintro e w3 ⟨vb,rfl,hpb,hb3⟩
 obtain ⟨B1,m1,d1,B2,m2,d2,rfl,rb⟩:=hpb
 obtain ⟨t1,ht1⟩ : ∃ s,s = decide (y.num < 0):=⟨_,rfl⟩
 obtain ⟨t2,ht2⟩ : ∃ s,s = decide ((y.den : Int) < 0):=⟨_,rfl⟩
 rw [← ht1,← ht2]
 have H3:=Lib.hid (show _ ∧ _ ∧ _ ∧ _ from ⟨ht1,ht2,rb,hb3⟩)
 clear ht1 ht2 rb hb3
 go_upto_region 7 with fail
 rename_i hK2 _ hK
 have HK:=Lib.hid hK
 have HK2:=Lib.hid hK2
 clear hK hK2
 obtain ⟨W4,hW⟩ : ∃ W,W = (w3.alloc (Obj.cells #[Value.bool s1,Value.slice A1 l1 c1,Value.bool s2,Value.slice A2 l2 c2] 26)).alloc (Obj.cells #[Value.bool t1,Value.slice B1 m1 d1,Value.bool t2,Value.slice B2 m2 d2] 26):=⟨_,rfl⟩
 have bb : Below w3.heap.size w3 W4:=by rw [hW]; exact bal (bal (Below.refl _ _) _) _
 have K0 : W4.heap[w3.heap.size]? = some (Obj.cells #[Value.bool s1,Value.slice A1 l1 c1,Value.bool s2,Value.slice A2 l2 c2] 26):=by rw [hW]; rw [Below.heap_alloc _ _ _ (by simp <;> omega)]; exact new_at (by simp)
 have K1 : W4.heap[w3.heap.size + 1]? = some (Obj.cells #[Value.bool t1,Value.slice B1 m1 d1,Value.bool t2,Value.slice B2 m2 d2] 26):=by rw [hW]; exact new_at (by simp)
 rw [← hW]
 obtain ⟨q1,q2,ra,hb2⟩:=H2.out
 obtain ⟨q3,q4,rb,hb3⟩:=H3.out
 have b24 : Below w2.heap.size w2 W4:=hb3.trans (bb.mono hb3.size)
 have b14 : Below w1.heap.size w1 W4:=hb2.trans (b24.mono hb2.size)
 have PA : PrO W4 w1.heap.size (.agg #[Value.bool s1,Value.slice A1 l1 c1,Value.bool s2,Value.slice A2 l2 c2]) 79 x.num (x.den : Int):=by rw [q1,q2]; exact PrO.below ⟨A1,l1,c1,A2,l2,c2,rfl,ra⟩ b24
 have PB : PrO W4 w1.heap.size (.agg #[Value.bool t1,Value.slice B1 m1 d1,Value.bool t2,Value.slice B2 m2 d2]) 79 y.num (y.den : Int):=by rw [q3,q4]; exact (PrO.below ⟨B1,m1,d1,B2,m2,d2,rfl,rb⟩ bb).mono hb2.size
 obtain ⟨o1,o2,o3,o4,_,_,_,_⟩:=bz K0
 obtain ⟨p1,p2,p3,p4,_,_,_,_⟩:=bz K1
 have ra':=PrO.below ⟨A1,l1,c1,A2,l2,c2,rfl,ra⟩ b24
 have rb':=PrO.below ⟨B1,m1,d1,B2,m2,d2,rfl,rb⟩ bb
 have f1 : AtR W4 w3.heap.size 0 79 x.num:=⟨A1,l1,c1,by rw [← q1]; exact o1,o2,A1,l1,c1,rfl,ra.1.1.1.below b24,ra.1.2⟩
 have f1' : AtR W4 w3.heap.size 2 79 (x.den : Int):=⟨A2,l2,c2,by rw [← q2]; exact o3,o4,A2,l2,c2,rfl,ra.2.1.1.below b24,ra.2.2⟩
 have f2 : AtR W4 (w3.heap.size + 1) 0 79 y.num:=⟨B1,m1,d1,by rw [← q3]; exact p1,p2,B1,m1,d1,rfl,rb.1.1.1.below bb,rb.1.2⟩
 have f2' : AtR W4 (w3.heap.size + 1) 2 79 (y.den : Int):=⟨B2,m2,d2,by rw [← q4]; exact p3,p4,B2,m2,d2,rfl,rb.2.1.1.below bb,rb.2.2⟩
 have BW4:=Lib.hid b14
 have HQ:=Lib.hid (show _ ∧ _ ∧ _ ∧ _ from ⟨PA,PB,K0,K1⟩)
 clear hW bb K0 K1 q1 q2 q3 q4 ra rb hb2 hb3 b24 b14 PA PB o1 o2 o3 o4 p1 p2 p3 p4 ra' rb' H2 H3
 refine jp (G:=fun a=>Code.wp _ _ _ a _) ?_
 intro a0 ha
 have hN : a0.tmps.size = 36:=by subst ha; kernel_rfl
 have e0 : a0.eval (.tmp 0) = .slice A n c:=ln ha
 have e4 : a0.eval (.tmp 4) = .pointer (some ⟨w3.heap.size,0,none⟩):=ln ha
 have e5 : a0.eval (.tmp 5) = .pointer (some ⟨w3.heap.size + 1,0,none⟩):=ln ha
 refine ff hN w1.heap.size
   [kP 79 x.num (x.den : Int),kIs (.slice A n c),kP 49 x.num (x.den : Int),kIs (.bool true),kIs (.bool false),kIs (.bool false),kP 79 y.num (y.den : Int),kIs (.slice A n c),kP 49 y.num (y.den : Int),kIs (.bool true),kIs (.bool false),kIs (.bool false)]
   [ [],[],[(1,some 18)],[(0,some 17),(2,some 19)],[(3,some 20)],[(4,some 21)],[],[],[(7,some 24)],[(6,some 23),(8,some 25)],[(9,some 26)],[(5,some 22),(10,some 27)] ]
   [(0,some 17),(1,some 18),(2,some 19),(3,some 20),(4,some 21),(5,some 22),(6,some 23),(7,some 24),(8,some 25),(9,some 26),(10,some 27),(11,some 28)] [(5,false)] [] (by kernel_rfl) (by kernel_rfl) (by kernel_rfl) (by kernel_rfl) (by kernel_rfl) (by kernel_rfl) (by kernel_rfl) BW4.out.size ?_ ?_
 ·
   refine aa rfl rfl (cf f1 f1' e4 rfl) ?_; refine p01 e0 ?_; refine aa rfl rfl (ae rfl rfl fun hC h1=>told_pc HRA (BW4.out.trans hC.below) h1) ?_; refine aa rfl rfl (ap rfl rfl rfl fun hC h1 h2=>ti (lawSame_79 h1 (Pr.mono h2 (by decide)))) ?_; refine p10 ?_; refine p10 ?_; refine aa rfl rfl (cf f2 f2' e5 rfl) ?_; refine p01 e0 ?_; refine aa rfl rfl (ae rfl rfl fun hC h1=>told_pc HRM (BW4.out.trans hC.below) h1) ?_; refine aa rfl rfl (ap rfl rfl rfl fun hC h1 h2=>ti (lawSame_79 h1 (Pr.mono h2 (by decide)))) ?_; refine p10 ?_; refine p20 ?_; exact ag rfl
 intro W7 z hC hall
 have hf : putE z a0 [(0,some 17),(1,some 18),(2,some 19),(3,some 20),(4,some 21),(5,some 22),(6,some 23),(7,some 24),(8,some 25),(9,some 26),(10,some 27),(11,some 28)] = { tmps:=#[Value.slice A n c,undef,Value.bool false,Value.slice (some { block:=g,off:=0 }) n cap,Value.pointer (some { block:=w3.heap.size,off:=0 }),Value.pointer (some { block:=w3.heap.size + 1,off:=0 }),Value.bool true,Value.bool false,Value.slice A n c,Value.bool true,Value.bool false,Value.slice A n c,Value.slice (some { block:=g,off:=0 }) n cap,Value.slice (some { block:=g,off:=0 }) n cap,Value.agg #[Value.bool s1,Value.slice A1 l1 c1,Value.bool s2,Value.slice A2 l2 c2],Value.slice (some { block:=g,off:=0 }) n cap,Value.agg #[Value.bool t1,Value.slice B1 m1 d1,Value.bool t2,Value.slice B2 m2 d2],z 0,z 1,z 2,z 3,z 4,z 5,z 6,z 7,z 8,z 9,z 10,z 11,undef,undef,undef,undef,undef,undef,undef],defers:=[] }:=by subst ha; kernel_rfl
 rw [hf]
 have e28 : z 11 = .bool false:=hall 11 (of_decide_eq_true (by kernel_rfl))
 obtain ⟨PA,PB,K0,K1⟩:=HQ.out
 have hl0:=lt_block K0
 have hl1:=lt_block K1
 have b47 : Below W4.heap.size W4 W7:=⟨hC.below.os,hC.below.tape,hC.below.output,hC.below.size,fun k hk=>hC.old k hk (by simp)⟩
 have K0':=(hC.old _ hl0 (by simp)).trans K0
 have K1':=(hC.old _ hl1 (by simp)).trans K1
 have b17:=BW4.out.trans (b47.mono BW4.out.size)
 have H1:=Lib.hid (overRatio_own (B:=w1.heap.size) ((PA.below b47).oq) b17.size)
 have HR7:=Lib.hid (show _ ∧ _ ∧ _ from ⟨(PB.below b47).oq,b17,K1'⟩)
 obtain ⟨o1,o2,o3,o4,_,_,_,_⟩:=bz K0'
 clear hall hC hf ha hN e0 e4 e5 PA PB K0 K1 hl0 hl1 b47 b17 K0' K1' f1 f1' f2 f2' HQ BW4
 refine then_n ?_
 refine HK.out _ _ ?_
 rw [e28]
 refine wp_cond_false rfl ?_
 refine wp_skip ?_
 refine then_n ?_
 refine HK2.out _ _ ?_
 clear HK HK2
 go_wp2_with fail
 refine H1.out.mono ?_
 rintro e w8 ⟨⟨u8,rfl⟩,hb8,hk8,ht8⟩
 obtain ⟨hq,b17,K1'⟩:=HR7.out
 have K1'':=ht8 _ _ _ K1' (by decide)
 obtain ⟨p1,p2,p3,p4,_,_,_,_⟩:=bz K1''
 have b18:=b17.trans hb8
 have H2:=Lib.hid (overRatio_own (B:=w1.heap.size) (hq.keeps hk8) b18.size)
 have HB8:=Lib.hid b18
 clear hb8 hk8 ht8 hq b17 K1' K1'' o1 o2 o3 o4 b18 H1 HR7
 go_wp2_with fail
 refine H2.out.mono ?_
 rintro e w9 ⟨⟨u9,rfl⟩,hb9,_,_⟩
 have HB9:=Lib.hid (HB8.out.trans hb9)
 clear hb9 p1 p2 p3 p4 H2 HB8
 go_wp2_with fail
 refine (HKE.out _ HB9.out).mono ?_
 rintro e w10 ⟨rfl,hb10⟩
 have HF10:=Lib.hid (HB.out.trans ((HB9.out.trans (hb10.mono HB9.out.size)).mono HB.out.size))
 clear hb10
 go_wp2
 go_ret
 exact ⟨rfl,HF10.out⟩
theorem lawRatioSums_great {w : World} {A : Option Addr} {c : Nat} {L : List ((Bool × List Nat) × Bool × List Nat)} (hR : RawQs w A L) (h63 : L.length < 9223372036854775808) (hb : ∀ q ∈ L,q.1.2.length < 9223372036854775808 ∧ q.2.2.length < 9223372036854775808) (hno : ¬ (L.length ≤ 6 ∧ ∀ q ∈ L,q.1.2.length ≤ 8 ∧ q.2.2.length ≤ 8)) (HT : Hid (Tab w ∧ 2 ≤ w.heap.size)) (hm : MaxL w) :
   Calls Tryz.prog 4 #[.slice A L.length c] w fun e w'=>e = .returned (.bool true) ∧ Below w.heap.size w w':=by
 have HA:=Lib.hid (awake3_any HT hm)
 have hfw:=fun (W : World) (hW : Below w.heap.size w W)=>few_raw (c0:=c) (hR.below hW).lens (by rw [di]; omega) fun q hq=>by
   unfold lensOf at hq; obtain ⟨p,hp,rfl⟩:=List.mem_map.1 hq; exact hb p hp
 have hfp : (fewP (lensOf L) && decide ((lensOf L).length ≤ 6)) = false:=by
   rw [di]
   cases h : fewP (lensOf L) with
   | false=>rfl
   | true =>
     rw [Bool.true_and]; refine decide_eq_false fun h6=>hno ⟨h6,fun q hq=>?_⟩; unfold fewP lensOf at h; rw [List.all_map] at h; have:=List.all_eq_true.1 h q hq
     simpa using this
 rw [hfp,di] at hfw
 have HF:=Lib.hid hfw
 obtain ⟨n,hn⟩ : ∃ n,n = L.length:=⟨_,rfl⟩
 rw [← hn] at HF ⊢
 clear hfw hfp hR h63 hb hno hm HT hn
 go_enter Tryz.func4,Tryz.ntmps4
 go_wp2_with fail
 refine HA.out.mono ?_
 rintro e w0 ⟨rfl,b0⟩
 have HB:=Lib.hid b0
 clear b0
 go_wp2_with fail
 refine (HF.out _ HB.out).mono ?_
 rintro e w' ⟨rfl,rfl⟩
 go_wp2
 go_ret
 exact ⟨rfl,HB.out⟩
end Go.Proofs.YtifgcjpgelbelaaGreatDoor
set_option linter.unusedVariables false
set_option linter.unusedSimpArgs false
namespace Go.Proofs.YtifgcjpgelbelaaGreatDoor
open Go.ChangeShapes Go.WideShapes Go.ChangeAt Go.WideMaps Go.WideElems Go.RowKit
open Go.ChangeMaps (setBlock shut_map_nil open_string shut_string keptBut_setBlock frozen?_setBlock heap_setBlock_same)
theorem open_apiRatios2 {H : Type} {enc : TypeId × Value → H} {W : World} {base : Nat} {v : Value} {d : DataW H} {ps : List MemPlace} (hv : Value.okWide Tryz.prog W .any base 42 v) (h : DataW.Trod enc Tryz.prog W 0 (fun _=>true) true 42 v d ps) :
   ∃ (A : Option Addr) (c : Nat) (L : List ((Bool × List Nat) × Bool × List Nat)),v = .slice A L.length c ∧ RawQs W A L ∧ L.length < 9223372036854775808 ∧ ∀ q ∈ L,q.1.2.length < 9223372036854775808 ∧ q.2.2.length < 9223372036854775808:=by
 obtain ⟨a0,len0,cap0,rfl⟩:=okWide_slice Tryz.underlying42 hv
 obtain ⟨fuel,hf⟩:=h
 rcases Go.Deep.open_slice Tryz.underlying42 hf with ⟨hcs,_⟩ | ⟨a,len,cap,m,n,D,Pl,hcs,_,hl,hm,hmm,_,hx⟩
 · simp [Value.cells] at hcs; obtain ⟨rfl,rfl,rfl⟩:=hcs; exact ⟨none,0,[],rfl,fun j q h=>by simp at h,(show 0 < 9223372036854775808 by omega),fun q h=>by simp at h⟩
 · simp [Value.cells] at hcs; obtain ⟨rfl,rfl,rfl⟩:=hcs; have k : Tryz.prog.cellsOf 26 = 4:=by kernel_rfl
   have k2 : Tryz.prog.cellsOf 24 = 2:=by kernel_rfl
   have hmx : maxLen < 9223372036854775808:=by unfold maxLen; omega
   simp only [if_true] at hmm
   obtain ⟨L,hL,hp⟩:=list_of (p:=fun i (q : (Bool × List Nat) × Bool × List Nat)=>AtN W (a.add (i * 4)) q.1 ∧ AtN W ((a.add (i * 4)).add 2) q.2 ∧ q.1.2.length < 9223372036854775808 ∧ q.2.2.length < 9223372036854775808) len0 fun i hi=>by
     obtain ⟨cs',h1,h2⟩:=hx i (by omega); rw [k] at h1; obtain ⟨_,hlen,hc⟩:=World.cells?_some h1
     match cs',hlen,h2,hc with
     | [c0,c1,c2,c3],_,h2,hc =>
       have g0:=hc 0 (by decide); have g1:=hc 1 (by decide); have g2:=hc 2 (by decide); have g3:=hc 3 (by decide); rw [add_none] at g0; rw [show 3 = 2 + 1 from rfl,← Addr.add_add] at g3; obtain ⟨y0,y1,n',_,_,h0,h1⟩:=trod_struct2 Tryz.underlying26 h2; have h0' : DataW.trod enc Tryz.prog W 0 (fun _=>true) true n' 24 [c0,c1] = some y0:=by simpa [k2] using h0
       have h1' : DataW.trod enc Tryz.prog W 0 (fun _=>true) true n' 24 [c2,c3] = some y1:=by simpa [k2] using h1
       obtain ⟨b1,A1,c1,xs,rfl,rfl,r1,s1,x1,_⟩:=int_inner2 h0'; obtain ⟨b2,A2,c2,ys,rfl,rfl,r2,s2,x2,_⟩:=int_inner2 h1'; exact ⟨((b1,xs),b2,ys),⟨A1,c1,g0,g1,r1,s1⟩,⟨A2,c2,g2,g3,r2,s2⟩,x1,x2⟩
   subst hL
   exact ⟨some a,cap0,L,rfl,fun j q hj=>⟨a,rfl,(hp j q hj).1,(hp j q hj).2.1⟩,by omega,fun q hq=>by
     obtain ⟨j,hj⟩:=List.getElem?_of_mem hq
     exact (hp j q hj).2.2⟩
theorem apiRatios_ok : Tryz.prog.readableRec 42 = true ∧ 42 < Tryz.prog.types.size:=⟨by kernel_rfl,of_decide_eq_true (by kernel_rfl)⟩
theorem ratioSums_lifted (os : Os) (started : os.Started) (H : Type) (enc : TypeId × Value → H) :
   ReturnsInHanded {} Tryz.checked os 4 .any (fun w args => (Rows.ratioSumsSpec.pre enc Tryz.prog Tryz.f4 [] false w args ∧ laidMetH Tryz.prog laid3 w) ∧ sizedMet enc Tryz.prog Tryz.f4 (OpenSpec.ofChange Rows.ratioSumsSpec) false w args)
     (Rows.ratioSumsSpec.post enc Tryz.prog Tryz.f4 false true false false):=by
 refine handed_and_shape (X := fun w => laidMetH Tryz.prog laid3 w) (fun _ _ hh h => h.of_heap hh) started (by kernel_rfl) Tryz.func4
   (ChangeSpec.witness_shaped (enc:=enc) (C:=Tryz.checked) (os:=os) (X:=fun w _=>laidMetH Tryz.prog laid3 w) false (World.doorLaid Tryz.prog 400 os) #[.slice none 0 0] 8 rfl (World.shaped_of_RefB (by kernel_rfl) (by kernel_rfl)) (by kernel_rfl) (by kernel_rfl) (by kernel_rfl) (door_met os _)) ?_
 intro W base args ds gs before hval0 hW hsh hL _
 have hval : ∀ (j : Nat) t v,Tryz.f4.params[j]? = some t → args[j]? = some v → Value.okWide Tryz.prog W .any base t v:=hval0
 have hW':=hW
 obtain ⟨p,q,hA0,hV,rfl,hfz,hnd⟩:=hW
 have hA : DataW.TrodAll enc Tryz.prog W 0 (fun _=>true) true Tryz.f4.params.toList args.toList ds p:=hA0
 have hlt:=hA.lt
 rw [ Tryz.params4 ] at hA hval
 obtain ⟨v0,d0,rfl,rfl,h0⟩:=trodAll_one hA
 obtain ⟨rfl,rfl⟩:=trodVars_none hV
 have hAk:=hA
 obtain ⟨A,c,L,rfl,hR,h63,hb63⟩:=open_apiRatios2 (hval 0 42 v0 rfl rfl) h0
 obtain ⟨ht,hw3⟩:=tab_of_laid hL
 have hm:=maxL_of hsh
 clear hA0 hval0 hsh
 simp only [List.append_nil] at hW'
 have e1 : Rows.ratioSumsSpec.fn H ([d0] ++ []) = { results:=[.lit (.bool true)],args:=[d0] }:=by simp [Rows.ratioSumsSpec]
 have hlaw : Calls Tryz.prog 4 #[.slice A L.length c] W fun e w'=>e = .returned (.bool true) ∧ Below W.heap.size W w':=by
   by_cases hb : L.length ≤ 6 ∧ ∀ q ∈ L,q.1.2.length ≤ 8 ∧ q.2.2.length ≤ 8
   · exact lawRatioSums_few hR hb.1 hb.2 (Lib.hid ⟨ht,hw3⟩) hm
   · exact lawRatioSums_great hR h63 hb63 hb (Lib.hid ⟨ht,hw3⟩) hm
 refine hlaw.mono fun e W' ⟨he,hb⟩=>?_
 subst he
 refine ⟨_,rfl,_,_,_,[],p,[],hW',?_,?_,?_,hb.frame _,fun h=>by cases h⟩
 · rw [e1]; exact trodAll_mk1 (shut_bool Tryz.underlying4 true)
 · rw [e1]; exact below_trodAll hb (fun t ht=>by
     have : t = 42:=by simpa using ht
     rw [this]; exact apiRatios_ok) hAk hlt
 · rw [e1]; rfl
theorem ratioSums_said : Rows.RatioSumsSaid :=
 OpenClaim.holds_of_wide 4 Tryz.f4 rfl rfl rfl rfl rfl rfl rfl ⟨rfl, rfl, rfl, rfl, rfl⟩ rfl rfl rfl rfl rfl (by kernel_rfl) Tryz.func4 (by kernel_rfl)
   (of_decide_eq_true (by kernel_rfl)) (by unfold Func.isWrapper; first | (rw [if_pos (by decide +kernel)]; kernel_rfl) | (rw [if_neg (by decide +kernel)]; exact ⟨rfl,rfl⟩))
   (fun os started H enc _=>ratioSums_lifted os started H enc)
theorem ratioSums_card : Rows.RatioSumsCardSaid :=
 Claim7.holds_tied_plain_at .later [] [.data, .data, .data] true (true, Rows.ratioSumsCard.stood.harness.2) false
   ratioSums_said (fun _ h=>by cases h) (by kernel_rfl) (fun _ h=>by cases h) ratioSums_row_tie rfl ⟨rfl,rfl⟩ (by kernel_rfl) rfl
   (fun f fn hf hfn=>by
     obtain rfl : f = 4:=Option.some.inj ((show Tryz.prog.funcNamed "whetstone/whetstonelaw03.RatioSums" = some 4 by kernel_rfl).symm.trans hf) |>.symm; obtain rfl : fn = Tryz.f4:=(Option.some.inj (Tryz.func4.symm.trans hfn)).symm
     exact ⟨by kernel_rfl,fun j t ht=>by
       rw [ Tryz.params4 ] at ht; have hm : t ∈ [ 42 ]:=by simpa using Array.mem_of_getElem? ht
       have hall : ([ 42 ].all fun u=>!Tryz.prog.wantsStandIn u) = true:=by kernel_rfl
       exact (show Tryz.prog.wantsStandIn t = false by simpa using List.all_eq_true.1 hall t hm)⟩)
   (by kernel_rfl)
theorem ratioSums_proved : Rows.RatioSumsCardSaid:=ratioSums_card
end Go.Proofs.YtifgcjpgelbelaaGreatDoor

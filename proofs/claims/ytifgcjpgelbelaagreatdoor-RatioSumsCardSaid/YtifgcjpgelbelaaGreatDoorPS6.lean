/- Contracts of the answers of stage 2 (whetstoneref02) over right numbers and lists of numbers: Contracts of the answers of stage 2 over right numbers: Loops by any counter, in frames that are known by their slots: A region that stores into one old block: Contracts of the answers of stage 2 over any list of right numbers: The answers of stage 2: Ratios and numbers that came in, of at most 8 digits a number, whatever they are: The answers of stage 3: The answers of stage 3 over ratios that came in: Ratios that came in whose numbers are not right: A ratio that came in, whatever it is, of at most 8 digits a number: Contracts of whetstonekit.mark, LentLimbs, KeptLimbs, OverLimbs: Ratios lent: Numbers and ratios lent, whose digits' rows are told to be of the call's own (XLentQ, XLentR tell only that they lie there): Contracts of whetstonekit.markInt and markRatio: A ratio that came in, opened; the wrap of a law's row with the world's shape kept beside the laid tables; the library's cell that its search asks. Lists of numbers and of ratios that came in, opened: Lists of numbers that came in, opened, with what their data tell of their rows' lengths. LentNums over any list of numbers that came in: Contract of whetstonelaw03.few over any list of ratios that came in, at any address: LentRatios over any list of ratios that came in: Awake of layer 3. Of any two ratios that came in, of at most 8 digits a number: SameRatio and KeptRatio over ratios that came in, of at most 8 digits a number, and the lent copies: SameRatio and the law's own of that name, over right ratios below the 79th power of the base.. What RatioEnds asks: Steps over lists of ratios at any address: -/
import Derived.Test.YtifgcjpgelbelaaGreatDoorPS5
import Derived.Test.YtifgcjpgelbelaaGreatDoorPS4
import Derived.Test.YtifgcjpgelbelaaGreatDoorPS1
import Derived.Test.YtifgcjpgelbelaaGreatDoorPS2
import Derived.Test.YtifgcjpgelbelaaGreatDoorPS3
import Derived.Lib.MinMax
import Derived.Deep.QuietTactic
import Derived.BigQuiet
import Derived.Test.YtifgcjpgelbelaaGreatDoorTie
import Derived.Test.YtifgcjpgelbelaaGreatDoorCards
import Derived.SevenTiedAt
import Derived.Shelf.Vars
import Derived.Deep.Slices
import Derived.Deep.Cut
set_option maxRecDepth 100000
set_option maxHeartbeats 16000000
set_option linter.unusedVariables false
set_option linter.unusedSimpArgs false
namespace Go.Proofs.YtifgcjpgelbelaaGreatDoor
open Go.RowKit
theorem r2_mk {w : World} {v : Value} {n k : Nat} (b : Bool) (h : Rr w v n) (hn : n < 1000000000 ^ k) (hk : k ≤ 1100) : Calls Tryz.prog 105 #[.bool b,v] w (TellsZ w k (zOf n b)):=by
 obtain ⟨A,l,c,rfl⟩:=h.shape
 obtain ⟨xs,rfl,hr,hx,hv,hl⟩:=fw h hn
 refine (ref2of_any (c:=c) (N:=k) b hr (fun d hd=>Nat.lt_trans (hx.1 d hd) (by decide)) (by omega) (by rw [hv]; exact hn) (by omega)).mono fun e w' he=>ep (by rw [bg]; exact hn) ?_
 rw [bg,dj,← hv]
 exact he
theorem zOf_not (z : Int) : zOf z.natAbs (!decide (z < 0)) = -z:=by
 unfold zOf
 by_cases h : z < 0
 · rw [decide_eq_true h]; simp; omega
 · rw [decide_eq_false h]; simp; omega
theorem r2_neg {w : World} {v : Value} {k : Nat} {z : Int} (h : Zr w v k z) (hk : k ≤ 1100) : Calls Tryz.prog 74 #[v] w (TellsZ w k (-z)):=by
 have hnm:=fun (W : World) (hW : Below w.heap.size w W)=>r2_norm ((h.below hW).zc hk) (by omega)
 have HZ:=Lib.hid h.lt
 obtain ⟨A,l,c,rfl,_,_⟩:=h
 obtain ⟨s,hs⟩ : ∃ s,s = decide (z < 0):=⟨_,rfl⟩
 rw [← hs] at hnm ⊢
 have HNM:=Lib.hid hnm
 have HS:=Lib.hid hs
 clear hnm hs
 have hfin : ∀ (e : Ending) (w' : World),TellsZ w k (zOf z.natAbs (!s)) e w' → TellsZ w k (-z) e w':=fun e w' h=>by rw [HS.out,zOf_not] at h; exact h
 refine Calls.mono ?_ hfin
 obtain ⟨y,hy⟩ : ∃ y,y = zOf z.natAbs (!s):=⟨_,rfl⟩
 rw [← hy]
 have HY:=Lib.hid hy
 clear hfin hy
 go_enter Tryz.func74,Tryz.ntmps74
 go_wp2_with fail
 refine (HNM.out _ (bal (bal (Below.refl _ _) _) _)).mono ?_
 rintro e w1 ⟨_,rfl,⟨A1,k1,c1,rfl,h1,_⟩,hb⟩
 rw [← HS.out]
 have K1:=(hb.block (w.heap.size + 1) (by simp)).trans (new_at (by simp))
 have hb1:=bstep (bal (bal (Below.refl w.heap.size w) _) _) hb
 have hmk:=fun (W : World) (hW : Below w1.heap.size w1 W)=>r2_mk (!s) (h1.below hW) HZ.out hk
 rw [← HY.out] at hmk
 have HMK:=Lib.hid hmk
 have HK:=Lib.hid K1
 have hsz:=lt_block K1
 clear hmk hb h1 K1
 go_wp2_with fail
 refine (HMK.out _ (bal (Below.refl _ _) _)).mono ?_
 rintro e w2 ⟨_,rfl,⟨A2,k2,c2,rfl,h2,hy2⟩,hb2⟩
 have hb20:=bstep (bal (Below.refl _ _) _) hb2
 have K2:=(hb20.block (w.heap.size + 1) hsz).trans HK.out
 obtain ⟨m1,m2,m3,m4⟩:=cell_of_two K2
 have hb3:=bstep hb1 hb20
 have hts:=bk (a':=.bool (decide (y < 0))) (b':=.slice A2 k2 c2) K2 (fun d h=>by cases h) (fun d h=>by cases h) h2
 have HTS:=Lib.hid hts
 clear hts hb2 hb20 h2 K2 HMK
 go_wp2
 obtain ⟨n1,n2,n3⟩:=HTS.out
 refine bodyPost_ret (v:=.agg #[.bool (decide (y < 0)),.slice A2 k2 c2]) (by simp [results,Tryz.results74,go_sem,n1,n2]) rfl ?_
 exact ⟨_,rfl,⟨A2,k2,c2,rfl,n3,hy2⟩,(hb3.setCell (by simp) _).setCell (by simp) _⟩
theorem right_small {xs : List Nat} (h : right xs) : small 4294967296 xs:=fun d hd=>Nat.lt_trans (h.1 d hd) (by decide)
theorem vr_sub {w : World} {A1 A2 : Option Addr} {k1 c1 k2 c2 n1 n2 N : Nat} (h1 : Rr w (.slice A1 k1 c1) n1) (h2 : Rr w (.slice A2 k2 c2) n2) (hn1 : n1 < 1000000000 ^ N) (hn2 : n2 < 1000000000 ^ N) (hN : N ≤ 1100) :
   Calls Tryz.prog 133 #[.slice A1 k1 c1,.slice A2 k2 c2] w (RetSB w (n1 - n2) (decide (n2 ≤ n1))):=by
 obtain ⟨xs,rfl,r1,x1,rfl,l1⟩:=fw h1 hn1
 obtain ⟨ys,rfl,r2,x2,rfl,l2⟩:=fw h2 hn2
 exact all_refSub r1 r2 (right_small x1) (right_small x2) (by omega) (by omega) hn1 (by omega)
def kRR (n1 n2 : Nat) : PK:=.list 2 (fun g w=>∃ v1 v2,w.heap[g]? = some (.cells #[v1,v2] 22 (0,0)) ∧ Rr w v1 n1 ∧ Rr w v2 n2) (fun _ _ _ ⟨v1,v2,h1,h2,h3⟩ hb=>⟨v1,v2,(hb.block _ (lt_block h1)).trans h1,h2.below hb,h3.below hb⟩) (fun _ _ _ _ ⟨v1,v2,h1,h2,h3⟩ hs hne=>⟨v1,v2,(hs.other _ hne).trans h1,hs.rr h2,hs.rr h3⟩)
def kRB (z : Int) (ok : Bool) : PK:=.p (fun v w=>∃ a,v = .tuple #[a,.bool ok] ∧ Rr w a z.natAbs) (fun _ _ _ ⟨a,h1,h2⟩ hb=>⟨a,h1,h2.below hb⟩) (fun _ _ _ _ ⟨a,h1,h2⟩ hs=>⟨a,h1,hs.rr h2⟩)
theorem jy {S0 : Nat} {z : Int} {ok : Bool} : ∀ w x v,(kRB z ok).sem S0 x v w → ∃ vs u,v = .tuple vs ∧ vs[0]? = some u ∧ (kRow z).move S0 x u w w ∧ (kRow z).sem S0 x u w:=fun _ _ _ ⟨a,h1,h2⟩=>⟨_,a,h1,rfl,Below.refl _ _,h2⟩
theorem jz {S0 : Nat} {z : Int} {ok : Bool} : ∀ w x v,(kRB z ok).sem S0 x v w → ∃ vs u,v = .tuple vs ∧ vs[1]? = some u ∧ (kIs (.bool ok)).move S0 x u w w ∧ (kIs (.bool ok)).sem S0 x u w:=fun _ _ _ ⟨_,h1,_⟩=>⟨_,_,h1,rfl,Below.refl _ _,rfl⟩
theorem run_new2 {w : World} {A A' : Option Addr} {l c l' c' : Nat} : (Instr.buildSlice 100 2 #[(0,.slice A l c),(1,.slice A' l' c')]).run Tryz.prog w = .ok (.slice (some ⟨w.heap.size,0,none⟩) 2 2) (w.alloc (.cells #[.slice A l c,.slice A' l' c'] 22)):=by go_simp
section
variable {G : List Nat} {C : World → Prop} {S0 B : Nat} {ks : List PK} {a0 : Act} {i : Nat} {N : Nat} {W0 : World} {T : TypeId} {pos : String} {af : Array Edge} {gu : Option (Nat × Bool)}
theorem st_rows2 {d j1 t1 j2 t2 : Nat} {z1 z2 : Int}       (h1 : at_ ks j1 = kRow z1) (h2 : at_ ks j2 = kRow z2) (hi : at_ ks i = kRR z1.natAbs z2.natAbs) (hN : a0.tmps.size = N:=by assumption) (hd : decide (d < N) = true:=by kernel_rfl) (ht1 : decide (t1 < N) = true:=by kernel_rfl) (ht2 : decide (t2 < N) = true:=by kernel_rfl) (hne : decide (t1 = t2) = false:=by kernel_rfl) (hS : S0 ≤ W0.heap.size:=by exact Nat.le_refl _) :
   PkStep Tryz.prog (Reg B W0 G) S0 ks a0 i { dst:=some d,op:=.buildSlice 100 2 #[(0,.tmp t1),(1,.tmp t2)],type:=T,pos:=pos,after:=af,guard:=gu } [(j1,some t1),(j2,some t2)]:=by
 intro w x hC
 refine aw _ fun hdeps K hK=>?_
 have g1:=hdeps (j1,some t1) (by simp)
 have g2:=hdeps (j2,some t2) (by simp)
 rw [h1] at g1
 rw [h2] at g2
 have g1' : Rr w (x j1) z1.natAbs:=g1
 have g2' : Rr w (x j2) z2.natAbs:=g2
 have hne' : t1 ≠ t2:=of_decide_eq_false hne
 have e1 : (putE x a0 [(j1,some t1),(j2,some t2)]).eval (.tmp t1) = x j1:=putE_new _ _ (by rw [hN]; exact of_decide_eq_true ht1) (by simp [slotAt,Ne.symm hne'])
 have e2 : (putE x a0 [(j1,some t1),(j2,some t2)]).eval (.tmp t2) = x j2:=putE_new _ _ (by rw [hN]; exact of_decide_eq_true ht2) (by simp [slotAt])
 obtain ⟨A1,l1,c1,hx⟩:=g1'.shape
 obtain ⟨A2,l2,c2,hy⟩:=g2'.shape
 have hsz:=hC.below.size
 refine bj rfl (by rw [ax,hN]) hd (ex_slice2 (e1.trans hx) (e2.trans hy) run_new2) (hK _ _ ?_ ?_)
 · rw [hi]; exact ⟨(Below.refl _ _).alloc (Nat.le_refl _) _,_,rfl,Nat.le_refl _⟩
 · rw [hi,← hx,← hy]; have ba:=fun (o : Obj)=>(Below.refl w.heap.size w).alloc (Nat.le_refl _) o; exact ⟨_,rfl,Nat.le_trans hS hsz,lt_block (heap_alloc_new w _),_,_,heap_alloc_new w _,g1'.below (ba _),g2'.below (ba _)⟩
theorem fb {d j : Nat} {t : Tmp} {f : Value → World → Prop} {hb hs}    (hj : at_ ks j = .p f hb hs) (hi : at_ ks i = .p f hb hs) (hN : a0.tmps.size = N:=by assumption) (hd : decide (d < N) = true:=by kernel_rfl) (ht : decide (t < N) = true:=by kernel_rfl) :
   PkStep Tryz.prog C S0 ks a0 i { dst:=some d,op:=.assign (.tmp t),type:=T,pos:=pos,after:=af,guard:=gu } [(j,some t)]:=by
 intro w x hC
 refine aw _ fun hdeps K hK=>?_
 have h1:=hdeps _ (List.mem_singleton.2 rfl)
 have hev : (putE x a0 [(j,some t)]).eval (.tmp t) = x j:=putE_new _ _ (by rw [hN]; exact of_decide_eq_true ht) (by simp [slotAt])
 refine bj (v:=x j) (w':=w) rfl (by rw [ax,hN]) hd ?_ (hK _ _ ?_ ?_)
 · show (pure (Next.value ((putE x a0 [(j,some t)]).eval (.tmp t))) : Sem Next).run _ w = _
   rw [hev]; rfl
 · rw [hi]; exact Below.refl _ _
 · rw [hi]; rw [hj] at h1; exact h1
theorem eh {d : Nat} {t : Tmp} {z : Int} {v : Value} (hv : a0.eval (.tmp t) = v) (_hr : Rr W0 v z.natAbs) (hG : ∀ w,C w → Rr w v z.natAbs)   (hi : at_ ks i = kRow z) (hN : a0.tmps.size = N:=by assumption) (hd : decide (d < N) = true:=by kernel_rfl) :
   PkStep Tryz.prog C S0 ks a0 i { dst:=some d,op:=.move (.tmp t),type:=T,pos:=pos,after:=af,guard:=gu } []:=by
 intro w x hC
 refine aw _ fun _ K hK=>?_
 refine bj (v:=v) (w':=w) rfl hN hd ?_ (hK _ _ ?_ ?_)
 · show (pure (Next.value (a0.eval (.tmp t))) : Sem Next).run _ w = _
   rw [hv]; rfl
 · rw [hi]; exact Below.refl _ _
 · rw [hi]; exact hG w hC
end
theorem rows_of {w : World} {v : Value} {S0 : Nat} {x : Nat → Value} {n1 n2 M : Nat} (h : (kRR n1 n2).sem S0 x v w) (hM : M ≤ 1100) (h1 : n1 < 1000000000 ^ M) (h2 : n2 < 1000000000 ^ M) : ∃ g A1 c1 xs A2 c2 ys,v = .slice (some ⟨g,0,none⟩) 2 2 ∧ ka w (some ⟨g,0,none⟩) [(A1,c1,xs),(A2,c2,ys)] ∧ xs.length ≤ 1100 ∧ ys.length ≤ 1100 ∧ val xs = n1 ∧ val ys = n2:=by
 obtain ⟨g,hv,_,_,v1,v2,hg,hr1,hr2⟩:=h
 obtain ⟨A1,k1,c1,e1⟩:=hr1.shape
 obtain ⟨A2,k2,c2,e2⟩:=hr2.shape
 subst e1
 subst e2
 obtain ⟨xs,rfl,r1,x1,q1,l1⟩:=fw hr1 h1
 obtain ⟨ys,rfl,r2,x2,q2,l2⟩:=fw hr2 h2
 refine ⟨g,A1,c1,xs,A2,c2,ys,hv,⟨fun j u hj=>?_,fun r hr=>?_⟩,by omega,by omega,q1,q2⟩
 · have hadd : (⟨g,0,none⟩ : Addr).add j = ⟨g,j,none⟩:=by unfold Addr.add; split <;> simp_all
   refine ⟨_,rfl,?_⟩; rw [hadd,cell_of_row w g j _ _ _ hg]
   simpa [sl] using hj
 · rcases List.mem_cons.1 hr with h | h
   · rw [h]; exact ⟨r1,right_small x1,by show xs.length ≤ _; omega⟩
   · rw [List.mem_singleton.1 h]; exact ⟨r2,right_small x2,by show ys.length ≤ _; omega⟩
theorem r1_add {w : World} {v : Value} {S0 : Nat} {x : Nat → Value} {n1 n2 N : Nat} (h : (kRR n1 n2).sem S0 x v w) (hn : n1 + n2 < 1000000000 ^ N) (hN : N ≤ 1100) : Calls Tryz.prog 132 #[v] w (RetR w (n1 + n2)):=by
 obtain ⟨g,A1,c1,xs,A2,c2,ys,rfl,hR,l1,l2,q1,q2⟩:=rows_of h hN (by omega) (by omega)
 have h:=refAdd (c:=2) (N:=N) hR (fun r hr=>by
     rcases List.mem_cons.1 hr with h | h
     · rw [h]; exact l1
     · rw [List.mem_singleton.1 h]; exact l2) (fun k hk=>by
     have hk2 : k ≤ 2:=hk; have h3 : k = 0 ∨ k = 1 ∨ k = 2:=by omega
     rcases h3 with rfl | rfl | rfl <;> simp [vals,q1,q2] <;> omega) (by omega) (by simp)
 refine h.mono fun e w' ⟨v,he,hv,hb⟩=>?_
 have e1 : (vals [(A1,c1,xs),(A2,c2,ys)]).foldl (fun a b=>a + b) 0 = n1 + n2:=by simp [vals,q1,q2]
 rw [e1] at hv
 have hr:=fe hv hn (by omega)
 obtain ⟨A,k,c,rfl⟩:=hr.shape
 exact ⟨A,k,c,he,hr,hb⟩
theorem r1_mul {w : World} {v : Value} {S0 : Nat} {x : Nat → Value} {n1 n2 N M : Nat} (h : (kRR n1 n2).sem S0 x v w) (hn1 : n1 < 1000000000 ^ M) (hn2 : n2 < 1000000000 ^ M) (hn : n1 * n2 < 1000000000 ^ N) (hMN : M ≤ N) (h0 : 0 < N) (hN : N ≤ 1100) : Calls Tryz.prog 106 #[v] w (RetR w (n1 * n2)):=by
 obtain ⟨g,A1,c1,xs,A2,c2,ys,rfl,hR,l1,l2,q1,q2⟩:=rows_of h (M:=M) (by omega) hn1 hn2
 have h1p : 1 < 1000000000 ^ N:=Nat.lt_of_lt_of_le (by decide) (pow_le (j:=1) h0)
 have hn1' : n1 < 1000000000 ^ N:=Nat.lt_of_lt_of_le hn1 (pow_le hMN)
 have h:=refMul (c:=2) (N:=N) hR (fun r hr=>by
     rcases List.mem_cons.1 hr with h | h
     · rw [h]; exact l1
     · rw [List.mem_singleton.1 h]; exact l2) (fun k hk=>by
     have hk2 : k ≤ 2:=hk; have h3 : k = 0 ∨ k = 1 ∨ k = 2:=by omega
     rcases h3 with rfl | rfl | rfl
     · simpa [vals] using h1p
     · simpa [vals,q1] using hn1'
     · simpa [vals,q1,q2] using hn) (by omega) (by simp)
 refine h.mono fun e w' ⟨v,he,hv,hb⟩=>?_
 have e1 : (vals [(A1,c1,xs),(A2,c2,ys)]).foldl (fun a b=>a * b) 1 = n1 * n2:=by simp [vals,q1,q2]
 rw [e1] at hv
 have hr:=fe hv hn (by omega)
 obtain ⟨A,k,c,rfl⟩:=hr.shape
 exact ⟨A,k,c,he,hr,hb⟩
theorem r1_sub {w : World} {v1 v2 : Value} {n1 n2 N : Nat} (h1 : Rr w v1 n1) (h2 : Rr w v2 n2) (hn1 : n1 < 1000000000 ^ N) (hn2 : n2 < 1000000000 ^ N) (hN : N ≤ 1100) {z : Int} {ok : Bool} (hz : z.natAbs = n1 - n2) (hok : decide (n2 ≤ n1) = ok) {S0 : Nat} {x : Nat → Value} : Calls Tryz.prog 133 #[v1,v2] w (Told (kRB z ok) S0 x w):=by
 obtain ⟨A1,k1,c1,rfl⟩:=h1.shape
 obtain ⟨A2,k2,c2,rfl⟩:=h2.shape
 refine (vr_sub h1 h2 hn1 hn2 hN).mono fun e w' ⟨A,k,c,he,hr,hb⟩=>?_
 subst hok
 exact ⟨_,he,hb,_,rfl,by rw [hz]; exact hr⟩
theorem tr {P : Program} {F : FuncId} {vs : Array Value} {w : World} {S0 : Nat} {x : Nat → Value} {z : Int} {n : Nat} (hz : z.natAbs = n) (h : Calls P F vs w (RetR w n)) : Calls P F vs w (Told (kRow z) S0 x w) :=
 h.mono fun _ _ ⟨_,_,_,he,hr,hb⟩=>⟨_,he,hb,by rw [← hz] at hr; exact hr⟩
theorem two_lt {m n k : Nat} (h1 : m < 1000000000 ^ k) (h2 : n < 1000000000 ^ k) : m + n < 1000000000 ^ (k + 1):=by
 rw [Nat.pow_succ]; omega
theorem less_lt {m n k : Nat} (h1 : m < 1000000000 ^ k) : m - n < 1000000000 ^ k:=by omega
theorem r2_mkB {w : World} {S0 : Nat} {x : Nat → Value} {v1 v2 : Value} {z : Int} {b : Bool} {k : Nat} (h1 : (kIs (.bool b)).sem S0 x v1 w) (h2 : (kRow z).sem S0 x v2 w) (hn : z.natAbs < 1000000000 ^ k) (hk : k ≤ 1100) : Calls Tryz.prog 105 #[v1,v2] w (TellsZ w k (zOf z.natAbs b)):=by
 have e : v1 = .bool b:=h1
 subst e
 exact r2_mk b h2 hn hk
theorem r2_plus_nn {M : Nat} (hM : Hid (M ≤ 1080)) {w : World} {v1 v2 : Value} {zx zy : Int} (hx : decide (zx < 0) = true) (hy : decide (zy < 0) = true) (h1 : Zr w v1 M (zx)) (h2 : Zr w v2 M (zy)) :
   Calls Tryz.prog 100 #[v1,v2] w (TellsZ w (M + 1) (zOf (((((zx).natAbs + (zy).natAbs : Nat) : Int)).natAbs) true)):=by
 have U1:=Lib.hid h1.lt
 obtain ⟨y1,z1,rfl,H1⟩:=h1.op
 have U2:=Lib.hid h2.lt
 obtain ⟨y2,z2,rfl,H2⟩:=h2.op
 go_enter Tryz.func100,Tryz.ntmps100
 repeat apply wp_seq
 refine ls fun K HK=>?_
 go_wp2
 refine HK.out _ _ (then_n ?_)
 refine O39 (G:=fun W=>Code.wp _ _ _ _ W) ?_
 intro W_0 bb_0 K0 K1 K2
 have f1_0:=H1.out _ _ _ bb_0 K0
 have f2_0:=H2.out _ _ _ bb_0 K1
 have R_0:=lc K2
 clear K0 K1 K2
 refine lm (G:=fun a=>Code.wp _ _ _ a _) 46 ?_
 intro a_0 ha hN_0 hD_0
 have e2_0:=lj ha 2 w.heap.size
 have e3_0:=lj ha 3 (w.heap.size + 1)
 have e4_0:=lj ha 4 (w.heap.size + 1 + 1)
 repeat first | apply lk | apply ll
 refine ld bb_0 [lf w.heap.size 0,lg,lf (w.heap.size + 1) 0,lg,lg] [[],[0],[],[2],[1,3]] [7,8,9,10,11] [] [] ?_ ?_
 ·
   refine p01 e2_0 ?_; refine aq (s:=true) f1_0 hx ?_; refine p01 e3_0 ?_; refine aq (s:=true) f2_0 hy ?_; refine p20 ?_; exact ag rfl
 intro W_1 x a_1 hC hall ha hN_1 hD_1 bb_1
 have e2_1:=ab ha e2_0
 have e3_1:=ab ha e3_0
 have e4_1:=ab ha e4_0
 have f1_1:=hC.at0 f1_0
 have f2_1:=hC.at0 f2_0
 have R_1:=hC.holds R_0
 have e11_1:=le ha hall 11 4
 repeat first | apply lk | apply ll
 refine wp_cond_true e11_1 ?_
 repeat first | apply lk | apply ll
 refine lu bb_1 R_1 [lf w.heap.size 0,lg,lf w.heap.size 1,kRow (zx),lf (w.heap.size + 1) 1,kRow (zy),kRR ((zx).natAbs) ((zy).natAbs),kRow ((((zx).natAbs + (zy).natAbs : Nat) : Int)),kZ (M + 1) (zOf (((((zx).natAbs + (zy).natAbs : Nat) : Int)).natAbs) true),kResZ (w.heap.size + 1 + 1) (M + 1) (zOf (((((zx).natAbs + (zy).natAbs : Nat) : Int)).natAbs) true)] [[],[0],[],[2],[],[4],[3,5],[6],[1,7],[8]] [12,13,14,15,16,17,18,19,20,999] [] [] ?_ ?_
 ·
   refine p01 e2_1 ?_; refine aq (s:=true) (hG:=(by simp only [List.mem_singleton]; omega)) f1_1 hx ?_; refine p01 e2_1 ?_; refine aa rfl rfl (ar (hG:=(by simp only [List.mem_singleton]; omega)) f1_1 rfl rfl) ?_; refine p01 e3_1 ?_; refine aa rfl rfl (ar (hG:=(by simp only [List.mem_singleton]; omega)) f2_1 rfl rfl) ?_; refine aa rfl rfl (st_rows2 rfl rfl rfl) ?_; refine aa rfl rfl (ae rfl rfl fun hC h1=>tr rfl (r1_add (N:=M + 1) h1 (two_lt U1.out U2.out) (by first | decide | (have:=hM.out; omega)))) ?_; refine aa rfl rfl (ap rfl rfl rfl fun hC h1 h2=>tz (r2_mkB h1 h2 (two_lt U1.out U2.out) (by first | decide | (have:=hM.out; omega)))) ?_; refine aa rfl rfl (ce R_1 e4_1 rfl rfl) ?_; exact ag rfl
 intro W x a1 hC hall ha hN1 hD1 bb1
 obtain ⟨cs,hg,hP⟩:=lr hall 9
 have e1:=ab (t:=4) ha e4_1
 repeat first | apply lk | apply ll
 refine wp_ret ?_
 repeat (refine then_r ?_)
 exact ci (t:=4) rfl hD1 e1 hg hP fun v hv=>⟨v,rfl,hv,bb1⟩
theorem r2_plus_np_ge {M : Nat} (hM : Hid (M ≤ 1080)) {w : World} {v1 v2 : Value} {zx zy : Int} (hx : decide (zx < 0) = true) (hy : decide (zy < 0) = false) (hle : zy.natAbs ≤ zx.natAbs) (h1 : Zr w v1 M (zx)) (h2 : Zr w v2 M (zy)) :
   Calls Tryz.prog 100 #[v1,v2] w (TellsZ w M (zOf (((((zx).natAbs - (zy).natAbs : Nat) : Int)).natAbs) true)):=by
 have U1:=Lib.hid h1.lt
 obtain ⟨y1,z1,rfl,H1⟩:=h1.op
 have U2:=Lib.hid h2.lt
 obtain ⟨y2,z2,rfl,H2⟩:=h2.op
 go_enter Tryz.func100,Tryz.ntmps100
 repeat apply wp_seq
 refine ls fun K HK=>?_
 go_wp2
 refine HK.out _ _ (then_n ?_)
 refine O39 (G:=fun W=>Code.wp _ _ _ _ W) ?_
 intro W_0 bb_0 K0 K1 K2
 have f1_0:=H1.out _ _ _ bb_0 K0
 have f2_0:=H2.out _ _ _ bb_0 K1
 have R_0:=lc K2
 clear K0 K1 K2
 refine lm (G:=fun a=>Code.wp _ _ _ a _) 46 ?_
 intro a_0 ha hN_0 hD_0
 have e2_0:=lj ha 2 w.heap.size
 have e3_0:=lj ha 3 (w.heap.size + 1)
 have e4_0:=lj ha 4 (w.heap.size + 1 + 1)
 repeat first | apply lk | apply ll
 refine ld bb_0 [lf w.heap.size 0,lg,lf (w.heap.size + 1) 0,lh,lh] [[],[0],[],[2],[1,3]] [7,8,9,10,11] [] [] ?_ ?_
 ·
   refine p01 e2_0 ?_; refine aq (s:=true) f1_0 hx ?_; refine p01 e3_0 ?_; refine aq (s:=false) f2_0 hy ?_; refine p20 ?_; exact ag rfl
 intro W_1 x a_1 hC hall ha hN_1 hD_1 bb_1
 have e2_1:=ab ha e2_0
 have e3_1:=ab ha e3_0
 have e4_1:=ab ha e4_0
 have f1_1:=hC.at0 f1_0
 have f2_1:=hC.at0 f2_0
 have R_1:=hC.holds R_0
 have e11_1:=le ha hall 11 4
 repeat first | apply lk | apply ll
 refine wp_cond_false e11_1 ?_
 repeat first | apply lk | apply ll
 refine ld bb_1 [lf w.heap.size 1,kRow (zx),lf (w.heap.size + 1) 1,kRow (zy),kRB ((((zx).natAbs - (zy).natAbs : Nat) : Int)) true,kRB ((((zx).natAbs - (zy).natAbs : Nat) : Int)) true,kRow ((((zx).natAbs - (zy).natAbs : Nat) : Int)),lg,kRow ((((zx).natAbs - (zy).natAbs : Nat) : Int)),lg] [[],[0],[],[2],[1,3],[4],[5],[5],[6],[7]] [22,23,24,25,26,21,27,28,5,6] [] [] ?_ ?_
 ·
   refine p01 e2_1 ?_; refine aa rfl rfl (ar f1_1 rfl rfl) ?_; refine p01 e3_1 ?_; refine aa rfl rfl (ar f2_1 rfl rfl) ?_; refine aa rfl rfl (ap rfl rfl rfl fun hC h1 h2=>r1_sub (N:=M) h1 h2 U1.out U2.out (by first | decide | (have:=hM.out; omega)) rfl (decide_eq_true hle)) ?_; refine aa rfl rfl (cw rfl rfl) ?_; refine bf jy ?_; refine bf jz ?_; refine aa rfl rfl (fb rfl rfl) ?_; refine p10 ?_; exact ag rfl
 intro W_2 x a_2 hC hall ha hN_2 hD_2 bb_2
 have e2_2:=ab ha e2_1
 have e4_2:=ab ha e4_1
 have f1_2:=hC.at0 f1_1
 have R_2:=hC.holds R_1
 have e6_2:=le ha hall 6 9
 obtain ⟨v5_2,hv⟩ : ∃ v,v = x 8:=⟨_,rfl⟩
 have e5_2:=(an (t:=5) (i:=8) ha).trans hv.symm
 have z5_2 : Rr W_2 v5_2 ((((zx).natAbs - (zy).natAbs : Nat) : Int)).natAbs:=by rw [hv]; exact hall 8 (of_decide_eq_true (by kernel_rfl))
 clear hv
 repeat first | apply lk | apply ll
 refine ld bb_2 [lg] [[]] [29] [] [] ?_ ?_
 ·
   refine p01 e6_2 ?_; exact ag rfl
 intro W_3 x a_3 hC hall ha hN_3 hD_3 bb_3
 have e2_3:=ab ha e2_2
 have e4_3:=ab ha e4_2
 have e5_3:=ab ha e5_2
 have f1_3:=hC.at0 f1_2
 have R_3:=hC.holds R_2
 have z5_3:=hC.rr z5_2
 have e29_3:=le ha hall 29 0
 repeat first | apply lk | apply ll
 refine wp_cond_true e29_3 ?_
 repeat first | apply lk | apply ll
 refine lu bb_3 R_3 [lf w.heap.size 0,lg,kRow ((((zx).natAbs - (zy).natAbs : Nat) : Int)),kZ M (zOf (((((zx).natAbs - (zy).natAbs : Nat) : Int)).natAbs) true),kResZ (w.heap.size + 1 + 1) M (zOf (((((zx).natAbs - (zy).natAbs : Nat) : Int)).natAbs) true)] [[],[0],[],[1,2],[3]] [30,31,32,33,999] [] [] ?_ ?_
 ·
   refine p01 e2_3 ?_; refine aq (s:=true) (hG:=(by simp only [List.mem_singleton]; omega)) f1_3 hx ?_; refine aa rfl rfl (eh e5_3 z5_3 (fun w hC=>hC.rr z5_3) rfl) ?_; refine aa rfl rfl (ap rfl rfl rfl fun hC h1 h2=>tz (r2_mkB h1 h2 (less_lt U1.out) (by first | decide | (have:=hM.out; omega)))) ?_; refine aa rfl rfl (ce R_3 e4_3 rfl rfl) ?_; exact ag rfl
 intro W x a1 hC hall ha hN1 hD1 bb1
 obtain ⟨cs,hg,hP⟩:=lr hall 4
 have e1:=ab (t:=4) ha e4_3
 repeat first | apply lk | apply ll
 refine wp_ret ?_
 repeat (refine then_r ?_)
 exact ci (t:=4) rfl hD1 e1 hg hP fun v hv=>⟨v,rfl,hv,bb1⟩
theorem r2_plus_np_lt {M : Nat} (hM : Hid (M ≤ 1080)) {w : World} {v1 v2 : Value} {zx zy : Int} (hx : decide (zx < 0) = true) (hy : decide (zy < 0) = false) (hle : ¬ zy.natAbs ≤ zx.natAbs) (h1 : Zr w v1 M (zx)) (h2 : Zr w v2 M (zy)) :
   Calls Tryz.prog 100 #[v1,v2] w (TellsZ w M (zOf (((((zy).natAbs - (zx).natAbs : Nat) : Int)).natAbs) false)):=by
 have U1:=Lib.hid h1.lt
 obtain ⟨y1,z1,rfl,H1⟩:=h1.op
 have U2:=Lib.hid h2.lt
 obtain ⟨y2,z2,rfl,H2⟩:=h2.op
 go_enter Tryz.func100,Tryz.ntmps100
 repeat apply wp_seq
 refine ls fun K HK=>?_
 go_wp2
 refine HK.out _ _ (then_n ?_)
 refine O39 (G:=fun W=>Code.wp _ _ _ _ W) ?_
 intro W_0 bb_0 K0 K1 K2
 have f1_0:=H1.out _ _ _ bb_0 K0
 have f2_0:=H2.out _ _ _ bb_0 K1
 have R_0:=lc K2
 clear K0 K1 K2
 refine lm (G:=fun a=>Code.wp _ _ _ a _) 46 ?_
 intro a_0 ha hN_0 hD_0
 have e2_0:=lj ha 2 w.heap.size
 have e3_0:=lj ha 3 (w.heap.size + 1)
 have e4_0:=lj ha 4 (w.heap.size + 1 + 1)
 repeat first | apply lk | apply ll
 refine ld bb_0 [lf w.heap.size 0,lg,lf (w.heap.size + 1) 0,lh,lh] [[],[0],[],[2],[1,3]] [7,8,9,10,11] [] [] ?_ ?_
 ·
   refine p01 e2_0 ?_; refine aq (s:=true) f1_0 hx ?_; refine p01 e3_0 ?_; refine aq (s:=false) f2_0 hy ?_; refine p20 ?_; exact ag rfl
 intro W_1 x a_1 hC hall ha hN_1 hD_1 bb_1
 have e2_1:=ab ha e2_0
 have e3_1:=ab ha e3_0
 have e4_1:=ab ha e4_0
 have f1_1:=hC.at0 f1_0
 have f2_1:=hC.at0 f2_0
 have R_1:=hC.holds R_0
 have e11_1:=le ha hall 11 4
 repeat first | apply lk | apply ll
 refine wp_cond_false e11_1 ?_
 repeat first | apply lk | apply ll
 refine ld bb_1 [lf w.heap.size 1,kRow (zx),lf (w.heap.size + 1) 1,kRow (zy),kRB ((((zx).natAbs - (zy).natAbs : Nat) : Int)) false,kRB ((((zx).natAbs - (zy).natAbs : Nat) : Int)) false,kRow ((((zx).natAbs - (zy).natAbs : Nat) : Int)),lh,kRow ((((zx).natAbs - (zy).natAbs : Nat) : Int)),lh] [[],[0],[],[2],[1,3],[4],[5],[5],[6],[7]] [22,23,24,25,26,21,27,28,5,6] [] [] ?_ ?_
 ·
   refine p01 e2_1 ?_; refine aa rfl rfl (ar f1_1 rfl rfl) ?_; refine p01 e3_1 ?_; refine aa rfl rfl (ar f2_1 rfl rfl) ?_; refine aa rfl rfl (ap rfl rfl rfl fun hC h1 h2=>r1_sub (N:=M) h1 h2 U1.out U2.out (by first | decide | (have:=hM.out; omega)) rfl (decide_eq_false hle)) ?_; refine aa rfl rfl (cw rfl rfl) ?_; refine bf jy ?_; refine bf jz ?_; refine aa rfl rfl (fb rfl rfl) ?_; refine p10 ?_; exact ag rfl
 intro W_2 x a_2 hC hall ha hN_2 hD_2 bb_2
 have e2_2:=ab ha e2_1
 have e3_2:=ab ha e3_1
 have e4_2:=ab ha e4_1
 have f1_2:=hC.at0 f1_1
 have f2_2:=hC.at0 f2_1
 have R_2:=hC.holds R_1
 have e6_2:=le ha hall 6 9
 obtain ⟨v5_2,hv⟩ : ∃ v,v = x 8:=⟨_,rfl⟩
 have e5_2:=(an (t:=5) (i:=8) ha).trans hv.symm
 have z5_2 : Rr W_2 v5_2 ((((zx).natAbs - (zy).natAbs : Nat) : Int)).natAbs:=by rw [hv]; exact hall 8 (of_decide_eq_true (by kernel_rfl))
 clear hv
 repeat first | apply lk | apply ll
 refine ld bb_2 [lh] [[]] [29] [] [] ?_ ?_
 ·
   refine p01 e6_2 ?_; exact ag rfl
 intro W_3 x a_3 hC hall ha hN_3 hD_3 bb_3
 have e2_3:=ab ha e2_2
 have e3_3:=ab ha e3_2
 have e4_3:=ab ha e4_2
 have f1_3:=hC.at0 f1_2
 have f2_3:=hC.at0 f2_2
 have R_3:=hC.holds R_2
 have e29_3:=le ha hall 29 0
 repeat first | apply lk | apply ll
 refine wp_cond_false e29_3 ?_
 repeat first | apply lk | apply ll
 refine ld bb_3 [lf (w.heap.size + 1) 1,kRow (zy),lf w.heap.size 1,kRow (zx),kRB ((((zy).natAbs - (zx).natAbs : Nat) : Int)) true,kRB ((((zy).natAbs - (zx).natAbs : Nat) : Int)) true,kRow ((((zy).natAbs - (zx).natAbs : Nat) : Int)),lg,kRow ((((zy).natAbs - (zx).natAbs : Nat) : Int))] [[],[0],[],[2],[1,3],[4],[5],[5],[6]] [35,36,37,38,39,34,40,41,5] [] [] ?_ ?_
 ·
   refine p01 e3_3 ?_; refine aa rfl rfl (ar f2_3 rfl rfl) ?_; refine p01 e2_3 ?_; refine aa rfl rfl (ar f1_3 rfl rfl) ?_; refine aa rfl rfl (ap rfl rfl rfl fun hC h1 h2=>r1_sub (N:=M) h1 h2 U2.out U1.out (by first | decide | (have:=hM.out; omega)) rfl (decide_eq_true (by omega))) ?_; refine aa rfl rfl (cw rfl rfl) ?_; refine bf jy ?_; refine bf jz ?_; refine aa rfl rfl (fb rfl rfl) ?_; exact ag rfl
 intro W_4 x a_4 hC hall ha hN_4 hD_4 bb_4
 have e3_4:=ab ha e3_3
 have e4_4:=ab ha e4_3
 have f2_4:=hC.at0 f2_3
 have R_4:=hC.holds R_3
 obtain ⟨v5_4,hv⟩ : ∃ v,v = x 8:=⟨_,rfl⟩
 have e5_4:=(an (t:=5) (i:=8) ha).trans hv.symm
 have z5_4 : Rr W_4 v5_4 ((((zy).natAbs - (zx).natAbs : Nat) : Int)).natAbs:=by rw [hv]; exact hall 8 (of_decide_eq_true (by kernel_rfl))
 clear hv
 repeat first | apply lk | apply ll
 refine lu bb_4 R_4 [lf (w.heap.size + 1) 0,lh,kRow ((((zy).natAbs - (zx).natAbs : Nat) : Int)),kZ M (zOf (((((zy).natAbs - (zx).natAbs : Nat) : Int)).natAbs) false),kResZ (w.heap.size + 1 + 1) M (zOf (((((zy).natAbs - (zx).natAbs : Nat) : Int)).natAbs) false)] [[],[0],[],[1,2],[3]] [42,43,44,45,999] [] [] ?_ ?_
 ·
   refine p01 e3_4 ?_; refine aq (s:=false) (hG:=(by simp only [List.mem_singleton]; omega)) f2_4 hy ?_; refine aa rfl rfl (eh e5_4 z5_4 (fun w hC=>hC.rr z5_4) rfl) ?_; refine aa rfl rfl (ap rfl rfl rfl fun hC h1 h2=>tz (r2_mkB h1 h2 (less_lt U2.out) (by first | decide | (have:=hM.out; omega)))) ?_; refine aa rfl rfl (ce R_4 e4_4 rfl rfl) ?_; exact ag rfl
 intro W x a1 hC hall ha hN1 hD1 bb1
 obtain ⟨cs,hg,hP⟩:=lr hall 4
 have e1:=ab (t:=4) ha e4_4
 repeat first | apply lk | apply ll
 refine wp_ret ?_
 repeat (refine then_r ?_)
 exact ci (t:=4) rfl hD1 e1 hg hP fun v hv=>⟨v,rfl,hv,bb1⟩
theorem r2_plus_pn_ge {M : Nat} (hM : Hid (M ≤ 1080)) {w : World} {v1 v2 : Value} {zx zy : Int} (hx : decide (zx < 0) = false) (hy : decide (zy < 0) = true) (hle : zy.natAbs ≤ zx.natAbs) (h1 : Zr w v1 M (zx)) (h2 : Zr w v2 M (zy)) :
   Calls Tryz.prog 100 #[v1,v2] w (TellsZ w M (zOf (((((zx).natAbs - (zy).natAbs : Nat) : Int)).natAbs) false)):=by
 have U1:=Lib.hid h1.lt
 obtain ⟨y1,z1,rfl,H1⟩:=h1.op
 have U2:=Lib.hid h2.lt
 obtain ⟨y2,z2,rfl,H2⟩:=h2.op
 go_enter Tryz.func100,Tryz.ntmps100
 repeat apply wp_seq
 refine ls fun K HK=>?_
 go_wp2
 refine HK.out _ _ (then_n ?_)
 refine O39 (G:=fun W=>Code.wp _ _ _ _ W) ?_
 intro W_0 bb_0 K0 K1 K2
 have f1_0:=H1.out _ _ _ bb_0 K0
 have f2_0:=H2.out _ _ _ bb_0 K1
 have R_0:=lc K2
 clear K0 K1 K2
 refine lm (G:=fun a=>Code.wp _ _ _ a _) 46 ?_
 intro a_0 ha hN_0 hD_0
 have e2_0:=lj ha 2 w.heap.size
 have e3_0:=lj ha 3 (w.heap.size + 1)
 have e4_0:=lj ha 4 (w.heap.size + 1 + 1)
 repeat first | apply lk | apply ll
 refine ld bb_0 [lf w.heap.size 0,lh,lf (w.heap.size + 1) 0,lg,lh] [[],[0],[],[2],[1,3]] [7,8,9,10,11] [] [] ?_ ?_
 ·
   refine p01 e2_0 ?_; refine aq (s:=false) f1_0 hx ?_; refine p01 e3_0 ?_; refine aq (s:=true) f2_0 hy ?_; refine p20 ?_; exact ag rfl
 intro W_1 x a_1 hC hall ha hN_1 hD_1 bb_1
 have e2_1:=ab ha e2_0
 have e3_1:=ab ha e3_0
 have e4_1:=ab ha e4_0
 have f1_1:=hC.at0 f1_0
 have f2_1:=hC.at0 f2_0
 have R_1:=hC.holds R_0
 have e11_1:=le ha hall 11 4
 repeat first | apply lk | apply ll
 refine wp_cond_false e11_1 ?_
 repeat first | apply lk | apply ll
 refine ld bb_1 [lf w.heap.size 1,kRow (zx),lf (w.heap.size + 1) 1,kRow (zy),kRB ((((zx).natAbs - (zy).natAbs : Nat) : Int)) true,kRB ((((zx).natAbs - (zy).natAbs : Nat) : Int)) true,kRow ((((zx).natAbs - (zy).natAbs : Nat) : Int)),lg,kRow ((((zx).natAbs - (zy).natAbs : Nat) : Int)),lg] [[],[0],[],[2],[1,3],[4],[5],[5],[6],[7]] [22,23,24,25,26,21,27,28,5,6] [] [] ?_ ?_
 ·
   refine p01 e2_1 ?_; refine aa rfl rfl (ar f1_1 rfl rfl) ?_; refine p01 e3_1 ?_; refine aa rfl rfl (ar f2_1 rfl rfl) ?_; refine aa rfl rfl (ap rfl rfl rfl fun hC h1 h2=>r1_sub (N:=M) h1 h2 U1.out U2.out (by first | decide | (have:=hM.out; omega)) rfl (decide_eq_true hle)) ?_; refine aa rfl rfl (cw rfl rfl) ?_; refine bf jy ?_; refine bf jz ?_; refine aa rfl rfl (fb rfl rfl) ?_; refine p10 ?_; exact ag rfl
 intro W_2 x a_2 hC hall ha hN_2 hD_2 bb_2
 have e2_2:=ab ha e2_1
 have e4_2:=ab ha e4_1
 have f1_2:=hC.at0 f1_1
 have R_2:=hC.holds R_1
 have e6_2:=le ha hall 6 9
 obtain ⟨v5_2,hv⟩ : ∃ v,v = x 8:=⟨_,rfl⟩
 have e5_2:=(an (t:=5) (i:=8) ha).trans hv.symm
 have z5_2 : Rr W_2 v5_2 ((((zx).natAbs - (zy).natAbs : Nat) : Int)).natAbs:=by rw [hv]; exact hall 8 (of_decide_eq_true (by kernel_rfl))
 clear hv
 repeat first | apply lk | apply ll
 refine ld bb_2 [lg] [[]] [29] [] [] ?_ ?_
 ·
   refine p01 e6_2 ?_; exact ag rfl
 intro W_3 x a_3 hC hall ha hN_3 hD_3 bb_3
 have e2_3:=ab ha e2_2
 have e4_3:=ab ha e4_2
 have e5_3:=ab ha e5_2
 have f1_3:=hC.at0 f1_2
 have R_3:=hC.holds R_2
 have z5_3:=hC.rr z5_2
 have e29_3:=le ha hall 29 0
 repeat first | apply lk | apply ll
 refine wp_cond_true e29_3 ?_
 repeat first | apply lk | apply ll
 refine lu bb_3 R_3 [lf w.heap.size 0,lh,kRow ((((zx).natAbs - (zy).natAbs : Nat) : Int)),kZ M (zOf (((((zx).natAbs - (zy).natAbs : Nat) : Int)).natAbs) false),kResZ (w.heap.size + 1 + 1) M (zOf (((((zx).natAbs - (zy).natAbs : Nat) : Int)).natAbs) false)] [[],[0],[],[1,2],[3]] [30,31,32,33,999] [] [] ?_ ?_
 ·
   refine p01 e2_3 ?_; refine aq (s:=false) (hG:=(by simp only [List.mem_singleton]; omega)) f1_3 hx ?_; refine aa rfl rfl (eh e5_3 z5_3 (fun w hC=>hC.rr z5_3) rfl) ?_; refine aa rfl rfl (ap rfl rfl rfl fun hC h1 h2=>tz (r2_mkB h1 h2 (less_lt U1.out) (by first | decide | (have:=hM.out; omega)))) ?_; refine aa rfl rfl (ce R_3 e4_3 rfl rfl) ?_; exact ag rfl
 intro W x a1 hC hall ha hN1 hD1 bb1
 obtain ⟨cs,hg,hP⟩:=lr hall 4
 have e1:=ab (t:=4) ha e4_3
 repeat first | apply lk | apply ll
 refine wp_ret ?_
 repeat (refine then_r ?_)
 exact ci (t:=4) rfl hD1 e1 hg hP fun v hv=>⟨v,rfl,hv,bb1⟩
theorem r2_plus_pn_lt {M : Nat} (hM : Hid (M ≤ 1080)) {w : World} {v1 v2 : Value} {zx zy : Int} (hx : decide (zx < 0) = false) (hy : decide (zy < 0) = true) (hle : ¬ zy.natAbs ≤ zx.natAbs) (h1 : Zr w v1 M (zx)) (h2 : Zr w v2 M (zy)) :
   Calls Tryz.prog 100 #[v1,v2] w (TellsZ w M (zOf (((((zy).natAbs - (zx).natAbs : Nat) : Int)).natAbs) true)):=by
 have U1:=Lib.hid h1.lt
 obtain ⟨y1,z1,rfl,H1⟩:=h1.op
 have U2:=Lib.hid h2.lt
 obtain ⟨y2,z2,rfl,H2⟩:=h2.op
 go_enter Tryz.func100,Tryz.ntmps100
 repeat apply wp_seq
 refine ls fun K HK=>?_
 go_wp2
 refine HK.out _ _ (then_n ?_)
 refine O39 (G:=fun W=>Code.wp _ _ _ _ W) ?_
 intro W_0 bb_0 K0 K1 K2
 have f1_0:=H1.out _ _ _ bb_0 K0
 have f2_0:=H2.out _ _ _ bb_0 K1
 have R_0:=lc K2
 clear K0 K1 K2
 refine lm (G:=fun a=>Code.wp _ _ _ a _) 46 ?_
 intro a_0 ha hN_0 hD_0
 have e2_0:=lj ha 2 w.heap.size
 have e3_0:=lj ha 3 (w.heap.size + 1)
 have e4_0:=lj ha 4 (w.heap.size + 1 + 1)
 repeat first | apply lk | apply ll
 refine ld bb_0 [lf w.heap.size 0,lh,lf (w.heap.size + 1) 0,lg,lh] [[],[0],[],[2],[1,3]] [7,8,9,10,11] [] [] ?_ ?_
 ·
   refine p01 e2_0 ?_; refine aq (s:=false) f1_0 hx ?_; refine p01 e3_0 ?_; refine aq (s:=true) f2_0 hy ?_; refine p20 ?_; exact ag rfl
 intro W_1 x a_1 hC hall ha hN_1 hD_1 bb_1
 have e2_1:=ab ha e2_0
 have e3_1:=ab ha e3_0
 have e4_1:=ab ha e4_0
 have f1_1:=hC.at0 f1_0
 have f2_1:=hC.at0 f2_0
 have R_1:=hC.holds R_0
 have e11_1:=le ha hall 11 4
 repeat first | apply lk | apply ll
 refine wp_cond_false e11_1 ?_
 repeat first | apply lk | apply ll
 refine ld bb_1 [lf w.heap.size 1,kRow (zx),lf (w.heap.size + 1) 1,kRow (zy),kRB ((((zx).natAbs - (zy).natAbs : Nat) : Int)) false,kRB ((((zx).natAbs - (zy).natAbs : Nat) : Int)) false,kRow ((((zx).natAbs - (zy).natAbs : Nat) : Int)),lh,kRow ((((zx).natAbs - (zy).natAbs : Nat) : Int)),lh] [[],[0],[],[2],[1,3],[4],[5],[5],[6],[7]] [22,23,24,25,26,21,27,28,5,6] [] [] ?_ ?_
 ·
   refine p01 e2_1 ?_; refine aa rfl rfl (ar f1_1 rfl rfl) ?_; refine p01 e3_1 ?_; refine aa rfl rfl (ar f2_1 rfl rfl) ?_; refine aa rfl rfl (ap rfl rfl rfl fun hC h1 h2=>r1_sub (N:=M) h1 h2 U1.out U2.out (by first | decide | (have:=hM.out; omega)) rfl (decide_eq_false hle)) ?_; refine aa rfl rfl (cw rfl rfl) ?_; refine bf jy ?_; refine bf jz ?_; refine aa rfl rfl (fb rfl rfl) ?_; refine p10 ?_; exact ag rfl
 intro W_2 x a_2 hC hall ha hN_2 hD_2 bb_2
 have e2_2:=ab ha e2_1
 have e3_2:=ab ha e3_1
 have e4_2:=ab ha e4_1
 have f1_2:=hC.at0 f1_1
 have f2_2:=hC.at0 f2_1
 have R_2:=hC.holds R_1
 have e6_2:=le ha hall 6 9
 obtain ⟨v5_2,hv⟩ : ∃ v,v = x 8:=⟨_,rfl⟩
 have e5_2:=(an (t:=5) (i:=8) ha).trans hv.symm
 have z5_2 : Rr W_2 v5_2 ((((zx).natAbs - (zy).natAbs : Nat) : Int)).natAbs:=by rw [hv]; exact hall 8 (of_decide_eq_true (by kernel_rfl))
 clear hv
 repeat first | apply lk | apply ll
 refine ld bb_2 [lh] [[]] [29] [] [] ?_ ?_
 ·
   refine p01 e6_2 ?_; exact ag rfl
 intro W_3 x a_3 hC hall ha hN_3 hD_3 bb_3
 have e2_3:=ab ha e2_2
 have e3_3:=ab ha e3_2
 have e4_3:=ab ha e4_2
 have f1_3:=hC.at0 f1_2
 have f2_3:=hC.at0 f2_2
 have R_3:=hC.holds R_2
 have e29_3:=le ha hall 29 0
 repeat first | apply lk | apply ll
 refine wp_cond_false e29_3 ?_
 repeat first | apply lk | apply ll
 refine ld bb_3 [lf (w.heap.size + 1) 1,kRow (zy),lf w.heap.size 1,kRow (zx),kRB ((((zy).natAbs - (zx).natAbs : Nat) : Int)) true,kRB ((((zy).natAbs - (zx).natAbs : Nat) : Int)) true,kRow ((((zy).natAbs - (zx).natAbs : Nat) : Int)),lg,kRow ((((zy).natAbs - (zx).natAbs : Nat) : Int))] [[],[0],[],[2],[1,3],[4],[5],[5],[6]] [35,36,37,38,39,34,40,41,5] [] [] ?_ ?_
 ·
   refine p01 e3_3 ?_; refine aa rfl rfl (ar f2_3 rfl rfl) ?_; refine p01 e2_3 ?_; refine aa rfl rfl (ar f1_3 rfl rfl) ?_; refine aa rfl rfl (ap rfl rfl rfl fun hC h1 h2=>r1_sub (N:=M) h1 h2 U2.out U1.out (by first | decide | (have:=hM.out; omega)) rfl (decide_eq_true (by omega))) ?_; refine aa rfl rfl (cw rfl rfl) ?_; refine bf jy ?_; refine bf jz ?_; refine aa rfl rfl (fb rfl rfl) ?_; exact ag rfl
 intro W_4 x a_4 hC hall ha hN_4 hD_4 bb_4
 have e3_4:=ab ha e3_3
 have e4_4:=ab ha e4_3
 have f2_4:=hC.at0 f2_3
 have R_4:=hC.holds R_3
 obtain ⟨v5_4,hv⟩ : ∃ v,v = x 8:=⟨_,rfl⟩
 have e5_4:=(an (t:=5) (i:=8) ha).trans hv.symm
 have z5_4 : Rr W_4 v5_4 ((((zy).natAbs - (zx).natAbs : Nat) : Int)).natAbs:=by rw [hv]; exact hall 8 (of_decide_eq_true (by kernel_rfl))
 clear hv
 repeat first | apply lk | apply ll
 refine lu bb_4 R_4 [lf (w.heap.size + 1) 0,lg,kRow ((((zy).natAbs - (zx).natAbs : Nat) : Int)),kZ M (zOf (((((zy).natAbs - (zx).natAbs : Nat) : Int)).natAbs) true),kResZ (w.heap.size + 1 + 1) M (zOf (((((zy).natAbs - (zx).natAbs : Nat) : Int)).natAbs) true)] [[],[0],[],[1,2],[3]] [42,43,44,45,999] [] [] ?_ ?_
 ·
   refine p01 e3_4 ?_; refine aq (s:=true) (hG:=(by simp only [List.mem_singleton]; omega)) f2_4 hy ?_; refine aa rfl rfl (eh e5_4 z5_4 (fun w hC=>hC.rr z5_4) rfl) ?_; refine aa rfl rfl (ap rfl rfl rfl fun hC h1 h2=>tz (r2_mkB h1 h2 (less_lt U2.out) (by first | decide | (have:=hM.out; omega)))) ?_; refine aa rfl rfl (ce R_4 e4_4 rfl rfl) ?_; exact ag rfl
 intro W x a1 hC hall ha hN1 hD1 bb1
 obtain ⟨cs,hg,hP⟩:=lr hall 4
 have e1:=ab (t:=4) ha e4_4
 repeat first | apply lk | apply ll
 refine wp_ret ?_
 repeat (refine then_r ?_)
 exact ci (t:=4) rfl hD1 e1 hg hP fun v hv=>⟨v,rfl,hv,bb1⟩
theorem r2_plus_pp {M : Nat} (hM : Hid (M ≤ 1080)) {w : World} {v1 v2 : Value} {zx zy : Int} (hx : decide (zx < 0) = false) (hy : decide (zy < 0) = false) (h1 : Zr w v1 M (zx)) (h2 : Zr w v2 M (zy)) :
   Calls Tryz.prog 100 #[v1,v2] w (TellsZ w (M + 1) (zOf (((((zx).natAbs + (zy).natAbs : Nat) : Int)).natAbs) false)):=by
 have U1:=Lib.hid h1.lt
 obtain ⟨y1,z1,rfl,H1⟩:=h1.op
 have U2:=Lib.hid h2.lt
 obtain ⟨y2,z2,rfl,H2⟩:=h2.op
 go_enter Tryz.func100,Tryz.ntmps100
 repeat apply wp_seq
 refine ls fun K HK=>?_
 go_wp2
 refine HK.out _ _ (then_n ?_)
 refine O39 (G:=fun W=>Code.wp _ _ _ _ W) ?_
 intro W_0 bb_0 K0 K1 K2
 have f1_0:=H1.out _ _ _ bb_0 K0
 have f2_0:=H2.out _ _ _ bb_0 K1
 have R_0:=lc K2
 clear K0 K1 K2
 refine lm (G:=fun a=>Code.wp _ _ _ a _) 46 ?_
 intro a_0 ha hN_0 hD_0
 have e2_0:=lj ha 2 w.heap.size
 have e3_0:=lj ha 3 (w.heap.size + 1)
 have e4_0:=lj ha 4 (w.heap.size + 1 + 1)
 repeat first | apply lk | apply ll
 refine ld bb_0 [lf w.heap.size 0,lh,lf (w.heap.size + 1) 0,lh,lg] [[],[0],[],[2],[1,3]] [7,8,9,10,11] [] [] ?_ ?_
 ·
   refine p01 e2_0 ?_; refine aq (s:=false) f1_0 hx ?_; refine p01 e3_0 ?_; refine aq (s:=false) f2_0 hy ?_; refine p20 ?_; exact ag rfl
 intro W_1 x a_1 hC hall ha hN_1 hD_1 bb_1
 have e2_1:=ab ha e2_0
 have e3_1:=ab ha e3_0
 have e4_1:=ab ha e4_0
 have f1_1:=hC.at0 f1_0
 have f2_1:=hC.at0 f2_0
 have R_1:=hC.holds R_0
 have e11_1:=le ha hall 11 4
 repeat first | apply lk | apply ll
 refine wp_cond_true e11_1 ?_
 repeat first | apply lk | apply ll
 refine lu bb_1 R_1 [lf w.heap.size 0,lh,lf w.heap.size 1,kRow (zx),lf (w.heap.size + 1) 1,kRow (zy),kRR ((zx).natAbs) ((zy).natAbs),kRow ((((zx).natAbs + (zy).natAbs : Nat) : Int)),kZ (M + 1) (zOf (((((zx).natAbs + (zy).natAbs : Nat) : Int)).natAbs) false),kResZ (w.heap.size + 1 + 1) (M + 1) (zOf (((((zx).natAbs + (zy).natAbs : Nat) : Int)).natAbs) false)] [[],[0],[],[2],[],[4],[3,5],[6],[1,7],[8]] [12,13,14,15,16,17,18,19,20,999] [] [] ?_ ?_
 ·
   refine p01 e2_1 ?_; refine aq (s:=false) (hG:=(by simp only [List.mem_singleton]; omega)) f1_1 hx ?_; refine p01 e2_1 ?_; refine aa rfl rfl (ar (hG:=(by simp only [List.mem_singleton]; omega)) f1_1 rfl rfl) ?_; refine p01 e3_1 ?_; refine aa rfl rfl (ar (hG:=(by simp only [List.mem_singleton]; omega)) f2_1 rfl rfl) ?_; refine aa rfl rfl (st_rows2 rfl rfl rfl) ?_; refine aa rfl rfl (ae rfl rfl fun hC h1=>tr rfl (r1_add (N:=M + 1) h1 (two_lt U1.out U2.out) (by first | decide | (have:=hM.out; omega)))) ?_; refine aa rfl rfl (ap rfl rfl rfl fun hC h1 h2=>tz (r2_mkB h1 h2 (two_lt U1.out U2.out) (by first | decide | (have:=hM.out; omega)))) ?_; refine aa rfl rfl (ce R_1 e4_1 rfl rfl) ?_; exact ag rfl
 intro W x a1 hC hall ha hN1 hD1 bb1
 obtain ⟨cs,hg,hP⟩:=lr hall 9
 have e1:=ab (t:=4) ha e4_1
 repeat first | apply lk | apply ll
 refine wp_ret ?_
 repeat (refine then_r ?_)
 exact ci (t:=4) rfl hD1 e1 hg hP fun v hv=>⟨v,rfl,hv,bb1⟩
theorem gl {w : World} {j k : Nat} {z z' : Int} {P : Program} {F : FuncId} {vs : Array Value} (h : Calls P F vs w (TellsZ w j z)) (hj : j ≤ k) (e : z = z') : Calls P F vs w (TellsZ w k z'):=by
 subst e
 exact h.mono fun _ _ ⟨v,e,hz,hb⟩=>⟨v,e,hz.mono hj,hb⟩
theorem r2_plusM {M : Nat} (hM : Hid (M ≤ 1080)) {w : World} {v1 v2 : Value} {x y : Int} (h1 : Zr w v1 M x) (h2 : Zr w v2 M y) : Calls Tryz.prog 100 #[v1,v2] w (TellsZ w (M + 1) (x + y)):=by
 by_cases hx : x < 0 <;> by_cases hy : y < 0
 · exact gl (r2_plus_nn hM (decide_eq_true hx) (decide_eq_true hy) h1 h2) (by first | exact Nat.le_refl _ | omega) (by simp only [zOf,Int.natAbs_natCast,if_true]; omega)
 · by_cases hle : y.natAbs ≤ x.natAbs
   · exact gl (r2_plus_np_ge hM (decide_eq_true hx) (decide_eq_false hy) hle h1 h2) (by first | exact Nat.le_refl _ | omega) (by simp only [zOf,Int.natAbs_natCast,if_true]; omega)
   · exact gl (r2_plus_np_lt hM (decide_eq_true hx) (decide_eq_false hy) hle h1 h2) (by first | exact Nat.le_refl _ | omega) (by simp only [zOf,Int.natAbs_natCast,Bool.false_eq_true,if_false]; omega)
 · by_cases hle : y.natAbs ≤ x.natAbs
   · exact gl (r2_plus_pn_ge hM (decide_eq_false hx) (decide_eq_true hy) hle h1 h2) (by first | exact Nat.le_refl _ | omega) (by simp only [zOf,Int.natAbs_natCast,Bool.false_eq_true,if_false]; omega)
   · exact gl (r2_plus_pn_lt hM (decide_eq_false hx) (decide_eq_true hy) hle h1 h2) (by first | exact Nat.le_refl _ | omega) (by simp only [zOf,Int.natAbs_natCast,if_true]; omega)
 · exact gl (r2_plus_pp hM (decide_eq_false hx) (decide_eq_false hy) h1 h2) (by first | exact Nat.le_refl _ | omega) (by simp only [zOf,Int.natAbs_natCast,Bool.false_eq_true,if_false]; omega)
theorem r2_sub39 {M : Nat} (hM : Hid (M ≤ 1080)) {w : World} {v1 v2 : Value} {zx zy : Int} (h1 : Zr w v1 M (zx)) (h2 : Zr w v2 M (zy)) :
   Calls Tryz.prog 122 #[v1,v2] w (TellsZ w (M + 1) ((zx) + (-(zy)))):=by
 obtain ⟨y1,z1,rfl,H1⟩:=h1.op
 obtain ⟨y2,z2,rfl,H2⟩:=h2.op
 go_enter Tryz.func122,Tryz.ntmps122
 repeat apply wp_seq
 refine ls fun K HK=>?_
 go_wp2
 refine HK.out _ _ (then_n ?_)
 refine O39 (G:=fun W=>Code.wp _ _ _ _ W) ?_
 intro W_0 bb_0 K0 K1 K2
 have f1_0:=H1.out _ _ _ bb_0 K0
 have f2_0:=H2.out _ _ _ bb_0 K1
 have R_0:=lc K2
 clear K0 K1 K2
 refine lm (G:=fun a=>Code.wp _ _ _ a _) 10 ?_
 intro a_0 ha hN_0 hD_0
 have e2_0:=lj ha 2 w.heap.size
 have e3_0:=lj ha 3 (w.heap.size + 1)
 have e4_0:=lj ha 4 (w.heap.size + 1 + 1)
 repeat first | apply lk | apply ll
 refine lu bb_0 R_0 [kZ M (zx),kZ M (zx),kZ M (zy),kZ M (-(zy)),kZ (M + 1) ((zx) + (-(zy))),kResZ (w.heap.size + 1 + 1) (M + 1) ((zx) + (-(zy)))] [[],[0],[],[2],[1,3],[4]] [5,6,7,8,9,999] [] [] ?_ ?_
 ·
   refine ai (hG:=(by simp only [List.mem_singleton]; omega)) f1_0 e2_0 ?_; refine aa rfl rfl (ae rfl rfl fun hC h1=>tz (r2_norm ((rr h1).zc (by first | decide | (have:=hM.out; omega))) (by first | decide | (have:=hM.out; omega)))) ?_; refine ai (hG:=(by simp only [List.mem_singleton]; omega)) f2_0 e3_0 ?_; refine aa rfl rfl (ae rfl rfl fun hC h1=>tz (r2_neg (rr h1) (by first | decide | (have:=hM.out; omega)))) ?_; refine aa rfl rfl (ap rfl rfl rfl fun hC h1 h2=>tz (r2_plusM hM ((rr h1).mono (by first | decide | (have:=hM.out; omega))) ((rr h2).mono (by first | decide | (have:=hM.out; omega))))) ?_; refine aa rfl rfl (ce R_0 e4_0 rfl rfl) ?_; exact ag rfl
 intro W x a1 hC hall ha hN1 hD1 bb1
 obtain ⟨cs,hg,hP⟩:=lr hall 5
 have e1:=ab (t:=4) ha e4_0
 repeat first | apply lk | apply ll
 refine wp_ret ?_
 repeat (refine then_r ?_)
 exact ci (t:=4) rfl hD1 e1 hg hP fun v hv=>⟨v,rfl,hv,bb1⟩
theorem r2_subM {M : Nat} (hM : Hid (M ≤ 1080)) {w : World} {v1 v2 : Value} {x y : Int} (h1 : Zr w v1 M x) (h2 : Zr w v2 M y) : Calls Tryz.prog 122 #[v1,v2] w (TellsZ w (M + 1) (x - y)):=gl (r2_sub39 hM h1 h2) (Nat.le_refl _) (by omega)
theorem io {id : Nat} {Q : Exit → Act → World → Prop} {a : Act} {w : World} (h : Q .normal a w) : Exit.inBlock id Q .normal a w:=h
theorem gn {next : Act → World → Prop} {id : Nat} {Q : Exit → Act → World → Prop} {a : Act} {w : World} (h : Q (.exit id) a w) : Exit.then next Q (.exit id) a w:=h
theorem gd {id : Nat} {Q : Exit → Act → World → Prop} {a : Act} {w : World} (h : Q .normal a w) : Exit.inBlock id Q (.exit id) a w:=by
 show (if id = id then Q .normal a w else _)
 rw [if_pos rfl]; exact h
theorem eq {P : Program} {ops : Array Oper} {Q : Exit → Act → World → Prop} {i : Nat} {rest : List Nat} {o : Oper} {a : Act} {w : World} {v : Value} (ho : ops[i]? = some o) (hg : o.guard = none) (h : (execOp a.eval o).run P w = .ok (.value v) w) (hk : wpOps P ops Q rest (a.put o.dst v) w) : wpOps P ops Q (i :: rest) a w:=by
 rw [wpOps_cons]
 unfold wpOp
 rw [ho]
 have hw : Region.wanted o (yielded ops a.tmps) = true:=by simp [Region.wanted,hg]
 show if Region.wanted o _ = true then _ else _
 rw [if_pos hw]
 left
 unfold Oper.wp
 rw [h]
 exact hk
theorem wp_incr {P : Program} {id : Nat} {Q : Exit → Act → World → Prop} {a : Act} {w : World} {A B I N : Nat} {n m : Int} {E E2 T1 T2 T3 : TypeId} {p1 p2 p3 : String} {f1 f2 f3 : Array Edge}    (hI : a.eval (.tmp I) = .int .i64 n) (hadd : ∀ w, (binOp .add E (.int .i64 n) (.int .i64 1)).run P w = .ok (.int .i64 m) w)
   (hend : ∀ x : Nat → Value,x 2 = .int .i64 m → Q .normal (putE x a [(0,some A),(1,some B),(2,some I)]) w) (hN : a.tmps.size = N:=by assumption) (hA : decide (A < N) = true:=by kernel_rfl) (hB : decide (B < N) = true:=by kernel_rfl) :
   (Code.region id #[{ dst:=some A,op:=.move (.tmp I),type:=T1,pos:=p1,after:=f1,guard:=none },{ dst:=some B,op:=.binOp .add E (.tmp A) (.const (.int .i64 1)) E2,type:=T2,pos:=p2,after:=f2,guard:=none },{ dst:=some I,op:=.assign (.tmp B),type:=T3,pos:=p3,after:=f3,guard:=none }] false).wp P Q a w:=by
 refine wp_region ?_
 have e : List.range (#[({ dst:=some A,op:=.move (.tmp I),type:=T1,pos:=p1,after:=f1,guard:=none } : Oper),{ dst:=some B,op:=.binOp .add E (.tmp A) (.const (.int .i64 1)) E2,type:=T2,pos:=p2,after:=f2,guard:=none },{ dst:=some I,op:=.assign (.tmp B),type:=T3,pos:=p3,after:=f3,guard:=none }]).size = [0,1,2]:=rfl
 rw [e]
 refine eq (v:=.int .i64 n) rfl rfl ?_ ?_
 · show (pure (Next.value (a.eval (.tmp I))) : Sem Next).run P w = _
   rw [hI]; rfl
 refine eq (v:=.int .i64 m) rfl rfl ?_ ?_
 · have e1 : (a.put (some A) (.int .i64 n)).eval (.tmp A) = .int .i64 n:=dy _ _ _ (by rw [hN]; exact of_decide_eq_true hA)
   show (((do eqGuard .add E (.tmp A) (.const (.int .i64 1)) ((a.put (some A) (.int .i64 n)).eval (.tmp A)) (.int .i64 1); binOp .add E ((a.put (some A) (.int .i64 n)).eval (.tmp A)) (.int .i64 1)) : Sem Value) >>= fun v=>pure (Next.value v)).run P w = _
   rw [e1]
   have e2 : ((do eqGuard .add E (.tmp A) (.const (.int .i64 1)) (.int .i64 n) (.int .i64 1); binOp .add E (.int .i64 n) (.int .i64 1)) : Sem Value).run P w = .ok (.int .i64 m) w:=by
     rw [bm (v:=()) (w':=w) rfl]; exact hadd w
   rw [bm e2]; rfl
 refine eq (v:=.int .i64 m) rfl rfl ?_ ?_
 · have e1 : ((a.put (some A) (.int .i64 n)).put (some B) (.int .i64 m)).eval (.tmp B) = .int .i64 m:=dy _ _ _ (by rw [ii,hN]; exact of_decide_eq_true hB)
   show (pure (Next.value (((a.put (some A) (.int .i64 n)).put (some B) (.int .i64 m)).eval (.tmp B))) : Sem Next).run P w = _
   rw [e1]; rfl
 exact hend (fun i=>if i = 0 then .int .i64 n else .int .i64 m) rfl
theorem wp_set {P : Program} {id : Nat} {Q : Exit → Act → World → Prop} {a : Act} {w : World} {I : Nat} {v : Value} {T1 : TypeId} {p1 : String} {f1 : Array Edge}
   (hend : ∀ x : Nat → Value,x 0 = v → Q .normal (putE x a [(0,some I)]) w) :
   (Code.region id #[{ dst:=some I,op:=.assign (.const v),type:=T1,pos:=p1,after:=f1,guard:=none }] false).wp P Q a w:=by
 refine wp_region ?_
 have e : List.range (#[({ dst:=some I,op:=.assign (.const v),type:=T1,pos:=p1,after:=f1,guard:=none } : Oper)]).size = [0]:=rfl
 rw [e]
 refine eq (v:=v) rfl rfl rfl ?_
 exact hend (fun _=>v) rfl
theorem wp_less {id : Nat} {Q : Exit → Act → World → Prop} {a : Act} {w : World} {A B C D I S N : Nat} {n : Int} {b : Option Addr} {m c : Nat} {U E : TypeId} {T1 T2 T3 T4 : TypeId} {p1 p2 p3 p4 : String} {f1 f2 f3 f4 : Array Edge}        (hI : a.eval (.tmp I) = .int .i64 n) (hS : a.eval (.tmp S) = .slice b m c)
   (hlen : ∀ w,(Builtin.len_ #[U] T3 #[.slice b m c]).run Tryz.prog w = .ok (.int .i64 (m : Int)) w)
   (hless : ∀ w,(binOp .lss E (.int .i64 n) (.int .i64 (m : Int))).run Tryz.prog w = .ok (.bool (decide (n < (m : Int)))) w)
   (hend : ∀ x : Nat → Value,x 3 = .bool (decide (n < (m : Int))) → Q .normal (putE x a [(0,some A),(1,some B),(2,some C),(3,some D)]) w) (hN : a.tmps.size = N:=by assumption) (hA : decide (A < N) = true:=by kernel_rfl) (hB : decide (B < N) = true:=by kernel_rfl) (hC : decide (C < N) = true:=by kernel_rfl) (hAB : decide (A = B) = false:=by kernel_rfl) (hAC : decide (A = C) = false:=by kernel_rfl) (hSA : decide (S = A) = false:=by kernel_rfl) :
   (Code.region id #[{ dst:=some A,op:=.move (.tmp I),type:=T1,pos:=p1,after:=f1,guard:=none },{ dst:=some B,op:=.move (.tmp S),type:=T2,pos:=p2,after:=f2,guard:=none },{ dst:=some C,op:=.call { callee:=.builtin .len,args:=#[.tmp B],argTypes:=#[U] },type:=T3,pos:=p3,after:=f3,guard:=none },{ dst:=some D,op:=.binOp .lss E (.tmp A) (.tmp C) E,type:=T4,pos:=p4,after:=f4,guard:=none }] false).wp Tryz.prog Q a w:=by
 refine wp_region ?_
 have e : List.range (#[({ dst:=some A,op:=.move (.tmp I),type:=T1,pos:=p1,after:=f1,guard:=none } : Oper),{ dst:=some B,op:=.move (.tmp S),type:=T2,pos:=p2,after:=f2,guard:=none },{ dst:=some C,op:=.call { callee:=.builtin .len,args:=#[.tmp B],argTypes:=#[U] },type:=T3,pos:=p3,after:=f3,guard:=none },{ dst:=some D,op:=.binOp .lss E (.tmp A) (.tmp C) E,type:=T4,pos:=p4,after:=f4,guard:=none }]).size = [0,1,2,3]:=rfl
 rw [e]
 refine eq (v:=.int .i64 n) rfl rfl ?_ ?_
 · show (pure (Next.value (a.eval (.tmp I))) : Sem Next).run _ w = _
   rw [hI]; rfl
 have nSA:=of_decide_eq_false hSA
 refine eq (v:=.slice b m c) rfl rfl ?_ ?_
 · have e1 : (a.put (some A) (.int .i64 n)).eval (.tmp S) = .slice b m c:=(put_eval_ne a _ (fun h=>nSA (by injection h with h; exact h.symm))).trans hS
   show (pure (Next.value ((a.put (some A) (.int .i64 n)).eval (.tmp S))) : Sem Next).run _ w = _
   rw [e1]; rfl
 refine eq (v:=.int .i64 (m : Int)) rfl rfl ?_ ?_
 · have e1 : ((a.put (some A) (.int .i64 n)).put (some B) (.slice b m c)).eval (.tmp B) = .slice b m c:=dy _ _ _ (by rw [ii,hN]; exact of_decide_eq_true hB); have e2 : ((#[.tmp B] : Array Operand).map ((a.put (some A) (.int .i64 n)).put (some B) (.slice b m c)).eval) = #[.slice b m c]:=by simp [e1]
   have h2:=hlen w
   show Sem.run _ (execOp (((a.put (some A) (.int .i64 n)).put (some B) (.slice b m c))).eval { dst:=some C,op:=.call { callee:=.builtin .len,args:=#[.tmp B],argTypes:=#[U] },type:=T3,pos:=p3,after:=f3,guard:=none }) w = _
   simp only [execOp,resolve,invoke,builtin,Sem.run_bind,Sem.run_pure,Result.andThen_ok,e2,h2]
 refine eq (v:=.bool (decide (n < (m : Int)))) rfl rfl ?_ ?_
 · have nAB:=of_decide_eq_false hAB; have nAC:=of_decide_eq_false hAC; have e1 : (((a.put (some A) (.int .i64 n)).put (some B) (.slice b m c)).put (some C) (.int .i64 (m : Int))).eval (.tmp C) = .int .i64 (m : Int):=dy _ _ _ (by rw [ii,ii,hN]; exact of_decide_eq_true hC)
   have e0 : (((a.put (some A) (.int .i64 n)).put (some B) (.slice b m c)).put (some C) (.int .i64 (m : Int))).eval (.tmp A) = .int .i64 n:=by
     rw [put_eval_ne _ _ (fun h=>nAC (by injection h with h; exact h.symm)),put_eval_ne _ _ (fun h=>nAB (by injection h with h; exact h.symm))]; exact dy _ _ _ (by rw [hN]; exact of_decide_eq_true hA)
   show (((do eqGuard .lss E (.tmp A) (.tmp C) ((((a.put (some A) (.int .i64 n)).put (some B) (.slice b m c)).put (some C) (.int .i64 (m : Int))).eval (.tmp A)) ((((a.put (some A) (.int .i64 n)).put (some B) (.slice b m c)).put (some C) (.int .i64 (m : Int))).eval (.tmp C)); binOp .lss E ((((a.put (some A) (.int .i64 n)).put (some B) (.slice b m c)).put (some C) (.int .i64 (m : Int))).eval (.tmp A)) ((((a.put (some A) (.int .i64 n)).put (some B) (.slice b m c)).put (some C) (.int .i64 (m : Int))).eval (.tmp C))) : Sem Value) >>= fun v=>pure (Next.value v)).run _ w = _
   rw [e0,e1]
   have e2 : ((do eqGuard .lss E (.tmp A) (.tmp C) (.int .i64 n) (.int .i64 (m : Int)); binOp .lss E (.int .i64 n) (.int .i64 (m : Int))) : Sem Value).run Tryz.prog w = .ok (.bool (decide (n < (m : Int)))) w:=by
     rw [bm (v:=()) (w':=w) rfl]; exact hless w
   rw [bm e2]; rfl
 exact hend (fun i=>if i = 0 then .int .i64 n else if i = 1 then .slice b m c else if i = 2 then .int .i64 (m : Int) else .bool (decide (n < (m : Int)))) rfl
theorem less_run (n m : Int) : ∀ w,(binOp .lss 3 (.int .i64 n) (.int .i64 m)).run Tryz.prog w = .ok (.bool (decide (n < m))) w:=fun _=>by kernel_rfl
theorem add_run (n m : Nat) (h : n + m < 9223372036854775808) : ∀ w,(binOp .add 3 (.int .i64 (n : Int)) (.int .i64 (m : Int))).run Tryz.prog w = .ok (.int .i64 ((n + m : Nat) : Int)) w:=fun w=>by
 go_simp
 rw [IntKind.wrap_i64]; omega
def reachK (es : List (List (Nat × Option Tmp))) : Nat → List Nat → List Nat
 | 0,l=>l
 | k + 1,l=>reachK es k (l ++ (l.flatMap fun i=>(es.getD i []).map (·.1)).filter fun i=>!l.contains i)
theorem reachK_all {es : List (List (Nat × Option Tmp))} {L : Nat → Bool} (n : Nat) (hn : ∀ i, i < n → ∀ p ∈ es.getD i [], p.1 < n) (hL : ∀ i, i < n → L i = true → ∀ p ∈ es.getD i [], L p.1 = true) : ∀ (k : Nat) (l : List Nat), (∀ i ∈ l, i < n ∧ L i = true) → ∀ i ∈ reachK es k l, L i = true
 | 0,_,h=>fun i hi=>(h i hi).2
 | k + 1,l,h=>by
   refine reachK_all n hn hL k _ fun i hi=>?_; rcases List.mem_append.1 hi with hi | hi
   · exact h i hi
   · obtain ⟨j,hj,hij⟩:=List.mem_flatMap.1 (List.mem_filter.1 hi).1; obtain ⟨p,hp,rfl⟩:=List.mem_map.1 hij; exact ⟨hn j (h j hj).1 p hp,hL j (h j hj).1 (h j hj).2 p hp⟩
theorem keep_not {es : List (List (Nat × Option Tmp))} {n s j : Nat} {L : Nat → Bool} (h : (reachK es 12 [s]).contains j = true) (hs : s < n) (hn : ∀ i,i < n → ∀ p ∈ es.getD i [],p.1 < n) (hL : ∀ i,i < n → L i = true → ∀ p ∈ es.getD i [],L p.1 = true) (hj : L j = false) : L s = false:=by
 cases e : L s with
 | false=>rfl
 | true =>
   have:=reachK_all n hn hL 12 [s] (fun i hi=>by rw [List.mem_singleton.1 hi]; exact ⟨hs,e⟩) j (by simpa using h); rw [hj] at this; cases this
theorem ec {P : Program} {id : Nat} {draw : Bool} {ops : Array Oper} {Q : Exit → Act → World → Prop} {a0 : Act} {W0 : World} {N : Nat} (hN : a0.tmps.size = N) (B g : Nat) {cs : Array Value} (hg : Holds_ W0 g cs) (hBg : B ≤ g) (s : Nat) (js : List Nat) (ks : List PK) (es : List (List (Nat × Option Tmp))) (all : List (Nat × Option Tmp)) (bs : List (Nat × Bool)) (sk : List Nat) (hm : P.follows .mixedOrders = true) (hchk : growOK ops (fun i => !sk.contains i) es all N = true) (hk : codesOK ks es = true) (hgu : guardOK ops bs sk = true) (hbs : bs.map (fun p => at_ ks p.1) = bs.map fun p => kIs (.bool p.2)) (hsk : sk.map (at_ ks) = sk.map fun _ => kIs undef)
   (hb : blks ks = [g]) (hsg : (at_ ks s).blk = some g) (hsk0 : sk = []) (hsn : decide (s < ops.size) = true) (hjs : js.all (fun j=>(reachK es 12 [s]).contains j) = true) (hB0 : B ≤ W0.heap.size) (hs : PkFromL P ops es sk B W0 g ks a0 js 0) (hend : ∀ w' x,Reg B W0 [g] w' → (∀ i,i < ops.size → (at_ ks i).sem W0.heap.size x (x i) w') → Q .normal (putE x a0 all) w') : (Code.region id ops draw).wp P Q a0 W0:=by
 subst hN
 have hn : (blks ks).Nodup:=by rw [hb]; exact List.nodup_cons.2 ⟨by simp,List.nodup_nil⟩
 have hops:=hchk
 unfold growOK at hops
 simp only [Bool.and_eq_true,decide_eq_true_eq] at hops
 have hlt : ∀ i,i < ops.size → ∀ p ∈ es.getD i [],p.1 < ops.size:=fun i hi p hp=>by
   have h:=List.all_eq_true.1 hops.2 i (List.mem_range.2 hi); rw [Array.getElem?_eq_getElem hi] at h; simp only [Bool.and_eq_true] at h; have:=List.all_eq_true.1 h.1.2 p hp; simp only [Bool.and_eq_true,decide_eq_true_eq] at this; exact this.1.2
 refine wp_region_pkE B ks es all bs sk hm hchk hk hgu hbs hsk hn ?_ hB0 ?_ (fun L w=>(L s = false → w.heap[g]? = W0.heap[g]?) ∧ ∀ i,i < ops.size → sk.contains i = false → L i = true → ∀ p ∈ es.getD i [],L p.1 = true) ?_ ?_ ?_ ?_
 · rw [hb]; intro g' hg'; rw [List.mem_singleton.1 hg']; exact hBg
 · rw [hb]; intro g' hg'; rw [List.mem_singleton.1 hg']; exact ⟨_,hg⟩
 · intro W' hW'; refine ⟨fun _=>?_,fun i hi _ h=>absurd (of_decide_eq_true h) (by omega)⟩; rcases hW' with rfl | rfl <;> rfl
 · intro i hil L x v w w' hE hR hi hd hmv; refine ⟨fun hL=>?_,fun k hk1 hk2 hk3 p hp=>?_⟩
   · have hne : s ≠ i:=fun h=>by rw [h,db] at hL; cases hL
     rw [cg _ _ hne] at hL; have hw:=hE.1 hL; have hgw : g < w.heap.size:=Nat.lt_of_lt_of_le hg.lt hR.below.size; refine Eq.trans ?_ hw
     cases e : at_ ks i with
     | p f k1 k2=>rw [e] at hmv; exact hmv.block g hgw
     | fresh n=>rw [e] at hmv; exact hmv.1.block g hgw
     | list n f k1 k2=>rw [e] at hmv; exact hmv.1.block g hgw
     | same e1=>rw [e] at hmv; exact hmv.block g hgw
     | cell g' f k1 k2 =>
       rw [e] at hmv; refine hmv.other g fun h=>hne (blk_inj hn (i:=s) (j:=i) (g:=g) hsg ?_); rw [e,h]; rfl
     | put n f k1 k2 =>
       rw [e] at hmv; obtain ⟨g',_,hg',hst⟩:=hmv; refine hst.other g fun h=>?_; have:=hg.lt; omega
   · by_cases e : k = i
     · subst e
       by_cases e2 : p.1 = k
       · rw [e2,db]
       · rw [cg _ _ e2]; exact hd hk2 p hp
     · rw [cg _ _ e] at hk3
       by_cases e2 : p.1 = i
       · rw [e2,db]
       · rw [cg _ _ e2]; exact hE.2 k hk1 hk2 hk3 p hp
 · intro i o ho hsi L hi w x hC; rw [hb] at hC; exact hs i o (Nat.zero_le _) ho hsi w x ⟨hC.1,fun hj=>hC.2.1 (keep_not (List.all_eq_true.1 hjs i (by simpa using hj)) (of_decide_eq_true hsn) hlt (fun k hk h p hp=>hC.2.2 k hk (by rw [hsk0]; rfl) h p hp) hi)⟩
 · rw [hb]; exact hend
theorem Wk9 {P : Program} {id : Nat} {draw : Bool} {ops : Array Oper} {next : Act → World → Prop} {Q : Exit → Act → World → Prop} {a0 : Act} {w W0 : World} {N g : Nat} {cs : Array Value} (bb : Below w.heap.size w W0) (hg : Holds_ W0 g cs) (s : Nat) (js : List Nat) (ks : List PK) (el : List (List Nat)) (sl : List Nat) (bs : List (Nat × Bool)) (sk : List Nat) (lr : PkFromL P ops (Ez9 sl el) sk w.heap.size W0 g ks a0 js 0) (hend : ∀ w' x a1, Reg w.heap.size W0 [g] w' → (∀ i, i < ops.size → (at_ ks i).sem W0.heap.size x (x i) w') → a1 = putE x a0 (Az9 0 sl) → a1.tmps.size = N → a1.defers = [] → Below w.heap.size w w' → next a1 w')
   (hN : a0.tmps.size = N:=by assumption) (hD : a0.defers = []:=by assumption) (hBg : w.heap.size ≤ g:=by omega) (hm : P.follows .mixedOrders = true:=by kernel_rfl) (hchk : growOK ops (fun i=>!sk.contains i) (Ez9 sl el) (Az9 0 sl) N = true:=by kernel_rfl) (hk : codesOK ks (Ez9 sl el) = true:=by kernel_rfl) (hgu : guardOK ops bs sk = true:=by kernel_rfl) (hbs : bs.map (fun p=>at_ ks p.1) = bs.map fun p=>kIs (.bool p.2):=by kernel_rfl) (hsk : sk.map (at_ ks) = sk.map fun _=>kIs undef:=by kernel_rfl) (hb : blks ks = [g]:=by kernel_rfl) (hsg : (at_ ks s).blk = some g:=by exact rfl) (hsk0 : sk = []:=by exact rfl) (hsn : decide (s < ops.size) = true:=by kernel_rfl) (hjs : js.all (fun j=>(reachK (Ez9 sl el) 12 [s]).contains j) = true:=by kernel_rfl) : (Code.region id ops draw).wp P (Exit.then next Q) a0 W0 :=
 ec hN w.heap.size g hg hBg s js ks (Ez9 sl el) (Az9 0 sl) bs sk hm hchk hk hgu hbs hsk hb hsg hsk0 hsn hjs bb.size lr fun w' x h1 h2=>then_n (hend w' x _ h1 h2 rfl (size_behind rfl hN) (defers_behind rfl hD) (bb.trans h1.below))
def qsum (l : List (Nat × Int)) : Int:=(l.map (·.2)).foldl (· + ·) 0
def qprod (l : List (Nat × Int)) : Int:=(l.map (·.2)).foldl (· * ·) 1
theorem qsum_take {l : List (Nat × Int)} {i : Nat} {q : Nat × Int} (hq : l[i]? = some q) : qsum (l.take (i + 1)) = qsum (l.take i) + q.2:=by
 unfold qsum
 rw [List.take_add_one,hq]
 simp
theorem qprod_take {l : List (Nat × Int)} {i : Nat} {q : Nat × Int} (hq : l[i]? = some q) : qprod (l.take (i + 1)) = qprod (l.take i) * q.2:=by
 unfold qprod
 rw [List.take_add_one,hq]
 simp
theorem Zr.tight {W : World} {v : Value} {j k : Nat} {z : Int} (h : Zr W v j z) (hz : z.natAbs < 1000000000 ^ k) : Zr W v k z:=by
 obtain ⟨A,l,c,e,hr,_⟩:=h
 exact ⟨A,l,c,e,hr,hz⟩
theorem LocR.tight {W : World} {g j k : Nat} {z : Int} (h : LocR W g j z) (hz : z.natAbs < 1000000000 ^ k) : LocR W g k z:=by
 obtain ⟨A,l,c,hh,hr⟩:=h
 exact ⟨A,l,c,hh,hr.tight hz⟩
theorem LocR.up {W : World} {g j k : Nat} {z : Int} (h : LocR W g j z) (hk : j ≤ k) : LocR W g k z:=by
 obtain ⟨A,l,c,hh,hr⟩:=h
 exact ⟨A,l,c,hh,hr.mono hk⟩
theorem res_locR {S0 : Nat} {x : Nat → Value} {v : Value} {w : World} {g k : Nat} {z : Int} (h : (kResZ g k z).sem S0 x v w) : LocR w g k z:=by
 obtain ⟨cs,hg,A,l,c,e,hr⟩:=h
 subst e
 exact ⟨A,l,c,hg,hr⟩
theorem run_loadInt {w : World} {g o : Nat} {u v : Value} (h0 : w.cell? ⟨g,o,none⟩ = some u) (h1 : w.cell? ⟨g,o + 1,none⟩ = some v) : (Instr.loadAt 24 (.pointer (some ⟨g,o,none⟩))).run Tryz.prog w = .ok (.agg #[u,v]) w:=by go_simp
theorem len_runI (b : Option Addr) (m c : Nat) (T : TypeId) : ∀ w,(Builtin.len_ #[ 53 ] T #[.slice b m c]).run Tryz.prog w = .ok (.int .i64 (m : Int)) w:=fun _=>by kernel_rfl
section
variable {G : List Nat} {C : World → Prop} {S0 B : Nat} {ks : List PK} {a0 : Act} {i : Nat} {N : Nat} {W0 : World} {T : TypeId} {pos : String} {af : Array Edge} {gu : Option (Nat × Bool)}
theorem gw {d t g k : Nat} {z : Int} (hl : AtR W0 g 0 k z) (hp : a0.eval (.tmp t) = .pointer (some ⟨g,0,none⟩))   (hi : at_ ks i = kZ k z) (hN : a0.tmps.size = N:=by assumption) (hd : decide (d < N) = true:=by kernel_rfl) :
   PkStep Tryz.prog (fun w=>Reg B W0 [g] w ∧ w.heap[g]? = W0.heap[g]?) S0 ks a0 i { dst:=some d,op:=.load 24 (.tmp t),type:=T,pos:=pos,after:=af,guard:=gu } []:=by
 intro w x hC K hK
 obtain ⟨A,m,c,h1,h2,hz⟩:=il hC hl
 refine bj (w':=w) rfl hN hd (ex_load hp (run_loadInt h1 h2)) (hK _ _ ?_ ?_)
 · rw [hi]; exact Below.refl _ _
 · rw [hi]; exact hz
theorem st_loadKS {d t j g k : Nat} {z : Int} (hl : AtR W0 g 0 k z)    (hj : at_ ks j = kIs (.pointer (some ⟨g,0,none⟩))) (hi : at_ ks i = kIs (.bool (decide (z < 0)))) (hN : a0.tmps.size = N:=by assumption) (hd : decide (d < N) = true:=by kernel_rfl) (ht : decide (t < N) = true:=by kernel_rfl) :
   PkStep Tryz.prog (fun w=>Reg B W0 [g] w ∧ w.heap[g]? = W0.heap[g]?) S0 ks a0 i { dst:=some d,op:=.load 4 (.tmp t),type:=T,pos:=pos,after:=af,guard:=gu } [(j,some t)]:=by
 intro w x hC
 refine aw _ fun hdeps K hK=>?_
 have g1:=hdeps (j,some t) (by simp)
 rw [hj] at g1
 have e1 : (putE x a0 [(j,some t)]).eval (.tmp t) = x j:=putE_new _ _ (by rw [hN]; exact of_decide_eq_true ht) (by simp [slotAt])
 obtain ⟨A,m,c,h1,h2,hz⟩:=il hC hl
 refine bj (w':=w) rfl (by rw [ax,hN]) hd (ex_load (e1.trans g1) (run_loadS h1)) (hK _ _ ?_ ?_)
 · rw [hi]; exact Below.refl _ _
 · rw [hi]; rfl
theorem st_loadKRow {d t j g k : Nat} {z : Int} (hl : AtR W0 g 0 k z)    (hj : at_ ks j = kIs (.pointer (some ⟨g,1,none⟩))) (hi : at_ ks i = kRow z) (hN : a0.tmps.size = N:=by assumption) (hd : decide (d < N) = true:=by kernel_rfl) (ht : decide (t < N) = true:=by kernel_rfl) :
   PkStep Tryz.prog (fun w=>Reg B W0 [g] w ∧ w.heap[g]? = W0.heap[g]?) S0 ks a0 i { dst:=some d,op:=.load 22 (.tmp t),type:=T,pos:=pos,after:=af,guard:=gu } [(j,some t)]:=by
 intro w x hC
 refine aw _ fun hdeps K hK=>?_
 have g1:=hdeps (j,some t) (by simp)
 rw [hj] at g1
 have e1 : (putE x a0 [(j,some t)]).eval (.tmp t) = x j:=putE_new _ _ (by rw [hN]; exact of_decide_eq_true ht) (by simp [slotAt])
 obtain ⟨A,m,c,h1,h2,A',m',c',e,hr,_⟩:=il hC hl
 injection e with e; injection e with e; injection e with _ e; injection e with e _; injection e with q1 q2 q3
 subst q1; subst q2; subst q3
 refine bj (w':=w) rfl (by rw [ax,hN]) hd (ex_load (e1.trans g1) (run_loadRow h2)) (hK _ _ ?_ ?_)
 · rw [hi]; exact Below.refl _ _
 · rw [hi]; exact hr
end
theorem zOf_mul (x y : Int) : zOf (x.natAbs * y.natAbs) (decide (x < 0) != decide (y < 0)) = x * y:=by
 unfold zOf
 have e:=Int.natAbs_mul x y
 have hx : x < 0 ∨ 0 ≤ x:=by omega
 have hy : y < 0 ∨ 0 ≤ y:=by omega
 rcases hx with hx | hx <;> rcases hy with hy | hy
 · have h:=Int.mul_pos_of_neg_of_neg hx hy; simp [hx,hy]; rw [← Int.natCast_mul,← e]; omega
 · have h:=Int.mul_nonpos_of_nonpos_of_nonneg (Int.le_of_lt hx) hy; have hy' : ¬ y < 0:=by omega
   simp [hx,hy']; rw [← Int.natCast_mul,← e]; omega
 · have h:=Int.mul_nonpos_of_nonneg_of_nonpos hx (Int.le_of_lt hy); have hx' : ¬ x < 0:=by omega
   simp [hx',hy]; rw [← Int.natCast_mul,← e]; omega
 · have h:=Int.mul_nonneg hx hy; have hx' : ¬ x < 0:=by omega
   have hy' : ¬ y < 0:=by omega
   simp [hx',hy']; rw [← Int.natCast_mul,← e]; omega
theorem loc_lt {W : World} {g k : Nat} {z : Int} (h : LocR W g k z) : g < W.heap.size:=by
 obtain ⟨A,m,c,hh,_⟩:=h
 exact hh.lt
theorem locG {B : Nat} {W0 w : World} {G : List Nat} (h : Reg B W0 G w) {g k : Nat} {z : Int} (hg : g ∉ G) (hl : LocR W0 g k z) : LocR w g k z:=by
 obtain ⟨A,m,c,hh,A',m',c',e,hr,hz⟩:=hl
 exact ⟨A,m,c,h.holdsG hg hh,A',m',c',e,h.rr hr,hz⟩
def kLen (z : Int) : PK:=.p (fun v _=>∃ k : Nat,v = .int .i64 (k : Int) ∧ (k = 0 ↔ z = 0)) (fun _ _ _ h _=>h) (fun _ _ _ _ h _=>h)
def kRRB (a b : Int) : PK:=.p (fun v w=>∃ u u',v = .tuple #[u,u',.bool true] ∧ Rr w u a.natAbs ∧ Rr w u' b.natAbs) (fun _ _ _ ⟨u,u',h1,h2,h3⟩ hb=>⟨u,u',h1,h2.below hb,h3.below hb⟩) (fun _ _ _ _ ⟨u,u',h1,h2,h3⟩ hs=>⟨u,u',h1,hs.rr h2,hs.rr h3⟩)
theorem ext_d0 {S0 : Nat} {a b : Int} : ∀ w x v,(kRRB a b).sem S0 x v w → ∃ vs u,v = .tuple vs ∧ vs[0]? = some u ∧ (kRow a).move S0 x u w w ∧ (kRow a).sem S0 x u w:=fun _ _ _ ⟨u,_,h1,h2,_⟩=>⟨_,u,h1,rfl,Below.refl _ _,h2⟩
theorem ext_d1 {S0 : Nat} {a b : Int} : ∀ w x v,(kRRB a b).sem S0 x v w → ∃ vs u,v = .tuple vs ∧ vs[1]? = some u ∧ (kRow b).move S0 x u w w ∧ (kRow b).sem S0 x u w:=fun _ _ _ ⟨_,u,h1,_,h2⟩=>⟨_,u,h1,rfl,Below.refl _ _,h2⟩
theorem ext_d2 {S0 : Nat} {a b : Int} : ∀ w x v,(kRRB a b).sem S0 x v w → ∃ vs u,v = .tuple vs ∧ vs[2]? = some u ∧ (kIs (.bool true)).move S0 x u w w ∧ (kIs (.bool true)).sem S0 x u w:=fun _ _ _ ⟨_,_,h1,_,_⟩=>⟨_,_,h1,rfl,Below.refl _ _,rfl⟩
theorem r1_div {w : World} {v1 v2 : Value} {n1 n2 N : Nat} (h1 : Rr w v1 n1) (h2 : Rr w v2 n2) (hn1 : n1 < 1000000000 ^ N) (hn2 : n2 < 1000000000 ^ N) (hN : N ≤ 1100) (h0 : 0 < n2) {S0 : Nat} {x : Nat → Value} : Calls Tryz.prog 110 #[v1,v2] w (Told (kRRB ((n1 / n2 : Nat) : Int) ((n1 % n2 : Nat) : Int)) S0 x w):=by
 obtain ⟨A1,k1,c1,rfl⟩:=h1.shape
 obtain ⟨A2,k2,c2,rfl⟩:=h2.shape
 exact (vr_div h1 h2 hn1 hn2 hN h0).mono fun e w' ⟨A,k,c,B,j,d,he,hq,hr,hb⟩=>⟨_,he,hb,_,_,rfl,hq,hr⟩
theorem run_lenRow {w : World} {A : Option Addr} {l c : Nat} (T : TypeId) : (Builtin.len_ #[ 22 ] T #[.slice A l c]).run Tryz.prog w = .ok (.int .i64 (l : Int)) w:=by kernel_rfl
section
variable {G : List Nat} {C : World → Prop} {S0 B : Nat} {ks : List PK} {a0 : Act} {i : Nat} {N : Nat} {W0 : World} {T : TypeId} {pos : String} {af : Array Edge} {gu : Option (Nat × Bool)}
theorem ge {d t j : Nat} {z : Int}    (hj : at_ ks j = kRow z) (hi : at_ ks i = kLen z) (hN : a0.tmps.size = N:=by assumption) (hd : decide (d < N) = true:=by kernel_rfl) (ht : decide (t < N) = true:=by kernel_rfl) :
   PkStep Tryz.prog C S0 ks a0 i { dst:=some d,op:=.call { callee:=.builtin .len,args:=#[.tmp t],argTypes:=#[ 22 ] },type:=T,pos:=pos,after:=af,guard:=gu } [(j,some t)]:=by
 intro w x hC
 refine aw _ fun hdeps K hK=>?_
 have g1:=hdeps (j,some t) (by simp)
 rw [hj] at g1
 have g1' : Rr w (x j) z.natAbs:=g1
 obtain ⟨A,l,c,hx⟩:=g1'.shape
 rw [hx] at g1'
 have hk:=(rr_len g1').1
 have e1 : (putE x a0 [(j,some t)]).eval (.tmp t) = x j:=putE_new _ _ (by rw [hN]; exact of_decide_eq_true ht) (by simp [slotAt])
 refine bj (v:=.int .i64 (l : Int)) (w':=w) rfl (by rw [ax,hN]) hd ?_ (hK _ _ ?_ ?_)
 · have e2 : ((#[.tmp t] : Array Operand).map (putE x a0 [(j,some t)]).eval) = #[.slice A l c]:=by simp only [List.map_toArray,List.map_cons,List.map_nil,e1,hx]
   have h2:=run_lenRow (w:=w) (A:=A) (l:=l) (c:=c) T; simp only [execOp,resolve,invoke,builtin,Sem.run_bind,Sem.run_pure,Result.andThen_ok,e2,h2]
 · rw [hi]; exact Below.refl _ _
 · rw [hi]; exact ⟨l,rfl,by rw [hk]; omega⟩
theorem len_eq (k : Nat) : ∀ w,(binOp .eql 3 (.int .i64 (k : Int)) (.int .i64 0)).run Tryz.prog w = .ok (.bool (decide ((k : Int) = 0))) w:=fun _=>by kernel_rfl
theorem len_gt (k : Nat) : ∀ w,(binOp .gtr 3 (.int .i64 (k : Int)) (.int .i64 0)).run Tryz.prog w = .ok (.bool (decide (0 < (k : Int)))) w:=fun _=>by kernel_rfl
theorem st_len0 {d t j : Nat} {z : Int} {b : Bool} (hb : decide (z = 0) = b)    (hj : at_ ks j = kLen z) (hi : at_ ks i = kIs (.bool b)) (hN : a0.tmps.size = N:=by assumption) (hd : decide (d < N) = true:=by kernel_rfl) (ht : decide (t < N) = true:=by kernel_rfl) :
   PkStep Tryz.prog C S0 ks a0 i { dst:=some d,op:=.binOp .eql 3 (.tmp t) (.const (.int .i64 0)) 3,type:=T,pos:=pos,after:=af,guard:=gu } [(j,some t)]:=by
 intro w x hC
 refine aw _ fun hdeps K hK=>?_
 have g1:=hdeps (j,some t) (by simp)
 rw [hj] at g1
 obtain ⟨k,hx,hk⟩:=(show ∃ k : Nat,x j = .int .i64 (k : Int) ∧ (k = 0 ↔ z = 0) from g1)
 have e1 : (putE x a0 [(j,some t)]).eval (.tmp t) = x j:=putE_new _ _ (by rw [hN]; exact of_decide_eq_true ht) (by simp [slotAt])
 have e3 : decide ((k : Int) = 0) = b:=by rw [← hb]; exact decide_eq_decide.2 (by omega)
 refine bj (v:=.bool b) (w':=w) rfl (by rw [ax,hN]) hd ?_ (hK _ _ ?_ ?_)
 · show (((do eqGuard .eql 3 (.tmp t) (.const (.int .i64 0)) ((putE x a0 [(j,some t)]).eval (.tmp t)) (.int .i64 0); binOp .eql 3 ((putE x a0 [(j,some t)]).eval (.tmp t)) (.int .i64 0)) : Sem Value) >>= fun v=>pure (Next.value v)).run _ w = _
   rw [e1,hx]
   have e2 : ((do eqGuard .eql 3 (.tmp t) (.const (.int .i64 0)) (.int .i64 (k : Int)) (.int .i64 0); binOp .eql 3 (.int .i64 (k : Int)) (.int .i64 0)) : Sem Value).run Tryz.prog w = .ok (.bool b) w:=by
     rw [bm (v:=()) (w':=w) rfl,len_eq,e3]
   rw [bm e2]; rfl
 · rw [hi]; exact Below.refl _ _
 · rw [hi]; rfl
theorem st_lenG {d t j : Nat} {z : Int} {b : Bool} (hb : decide (z ≠ 0) = b)    (hj : at_ ks j = kLen z) (hi : at_ ks i = kIs (.bool b)) (hN : a0.tmps.size = N:=by assumption) (hd : decide (d < N) = true:=by kernel_rfl) (ht : decide (t < N) = true:=by kernel_rfl) :
   PkStep Tryz.prog C S0 ks a0 i { dst:=some d,op:=.binOp .gtr 3 (.tmp t) (.const (.int .i64 0)) 3,type:=T,pos:=pos,after:=af,guard:=gu } [(j,some t)]:=by
 intro w x hC
 refine aw _ fun hdeps K hK=>?_
 have g1:=hdeps (j,some t) (by simp)
 rw [hj] at g1
 obtain ⟨k,hx,hk⟩:=(show ∃ k : Nat,x j = .int .i64 (k : Int) ∧ (k = 0 ↔ z = 0) from g1)
 have e1 : (putE x a0 [(j,some t)]).eval (.tmp t) = x j:=putE_new _ _ (by rw [hN]; exact of_decide_eq_true ht) (by simp [slotAt])
 have e3 : decide (0 < (k : Int)) = b:=by rw [← hb]; exact decide_eq_decide.2 (by omega)
 refine bj (v:=.bool b) (w':=w) rfl (by rw [ax,hN]) hd ?_ (hK _ _ ?_ ?_)
 · show (((do eqGuard .gtr 3 (.tmp t) (.const (.int .i64 0)) ((putE x a0 [(j,some t)]).eval (.tmp t)) (.int .i64 0); binOp .gtr 3 ((putE x a0 [(j,some t)]).eval (.tmp t)) (.int .i64 0)) : Sem Value) >>= fun v=>pure (Next.value v)).run _ w = _
   rw [e1,hx]
   have e2 : ((do eqGuard .gtr 3 (.tmp t) (.const (.int .i64 0)) (.int .i64 (k : Int)) (.int .i64 0); binOp .gtr 3 (.int .i64 (k : Int)) (.int .i64 0)) : Sem Value).run Tryz.prog w = .ok (.bool b) w:=by
     rw [bm (v:=()) (w':=w) rfl,len_gt,e3]
   rw [bm e2]; rfl
 · rw [hi]; exact Below.refl _ _
 · rw [hi]; rfl
end
theorem kw {fn : Func} {R : Ending → World → Prop} {a : Act} {w : World} {t t' u g g' k k' : Nat} {x y : Int} {V : Value} (hres : fn.results = #[.cell t 24,.cell t' 24,.tmp u]) (hd : a.defers = []) (hp : a.eval (.tmp t) = .pointer (some ⟨g,0,none⟩)) (hp2 : a.eval (.tmp t') = .pointer (some ⟨g',0,none⟩)) (hu : a.eval (.tmp u) = V) (h1 : LocR w g k x) (h2 : LocR w g' k' y) (hR : ∀ v v',Zr w v k x → Zr w v' k' y → R (.returned (.tuple #[v,v',V])) w) : bodyPost Tryz.prog fn R .ret a w:=by
 obtain ⟨A,l,c,hg,h⟩:=h1
 obtain ⟨A',l',c',hg',h'⟩:=h2
 obtain ⟨m1,m2,_,_⟩:=hg.two'
 obtain ⟨m3,m4,_,_⟩:=hg'.two'
 refine bodyPost_ret (v:=.tuple #[.agg #[.bool (decide (x < 0)),.slice A l c],.agg #[.bool (decide (y < 0)),.slice A' l' c'],V]) ?_ hd (hR _ _ h h')
 have hp' : a.tmps[t]?.getD undef = .pointer (some ⟨g,0,none⟩):=by
   rw [← Array.getD_eq_getD_getElem?]; exact hp
 have hp2' : a.tmps[t']?.getD undef = .pointer (some ⟨g',0,none⟩):=by
   rw [← Array.getD_eq_getD_getElem?]; exact hp2
 have hu' : a.tmps[u]?.getD undef = V:=by
   rw [← Array.getD_eq_getD_getElem?]; exact hu
 simp [results,hres,go_sem,hp',hp2',hu',m1,m2,m3,m4]
theorem rest0 (x y : Int) : x - zOf (x.natAbs / y.natAbs) (decide (x < 0) != decide (y < 0)) * y = zOf (x.natAbs % y.natAbs) (decide (x < 0)):=by
 have e:=Nat.div_add_mod x.natAbs y.natAbs
 obtain ⟨Q,hQ⟩ : ∃ Q,Q = x.natAbs / y.natAbs:=⟨_,rfl⟩
 obtain ⟨R,hR⟩ : ∃ R,R = x.natAbs % y.natAbs:=⟨_,rfl⟩
 rw [← hQ,← hR] at e
 rw [← hQ,← hR]
 obtain ⟨p,hp⟩ : ∃ p : Nat,p = y.natAbs * Q:=⟨_,rfl⟩
 rw [← hp] at e
 have h1 : (Q : Int) * (y.natAbs : Int) = (p : Int):=by rw [hp,Int.natCast_mul,Int.mul_comm]
 clear hQ hR hp
 unfold zOf
 have hx : x < 0 ∨ 0 ≤ x:=by omega
 have hy : y < 0 ∨ 0 ≤ y:=by omega
 rcases hy with hy | hy
 · have h2 : (Q : Int) * y = -(p : Int):=by
     have h3 : y = -(y.natAbs : Int):=by omega
     obtain ⟨m,hm⟩ : ∃ m,m = y.natAbs:=⟨_,rfl⟩
     rw [← hm] at h1 h3; rw [h3,Int.mul_neg,h1]
   rcases hx with hx | hx
   · simp [hx,hy]; omega
   · have hx' : ¬ x < 0:=by omega
     simp [hx',hy,Int.neg_mul]; omega
 · have h2 : (Q : Int) * y = (p : Int):=by
     have h3 : y = (y.natAbs : Int):=by omega
     obtain ⟨m,hm⟩ : ∃ m,m = y.natAbs:=⟨_,rfl⟩
     rw [← hm] at h1 h3; rw [h3,h1]
   have hy' : ¬ y < 0:=by omega
   rcases hx with hx | hx
   · simp [hx,hy',Int.neg_mul]; omega
   · have hx' : ¬ x < 0:=by omega
     simp [hx',hy']; omega
def Nv (W : World) (v : Value) (b : Bool) (xs : List Nat) : Prop:=∃ A c,v = .agg #[.bool b,.slice A xs.length c] ∧ Row W A (u32s xs)
def Qv (W : World) (v : Value) (b : Bool) (xs : List Nat) (b' : Bool) (ys : List Nat) : Prop:=∃ A c A' c',v = .agg #[.bool b,.slice A xs.length c,.bool b',.slice A' ys.length c'] ∧ Row W A (u32s xs) ∧ Row W A' (u32s ys)
theorem Nv.below {W W' : World} {v : Value} {b : Bool} {xs : List Nat} (h : Nv W v b xs) (hb : Below W.heap.size W W') : Nv W' v b xs:=by
 obtain ⟨A,c,h1,h2⟩:=h
 exact ⟨A,c,h1,h2.below hb⟩
theorem Qv.below {W W' : World} {v : Value} {b b' : Bool} {xs ys : List Nat} (h : Qv W v b xs b' ys) (hb : Below W.heap.size W W') : Qv W' v b xs b' ys:=by
 obtain ⟨A,c,A',c',h1,h2,h3⟩:=h
 exact ⟨A,c,A',c',h1,h2.below hb,h3.below hb⟩
theorem Nv.stored {W W' : World} {g : Nat} {v : Value} {b : Bool} {xs : List Nat} (h : Nv W v b xs) (hs : Stored g W W') : Nv W' v b xs:=by
 obtain ⟨A,c,h1,h2⟩:=h
 exact ⟨A,c,h1,Stored.row h2 hs⟩
theorem Qv.stored {W W' : World} {g : Nat} {v : Value} {b b' : Bool} {xs ys : List Nat} (h : Qv W v b xs b' ys) (hs : Stored g W W') : Qv W' v b xs b' ys:=by
 obtain ⟨A,c,A',c',h1,h2,h3⟩:=h
 exact ⟨A,c,A',c',h1,Stored.row h2 hs,Stored.row h3 hs⟩
def kN (b : Bool) (xs : List Nat) : PK:=.p (fun v w=>Nv w v b xs) (fun _ _ _ h hb=>h.below hb) (fun _ _ _ _ h hs=>h.stored hs)
def kQ (b : Bool) (xs : List Nat) (b' : Bool) (ys : List Nat) : PK:=.p (fun v w=>Qv w v b xs b' ys) (fun _ _ _ h hb=>h.below hb) (fun _ _ _ _ h hs=>h.stored hs)
theorem Qv.two {W : World} {A A' : Option Addr} {l c l' c' : Nat} {s s' b b' : Bool} {xs ys : List Nat} (h : Qv W (.agg #[.bool s,.slice A l c,.bool s',.slice A' l' c']) b xs b' ys) : Nv W (.agg #[.bool s,.slice A l c]) b xs ∧ Nv W (.agg #[.bool s',.slice A' l' c']) b' ys:=by
 obtain ⟨B,d,B',d',e,h1,h2⟩:=h
 injection e with e; injection e with e
 injection e with e0 e; injection e with e1 e; injection e with e2 e; injection e with e3 _
 injection e0 with e0; injection e2 with e2; injection e1 with q1 q2 q3; injection e3 with q4 q5 q6
 subst e0; subst e2; subst q1; subst q2; subst q3; subst q4; subst q5; subst q6
 exact ⟨⟨A,c,rfl,h1⟩,⟨A',c',rfl,h2⟩⟩
theorem sign_of {b : Bool} {xs : List Nat} (h : right xs) (h0 : xs = [] → b = false) : decide (zOf (val xs) b < 0) = b:=by
 rw [dj]; unfold sgn
 cases b with
 | false=>rfl
 | true =>
   refine decide_eq_true fun e=>?_; have hne : xs ≠ []:=fun h1=>by have:=h0 h1; cases this
   have h2:=fq h hne; have h3 : 0 < 1000000000 ^ (xs.length - 1):=Nat.pow_pos (by decide); omega
theorem Nv.zr {W : World} {v : Value} {b : Bool} {xs : List Nat} (h : Nv W v b xs) (hs : small 4294967296 xs) (hl : xs.length ≤ 8) (hr : right xs) (h0 : xs = [] → b = false) : Zr W v 9 (zOf (val xs) b):=by
 obtain ⟨A,c,rfl,h2⟩:=h
 exact ⟨A,_,c,by rw [sign_of hr h0],by rw [bg]; exact ⟨_,_,xs,rfl,h2,hr,by omega,rfl⟩,by rw [bg]; exact Nat.lt_of_lt_of_le (val_lt32 hs) (pow_le (by omega))⟩
def RN (b : Bool) (xs : List Nat) : Prop:=right xs ∧ (xs = [] → b = false)
theorem r2_right_no {w : World} {v : Value} {b : Bool} {xs : List Nat} (h : Nv w v b xs) (hs : small 4294967296 xs) (hl : xs.length ≤ 8) (hn : ¬ RN b xs) : Calls Tryz.prog 70 #[v] w (SaysB w false):=by
 obtain ⟨A,c,rfl,hr⟩:=h
 have hR:=fun (W : World) (hW : Below w.heap.size w W)=>refRight (c:=c) (hr.below hW) hs (by omega)
 have HR:=Lib.hid hR
 clear hR hr hs hl
 by_cases h1 : right xs
 · have h2 : xs = [] ∧ b = true:=by
     refine Classical.byContradiction fun h3=>hn ⟨h1,fun h4=>?_⟩
     cases b with
     | false=>rfl
     | true=>exact absurd ⟨h4,rfl⟩ h3
   obtain ⟨rfl,rfl⟩:=h2; have H1:=Lib.hid h1; clear hn h1
   go_enter Tryz.func70,Tryz.ntmps70
   go_wp2_with fail
   refine (HR.out _ (bal (Below.refl _ _) _)).mono ?_; rintro e w1 ⟨he,rfl⟩
   obtain rfl : e = .returned (.bool true):=by
     rcases he with ⟨_,he⟩ | ⟨hn,_⟩
     · exact he
     · exact absurd H1.out hn
   clear he
   go_wp2
   go_ret
   exact ⟨rfl,bal (Below.refl _ _) _⟩
 · have H1:=Lib.hid h1; clear hn h1
   go_enter Tryz.func70,Tryz.ntmps70
   go_wp2_with fail
   refine (HR.out _ (bal (Below.refl _ _) _)).mono ?_; rintro e w1 ⟨he,rfl⟩
   obtain rfl : e = .returned (.bool false):=by
     rcases he with ⟨hn,_⟩ | ⟨_,he⟩
     · exact absurd hn H1.out
     · exact he
   clear he
   go_wp2
   go_ret
   exact ⟨rfl,bal (Below.refl _ _) _⟩
def LocQ (W : World) (g : Nat) (b : Bool) (xs : List Nat) (b' : Bool) (ys : List Nat) : Prop:=∃ A c A' c',Holds_ W g #[.bool b,.slice A xs.length c,.bool b',.slice A' ys.length c'] ∧ Row W A (u32s xs) ∧ Row W A' (u32s ys)
theorem Reg.locQ {B : Nat} {W0 w : World} {G : List Nat} (h : Reg B W0 G w) {g : Nat} (hg : g ∉ G) {b b' : Bool} {xs ys : List Nat} (hl : LocQ W0 g b xs b' ys) : LocQ w g b xs b' ys:=by
 obtain ⟨A,c,A',c',h1,h2,h3⟩:=hl
 exact ⟨A,c,A',c',h.holdsG hg h1,h.row h2,h.row h3⟩
section
variable {G : List Nat} {S0 B : Nat} {ks : List PK} {a0 : Act} {i : Nat} {N : Nat} {W0 : World} {T : TypeId} {pos : String} {af : Array Edge} {gu : Option (Nat × Bool)} {b b' : Bool} {xs ys : List Nat}
theorem st_loadQ {d t g : Nat} (hl : LocQ W0 g b xs b' ys)  (hp : a0.eval (.tmp t) = .pointer (some ⟨g,0,none⟩))   (hi : at_ ks i = kQ b xs b' ys) (hG : g ∉ G:=by simp) (hN : a0.tmps.size = N:=by assumption) (hd : decide (d < N) = true:=by kernel_rfl) :
   PkStep Tryz.prog (Reg B W0 G) S0 ks a0 i { dst:=some d,op:=.load 26 (.tmp t),type:=T,pos:=pos,after:=af,guard:=gu } []:=by
 intro w x hC K hK
 obtain ⟨A,c,A',c',h1,h2,h3⟩:=hC.locQ hG hl
 obtain ⟨m1,m2,m3,m4,_,_,_,_⟩:=h1.four
 refine bj (w':=w) rfl hN hd (ex_load hp (run_load4P m1 m2 m3 m4)) (hK _ _ ?_ ?_)
 · rw [hi]; exact Below.refl _ _
 · rw [hi]; exact ⟨_,_,_,_,rfl,h2,h3⟩
theorem gx {d t j g : Nat} (hl : LocQ W0 g b xs b' ys)     (hj : at_ ks j = kIs (.pointer (some ⟨g,0,none⟩))) (hi : at_ ks i = kN b xs) (hG : g ∉ G:=by simp) (hN : a0.tmps.size = N:=by assumption) (hd : decide (d < N) = true:=by kernel_rfl) (ht : decide (t < N) = true:=by kernel_rfl) :
   PkStep Tryz.prog (Reg B W0 G) S0 ks a0 i { dst:=some d,op:=.load 24 (.tmp t),type:=T,pos:=pos,after:=af,guard:=gu } [(j,some t)]:=by
 intro w x hC
 refine aw _ fun hdeps K hK=>?_
 have g1:=hdeps (j,some t) (by simp)
 rw [hj] at g1
 have g2 : x j = .pointer (some ⟨g,0,none⟩):=g1
 have e1 : (putE x a0 [(j,some t)]).eval (.tmp t) = x j:=putE_new _ _ (by rw [hN]; exact of_decide_eq_true ht) (by simp [slotAt])
 obtain ⟨A,c,A',c',h1,h2,_⟩:=hC.locQ hG hl
 obtain ⟨m1,m2,_,_,_,_,_,_⟩:=h1.four
 refine bj (w':=w) rfl (by rw [ax,hN]) hd (ex_load (e1.trans g2) (run_load m1 m2)) (hK _ _ ?_ ?_)
 · rw [hi]; exact Below.refl _ _
 · rw [hi]; exact ⟨_,_,rfl,h2⟩
theorem ji {d t j g : Nat} (hl : LocQ W0 g b xs b' ys)     (hj : at_ ks j = kIs (.pointer (some ⟨g,2,none⟩))) (hi : at_ ks i = kN b' ys) (hG : g ∉ G:=by simp) (hN : a0.tmps.size = N:=by assumption) (hd : decide (d < N) = true:=by kernel_rfl) (ht : decide (t < N) = true:=by kernel_rfl) :
   PkStep Tryz.prog (Reg B W0 G) S0 ks a0 i { dst:=some d,op:=.load 24 (.tmp t),type:=T,pos:=pos,after:=af,guard:=gu } [(j,some t)]:=by
 intro w x hC
 refine aw _ fun hdeps K hK=>?_
 have g1:=hdeps (j,some t) (by simp)
 rw [hj] at g1
 have g2 : x j = .pointer (some ⟨g,2,none⟩):=g1
 have e1 : (putE x a0 [(j,some t)]).eval (.tmp t) = x j:=putE_new _ _ (by rw [hN]; exact of_decide_eq_true ht) (by simp [slotAt])
 obtain ⟨A,c,A',c',h1,_,h3⟩:=hC.locQ hG hl
 obtain ⟨_,_,m3,m4,_,_,_,_⟩:=h1.four
 refine bj (w':=w) rfl (by rw [ax,hN]) hd (ex_load (e1.trans g2) (run_loadAt m3 m4)) (hK _ _ ?_ ?_)
 · rw [hi]; exact Below.refl _ _
 · rw [hi]; exact ⟨_,_,rfl,h3⟩
end
theorem Qv.op {w : World} {v : Value} {b b' : Bool} {xs ys : List Nat} (h : Qv w v b xs b' ys) : ∃ u1 u2 u3 u4,v = .agg #[u1,u2,u3,u4] ∧ Hid (∀ (W : World) (g : Nat) (T : TypeId),Below w.heap.size w W → W.heap[g]? = some (.cells #[u1,u2,u3,u4] T (0,0)) → LocQ W g b xs b' ys):=by
 obtain ⟨A,c,A',c',rfl,r,r'⟩:=h
 exact ⟨_,_,_,_,rfl,Lib.hid fun W g T bb K=>⟨A,c,A',c',⟨⟨_,K⟩,by simp [noDig]⟩,r.below bb,r'.below bb⟩⟩
def ElAt (W : World) (g i : Nat) (E : Value → World → Prop) : Prop:=∃ u0 u1 u2 u3,W.cell? ⟨g,i * 4,none⟩ = some u0 ∧ W.cell? ⟨g,i * 4 + 1,none⟩ = some u1 ∧ W.cell? ⟨g,i * 4 + 2,none⟩ = some u2 ∧ W.cell? ⟨g,i * 4 + 3,none⟩ = some u3 ∧ E (.agg #[u0,u1,u2,u3]) W
theorem ElAt.below {W w' : World} {g i : Nat} {E : Value → World → Prop} (h : ElAt W g i E) (hE : ∀ v w w',E v w → Below w.heap.size w w' → E v w') (hb : Below W.heap.size W w') : ElAt w' g i E:=by
 obtain ⟨u0,u1,u2,u3,h0,h1,h2,h3,h4⟩:=h
 exact ⟨u0,u1,u2,u3,(hb.cell (cell_lt h0)).trans h0,(hb.cell (cell_lt h1)).trans h1,(hb.cell (cell_lt h2)).trans h2,(hb.cell (cell_lt h3)).trans h3,hE _ _ _ h4 hb⟩
def LocP (W : World) (g k : Nat) (x y : Int) : Prop:=(∃ u1 u2 u3 u4,Holds_ W g #[u1,u2,u3,u4]) ∧ AtR W g 0 k x ∧ AtR W g 2 k y
theorem Reg.locP {B : Nat} {W0 w : World} {G : List Nat} (h : Reg B W0 G w) {g k : Nat} {x y : Int} (hg : g ∉ G) (hl : LocP W0 g k x y) : LocP w g k x y:=by
 obtain ⟨⟨u1,u2,u3,u4,hh⟩,h1,h2⟩:=hl
 exact ⟨⟨u1,u2,u3,u4,h.holdsG hg hh⟩,h.atR hg h1,h.atR hg h2⟩
theorem AtR.up {W : World} {g o j k : Nat} {z : Int} (h : AtR W g o j z) (hk : j ≤ k) : AtR W g o k z:=by
 obtain ⟨A,l,c,h1,h2,h3⟩:=h
 exact ⟨A,l,c,h1,h2,h3.mono hk⟩
theorem res_locP {S0 : Nat} {x : Nat → Value} {v : Value} {w : World} {g k : Nat} {z1 z2 : Int} (h : (kRes g k z1 z2).sem S0 x v w) : LocP w g k z1 z2:=⟨res_four h,res_atP h⟩
theorem put_four {S0 : Nat} {x : Nat → Value} {v : Value} {w : World} {e k g : Nat} {z1 z2 : Int} (h : (kPutP e k z1 z2).sem S0 x v w) (hx : x e = .pointer (some ⟨g,0,none⟩)) : ∃ u1 u2 u3 u4,Holds_ w g #[u1,u2,u3,u4]:=by
 obtain ⟨g',cs,h1,_,hh,A,l,c,A',l',c',e1,_⟩:=h
 rw [hx] at h1
 injection h1 with h1; injection h1 with h1; injection h1 with h1
 subst h1; subst e1
 exact ⟨_,_,_,_,hh⟩
theorem len_runR (b : Option Addr) (m c : Nat) (T : TypeId) : ∀ w,(Builtin.len_ #[ 42 ] T #[.slice b m c]).run Tryz.prog w = .ok (.int .i64 (m : Int)) w:=fun _=>by kernel_rfl
section
variable {G : List Nat} {C : World → Prop} {S0 B : Nat} {ks : List PK} {a0 : Act} {i : Nat} {N : Nat} {W0 : World} {T : TypeId} {pos : String} {af : Array Edge} {gu : Option (Nat × Bool)}
theorem gy {d t j g o k : Nat} {z : Int} (hl : AtR W0 g o k z)    (hj : at_ ks j = kIs (.pointer (some ⟨g,o,none⟩))) (hi : at_ ks i = kZ k z) (hN : a0.tmps.size = N:=by assumption) (hd : decide (d < N) = true:=by kernel_rfl) (ht : decide (t < N) = true:=by kernel_rfl) :
   PkStep Tryz.prog (fun w=>Reg B W0 [g] w ∧ w.heap[g]? = W0.heap[g]?) S0 ks a0 i { dst:=some d,op:=.load 24 (.tmp t),type:=T,pos:=pos,after:=af,guard:=gu } [(j,some t)]:=by
 intro w x hC
 refine aw _ fun hdeps K hK=>?_
 have g1:=hdeps (j,some t) (by simp)
 rw [hj] at g1
 have e1 : (putE x a0 [(j,some t)]).eval (.tmp t) = x j:=putE_new _ _ (by rw [hN]; exact of_decide_eq_true ht) (by simp [slotAt])
 obtain ⟨A,m,c,h1,h2,hz⟩:=il hC hl
 refine bj (w':=w) rfl (by rw [ax,hN]) hd (ex_load (e1.trans g1) (run_loadInt h1 h2)) (hK _ _ ?_ ?_)
 · rw [hi]; exact Below.refl _ _
 · rw [hi]; exact hz
end
section
variable {G : List Nat} {S0 B : Nat} {ks : List PK} {a0 : Act} {i : Nat} {N : Nat} {W0 : World} {T : TypeId} {pos : String} {af : Array Edge} {gu : Option (Nat × Bool)}
end
theorem Reg.qvR {B : Nat} {W0 w : World} {G : List Nat} (h : Reg B W0 G w) {v : Value} {b b' : Bool} {xs ys : List Nat} (hp : Qv W0 v b xs b' ys) : Qv w v b xs b' ys:=by
 obtain ⟨A,c,A',c',e,h1,h2⟩:=hp
 exact ⟨A,c,A',c',e,h.row h1,h.row h2⟩
theorem ofQ_no {w : World} {v1 : Value} {b1 b1' : Bool} {xs1 ys1 : List Nat} (HR : Hid (∀ (W : World) (v : Value),Below w.heap.size w W → Qv W v b1 xs1 b1' ys1 → Calls Tryz.prog 19 #[v] W (SaysB W false))) (h1 : Qv w v1 b1 xs1 b1' ys1) :
   Calls Tryz.prog 62 #[v1] w (TellsP w 9 0 1):=by
 obtain ⟨y1,z1,y1',z1',rfl,H1⟩:=h1.op
 go_enter Tryz.func62,Tryz.ntmps62
 repeat apply wp_seq
 refine ls fun K HK=>?_
 go_wp2
 refine HK.out _ _ (then_n ?_)
 refine lq (G:=fun W=>Code.wp _ _ _ _ W) ?_
 intro W_0 bb_0 K0 K1
 have q1_0:=H1.out _ _ _ bb_0 K0
 have R4_0:=kg K1
 clear K0 K1
 refine lm (G:=fun a=>Code.wp _ _ _ a _) 17 ?_
 intro a_0 ha hN_0 hD_0
 have e1_0:=lj ha 1 w.heap.size
 have e2_0:=lj ha 2 (w.heap.size + 1)
 repeat first | apply lk | apply ll
 refine ld bb_0 [kQ b1 xs1 b1' ys1,lh,lg] [[],[0],[1]] [3,4,5] [] [] ?_ ?_
 ·
   refine aa rfl rfl (st_loadQ q1_0 e1_0 rfl) ?_; refine aa rfl rfl (ae rfl rfl fun hC h1=>ti (HR.out _ _ (bb_0.trans hC.below) h1)) ?_; refine p10 ?_; exact ag rfl
 intro W_1 z a_1 hC hall ha hN_1 hD_1 bb_1
 have e2_1:=ab ha e2_0
 have e5_1:=le ha hall 5 2
 have R4_1:=hC.holds R4_0
 clear hC hall
 refine wp_cond_true e5_1 ?_
 clear e5_1
 repeat first | apply lk | apply ll
 refine lu bb_1 R4_1 [kP 9 0 1,kRes (w.heap.size + 1) 9 0 1] [[],[0]] [6,999] [] [] ?_ ?_
 ·
   refine aa rfl rfl (be [] rfl rfl fun hC=>tp none_9) ?_; refine aa rfl rfl (kt R4_1 rfl e2_1 rfl rfl) ?_; exact ag rfl
 intro W z a1 hC hall ha hN1 hD1 bb1
 obtain ⟨cs,hgg,hP⟩:=lr hall 1
 have i2:=ab (t:=2) ha e2_1
 repeat first | apply lk | apply ll
 refine wp_ret ?_
 repeat (refine then_r ?_)
 exact gr (t:=2) rfl hD1 i2 hgg hP fun v hv=>⟨v,rfl,hv,bb1⟩
theorem takeQ_no {w : World} {v1 : Value} {b1 b1' : Bool} {xs1 ys1 : List Nat} (HR : Hid (∀ (W : World) (v : Value),Below w.heap.size w W → Qv W v b1 xs1 b1' ys1 → Calls Tryz.prog 20 #[v] W (SaysB W false))) (h1 : Qv w v1 b1 xs1 b1' ys1) :
   Calls Tryz.prog 67 #[v1] w (TellsP w 1 0 1):=by
 obtain ⟨y1,z1,y1',z1',rfl,H1⟩:=h1.op
 go_enter Tryz.func67,Tryz.ntmps67
 repeat apply wp_seq
 refine ls fun K HK=>?_
 go_wp2
 refine HK.out _ _ (then_n ?_)
 refine lq (G:=fun W=>Code.wp _ _ _ _ W) ?_
 intro W_0 bb_0 K0 K1
 have q1_0:=H1.out _ _ _ bb_0 K0
 have R4_0:=kg K1
 clear K0 K1
 refine lm (G:=fun a=>Code.wp _ _ _ a _) 7 ?_
 intro a_0 ha hN_0 hD_0
 have e1_0:=lj ha 1 w.heap.size
 have e2_0:=lj ha 2 (w.heap.size + 1)
 repeat first | apply lk | apply ll
 refine ld bb_0 [kQ b1 xs1 b1' ys1,lh] [[],[0]] [3,4] [] [] ?_ ?_
 ·
   refine aa rfl rfl (st_loadQ q1_0 e1_0 rfl) ?_; refine aa rfl rfl (ae rfl rfl fun hC h1=>ti (HR.out _ _ (bb_0.trans hC.below) h1)) ?_; exact ag rfl
 intro W_1 z a_1 hC hall ha hN_1 hD_1 bb_1
 have e2_1:=ab ha e2_0
 have e4_1:=le ha hall 4 1
 have R4_1:=hC.holds R4_0
 clear hC hall
 refine wp_cond_false e4_1 ?_
 refine wp_skip ?_
 refine then_n ?_
 clear e4_1
 repeat first | apply lk | apply ll
 refine lu bb_1 R4_1 [kP 1 0 1,kRes (w.heap.size + 1) 1 0 1] [[],[0]] [6,999] [] [] ?_ ?_
 ·
   refine aa rfl rfl (be [] rfl rfl fun hC=>tp ref_nought) ?_; refine aa rfl rfl (eu R4_1 rfl e2_1 rfl rfl) ?_; exact ag rfl
 intro W z a1 hC hall ha hN1 hD1 bb1
 obtain ⟨cs,hgg,hP⟩:=lr hall 1
 have i2:=ab (t:=2) ha e2_1
 repeat first | apply lk | apply ll
 refine wp_ret ?_
 repeat (refine then_r ?_)
 exact fy (t:=2) rfl hD1 i2 hgg hP fun v hv=>⟨v,rfl,hv,bb1⟩
theorem refRightQ_no1 {w : World} {v1 : Value} {b1 b1' : Bool} {xs1 ys1 : List Nat} (HA : Hid (∀ (W : World) (v : Value),Below w.heap.size w W → Nv W v b1 xs1 → Calls Tryz.prog 70 #[v] W (SaysB W false))) (h1 : Qv w v1 b1 xs1 b1' ys1) :
   Calls Tryz.prog 20 #[v1] w (SaysB w false):=by
 obtain ⟨y1,z1,y1',z1',rfl,H1⟩:=h1.op
 go_enter Tryz.func20,Tryz.ntmps20
 repeat apply wp_seq
 refine ls fun K HK=>?_
 go_wp2
 refine HK.out _ _ (then_n ?_)
 refine lp (G:=fun W=>Code.wp _ _ _ _ W) ?_
 intro W_0 bb_0 K0
 have q1_0:=H1.out _ _ _ bb_0 K0
 clear K0
 refine lm (G:=fun a=>Code.wp _ _ _ a _) 29 ?_
 intro a_0 ha hN_0 hD_0
 have e1_0:=lj ha 1 w.heap.size
 repeat first | apply lk | apply ll
 refine ld bb_0 [lf w.heap.size 0,kN b1 xs1,lh,lh,li,li,li,lh,lh,li,li,li,li,li,lh,lh,li,li,li,li,li,li,li,li,li,lh,lh] [[],[0],[1],[2],[],[4],[5],[3,6],[7],[],[9],[],[10,11],[12],[8,13],[14],[],[16],[],[18],[17,19],[20],[],[21,22],[23],[15,24],[25]] [3,4,5,6,7,8,9,10,11,12,13,14,15,16,17,18,19,20,21,22,23,24,25,26,27,28,2] [(3,false),(8,false),(15,false)] [4,5,6,9,10,11,12,13,16,17,18,19,20,21,22,23,24] ?_ ?_
 ·
   refine p01 e1_0 ?_; refine aa rfl rfl (gx q1_0 rfl rfl) ?_; refine aa rfl rfl (ae rfl rfl fun hC h1=>ti (HA.out _ _ (bb_0.trans hC.below) h1)) ?_; refine p10 ?_; refine ah rfl ?_; refine ah rfl ?_; refine ah rfl ?_; refine p20 ?_; refine p10 ?_; refine ah rfl ?_; refine ah rfl ?_; refine ah rfl ?_; refine ah rfl ?_; refine ah rfl ?_; refine p20 ?_; refine p10 ?_; refine ah rfl ?_; refine ah rfl ?_; refine ah rfl ?_; refine ah rfl ?_; refine ah rfl ?_; refine ah rfl ?_; refine ah rfl ?_; refine ah rfl ?_; refine ah rfl ?_; refine p20 ?_; refine p10 ?_; exact ag rfl
 intro W z a_1 hC hall ha hN_1 hD_1 bb_1
 have e2_1:=le ha hall 2 26
 repeat first | apply lk | apply ll
 refine wp_ret ?_
 repeat (refine then_r ?_)
 exact bi (t:=2) rfl hD_1 e2_1 ⟨rfl,bb_1⟩
theorem refRightQ_no2 {w : World} {v1 : Value} {b1 b1' : Bool} {xs1 ys1 : List Nat} (HA : Hid (∀ (W : World) (v : Value),Below w.heap.size w W → Nv W v b1 xs1 → Calls Tryz.prog 70 #[v] W (SaysB W true))) (HB : Hid (∀ (W : World) (v : Value),Below w.heap.size w W → Nv W v b1' ys1 → Calls Tryz.prog 70 #[v] W (SaysB W false))) (h1 : Qv w v1 b1 xs1 b1' ys1) :
   Calls Tryz.prog 20 #[v1] w (SaysB w false):=by
 obtain ⟨y1,z1,y1',z1',rfl,H1⟩:=h1.op
 go_enter Tryz.func20,Tryz.ntmps20
 repeat apply wp_seq
 refine ls fun K HK=>?_
 go_wp2
 refine HK.out _ _ (then_n ?_)
 refine lp (G:=fun W=>Code.wp _ _ _ _ W) ?_
 intro W_0 bb_0 K0
 have q1_0:=H1.out _ _ _ bb_0 K0
 clear K0
 refine lm (G:=fun a=>Code.wp _ _ _ a _) 29 ?_
 intro a_0 ha hN_0 hD_0
 have e1_0:=lj ha 1 w.heap.size
 repeat first | apply lk | apply ll
 refine ld bb_0 [lf w.heap.size 0,kN b1 xs1,lg,lg,lf w.heap.size 2,kN b1' ys1,lh,lh,lh,li,li,li,li,li,lh,lh,li,li,li,li,li,li,li,li,li,lh,lh] [[],[0],[1],[2],[],[4],[5],[3,6],[7],[],[9],[],[10,11],[12],[8,13],[14],[],[16],[],[18],[17,19],[20],[],[21,22],[23],[15,24],[25]] [3,4,5,6,7,8,9,10,11,12,13,14,15,16,17,18,19,20,21,22,23,24,25,26,27,28,2] [(3,true),(8,false),(15,false)] [9,10,11,12,13,16,17,18,19,20,21,22,23,24] ?_ ?_
 ·
   refine p01 e1_0 ?_; refine aa rfl rfl (gx q1_0 rfl rfl) ?_; refine aa rfl rfl (ae rfl rfl fun hC h1=>ti (HA.out _ _ (bb_0.trans hC.below) h1)) ?_; refine p10 ?_; refine p01 e1_0 ?_; refine aa rfl rfl (ji q1_0 rfl rfl) ?_; refine aa rfl rfl (ae rfl rfl fun hC h1=>ti (HB.out _ _ (bb_0.trans hC.below) h1)) ?_; refine p20 ?_; refine p10 ?_; refine ah rfl ?_; refine ah rfl ?_; refine ah rfl ?_; refine ah rfl ?_; refine ah rfl ?_; refine p20 ?_; refine p10 ?_; refine ah rfl ?_; refine ah rfl ?_; refine ah rfl ?_; refine ah rfl ?_; refine ah rfl ?_; refine ah rfl ?_; refine ah rfl ?_; refine ah rfl ?_; refine ah rfl ?_; refine p20 ?_; refine p10 ?_; exact ag rfl
 intro W z a_1 hC hall ha hN_1 hD_1 bb_1
 have e2_1:=le ha hall 2 26
 repeat first | apply lk | apply ll
 refine wp_ret ?_
 repeat (refine then_r ?_)
 exact bi (t:=2) rfl hD_1 e2_1 ⟨rfl,bb_1⟩
def BothTell (b : Bool) (xs : List Nat) (b' : Bool) (ys : List Nat) (a : Rat) (rt : Bool) : Prop :=
 a.num.natAbs < 1000000000 ^ 9 ∧ a.den < 1000000000 ^ 9 ∧ ∀ (W : World) (v : Value), Qv W v b xs b' ys →
   Calls Tryz.prog 19 #[v] W (SaysB W rt) ∧ Calls Tryz.prog 62 #[v] W (TellsP W 9 a.num (a.den : Int)) ∧
   Calls Tryz.prog 20 #[v] W (SaysB W rt) ∧ Calls Tryz.prog 67 #[v] W (TellsP W 9 a.num (a.den : Int))
theorem Qv.pr {W : World} {v : Value} {b b' : Bool} {xs ys : List Nat} (h : Qv W v b xs b' ys) (s1 : small 4294967296 xs) (l1 : xs.length ≤ 8) (s2 : small 4294967296 ys) (l2 : ys.length ≤ 8) (h1 : RN b xs) (h2 : RN b' ys) : Pr W v 9 (zOf (val xs) b) (zOf (val ys) b'):=by
 obtain ⟨A,c,A',c',rfl,r1,r2⟩:=h
 have e1:=sign_of h1.1 h1.2
 have e2:=sign_of h2.1 h2.2
 exact ⟨A,_,c,A',_,c',by rw [e1,e2],⟨by rw [bg]; exact ⟨_,_,xs,rfl,r1,h1.1,by omega,rfl⟩,by rw [bg]; exact Nat.lt_of_lt_of_le (val_lt32 s1) (pow_le (by omega))⟩,by rw [bg]; exact ⟨_,_,ys,rfl,r2,h2.1,by omega,rfl⟩,by rw [bg]; exact Nat.lt_of_lt_of_le (val_lt32 s2) (pow_le (by omega))⟩
theorem tells_nought {P : Program} {F : FuncId} {vs : Array Value} {w : World} {k : Nat} (hk : k ≤ 9) (h : Calls P F vs w (TellsP w k 0 1)) : Calls P F vs w (TellsP w 9 (0 : Rat).num ((0 : Rat).den : Int)) :=
 h.mono fun _ _ ⟨v,e,hp,hb⟩=>⟨v,e,hp.mono hk,hb⟩
theorem mark_any (k i : Int) (hk : 0 ≤ k ∧ k ≤ 100) (hi : 0 ≤ i ∧ i ≤ 1000000) (w : World) :
   Calls Tryz.prog 129 #[.int .i64 k,.int .i64 i] w fun e w'=>e = .returned (.int .i64 (1000003 * (k + 7) + i)) ∧ w = w':=by
 obtain ⟨h1,h2⟩:=hk
 obtain ⟨h3,h4⟩:=hi
 go_enter Tryz.func129,Tryz.ntmps129
 go_wp2
 go_ret
 exact ⟨rfl,rfl⟩
def markL (k : Nat) : List Nat:=(List.range k).map (8000024 + ·)
theorem markL_succ (k : Nat) : markL (k + 1) = markL k ++ [8000024 + k]:=by simp [markL,List.range_succ]
theorem markL_length (k : Nat) : (markL k).length = k:=by simp [markL]
theorem markL_at {n k : Nat} (h : k < n) : (markL n).getD k 0 = 8000024 + k:=by
 rw [List.getD_eq_getElem?_getD]; simp [markL,h]
def LentRet (w : World) (xs : List Nat) (e : Ending) (w' : World) : Prop:=∃ g cap,e = .returned (.slice (some ⟨g,0,none⟩) xs.length cap) ∧ w.heap.size ≤ g ∧ Own w' w.heap.size 88 (.slice (some ⟨g,0,none⟩) (xs.length + 12) cap) (u32s (xs ++ markL 12)) ∧ Below w.heap.size w w'
theorem lent_any {w : World} {A : Option Addr} {c : Nat} {xs : List Nat} (hr : Row w A (u32s xs)) (hlen : xs.length ≤ 4000) :
   Calls Tryz.prog 119 #[.slice A xs.length c] w (LentRet w xs):=by
 obtain ⟨i0,hi,hz0,hz1,hz2⟩:=info_parts dw
 obtain ⟨B,hB⟩ : ∃ B,B = w.heap.size:=⟨_,rfl⟩
 have HB:=Lib.hid hB
 obtain ⟨n,hn⟩ : ∃ n,n = xs.length:=⟨_,rfl⟩
 have hn1 : n ≤ 4000:=by omega
 rw [← hn]
 have HN:=Lib.hid hn
 clear hB hn hlen
 go_enter Tryz.func119,Tryz.ntmps119
 go_wp2_with (at_make; refine wpList_make_own _ rfl _ _ 22 rfl B 88 i0 (.int .u32 0) 1 Tryz.underlying22 hi hz0 hz1 .i64 .i64 ((n : Int) + 12) (n + 12) rfl rfl (by omega) ?b2 ?b3 ?b4 ?_)
 case b2=>first | omega | (rw [hz2]; omega)
 case b3=>unfold maxLen; omega
 case b4=>rw [HB.out]; exact Nat.le_refl _
 intro w1 hown hgrow
 have hb1 : Below w.heap.size w w1:=(Below.refl _ _).grown hgrow (Nat.le_refl _) (fun k h=>by cases h)
 have ho1 : Own w1 B 88 (.slice (some ⟨w.heap.size,0,none⟩) 0 (n + 12)) (u32s []):=Own.mk_ hown
 have hr1:=hr.below hb1
 have hs1:=hb1.size
 clear hown hgrow hr
 go_wp2_with (at_builtin; refine ef rfl _ _ 22 rfl B 88 i0 (.int .u32 0) 4 Tryz.underlying22 hi hz0 hz1 hz2 rfl _ _ _ rfl ho1 A n c (u32s xs) rfl (by rw [am,← HN.out]) hr1 (u32s_one xs) (by rw [am]; unfold maxLen; simp; omega) (by rw [am]; simp; omega) (by rw [HB.out]; exact hs1) ?_)
 intro v2 w2 hown2 hgrow2
 have ho2 : Own w2 B 88 v2 (u32s xs):=by
   have:=Own.mk_ hown2
   simpa [u32s] using this
 have hb2 : Below w.heap.size w w2:=by
   have:=ed (o:=.cells #[] 0) (w1:=w1) (wr:=w1) (w2:=w2) (B:=B) (Below.refl _ _) ho1 (by rw [HB.out]; exact hs1); refine hb1.trans ?_; refine (Below.refl _ _).grown hgrow2 hs1 (fun k hk=>?_); have hh : w1.ownsRow B 88 1 _ _ _:=ho1; have:=(hh.lt k hk).1; rw [HB.out] at this; exact this
 clear hown2 hgrow2 ho1 hb1 hr1 hs1
 go_wp2_with fail
 go_loopw [3,4] (fun ov iv wr=>∃ k : Nat,k ≤ 12 ∧ iv = .int .i64 (k : Int) ∧ Own wr B 88 ov (u32s (xs ++ markL k)) ∧ Below w.heap.size w wr) (fun _ iv _=>12 - (intOf iv).toNat)
 case atStart=>exact ⟨0,Nat.zero_le _,rfl,by simpa [markL] using ho2,hb2⟩
 case round =>
   obtain ⟨k,hk,rfl,hout,hb⟩:=hrel; have hsz:=hb.size; have hlk : (xs ++ markL k).length = n + k:=by rw [List.length_append,markL_length,← HN.out]
   have HLK:=Lib.hid hlk; clear hlk
   by_cases hlt : k < 12
   · have hmk:=mark_any 1 (k : Int) (by omega) (by omega) wr; have HMK:=Lib.hid hmk; have hlt' : (k : Int) < 12:=by omega
     clear hmk
     go_wp2_with (first
       | (go_at_call 129; refine HMK.out.mono ?_; rintro e w' ⟨rfl,rfl⟩)
       | (at_builtin; refine wpList_append_own _ rfl _ _ 22 rfl B 88 i0 (.int .u32 0) 1 4 Tryz.underlying22 hi hz0 hz1 hz2 rfl (by decide) _ _ _ rfl (hout.alloc _) ⟨wr.heap.size,0,none⟩ 1 1 [.int .u32 ((8000024 + k : Nat) : Int)] rfl rfl ?c1 ?c2 ?c3 ?c4 ?c5 ?_))
     case c1=>exact one_news (int_eq (by omega))
     case c2=>exact ch
     case c3=>rw [am,HLK.out]; unfold maxLen; omega
     case c4=>rw [am,HLK.out]; omega
     case c5=>rw [HB.out]; simp; omega
     intro v' w3 hown' hgrow' _; have ho3:=de hown'; have hb3:=dc hb hout HB hgrow'; rw [List.append_assoc,← markL_succ] at ho3; clear hown' hgrow' hout hb HMK
     go_wp2
     go_roundw
     case rel=>exact ⟨k + 1,by omega,by go_num,ho3,hb3⟩
     case measure=>simp [intOf]; omega
   · obtain rfl : k = 12:=by omega
     obtain ⟨A3,c3,rfl,hr3,hc3,hx3⟩:=hout.slice32; rw [HLK.out] at hout hc3; obtain ⟨ad,rfl,hx4⟩:=hr3.at_ (k:=0) (by rw [am,HLK.out]; omega); obtain ⟨g,rfl,hg,hgs⟩:=hout.lt.2 ad rfl; have hlk:=HLK.out; clear hx3 hx4 hr3
     go_wp2
     go_ret
     obtain rfl : n = xs.length:=HN.out; exact ⟨g,c3,by simp,HB.out ▸ hg,HB.out ▸ hout,hb⟩
theorem kx (g k : Nat) : (⟨g,0,none⟩ : Addr).add k = ⟨g,k,none⟩:=by
 unfold Addr.add; split
 · rename_i h; subst h; rfl
 · simp
theorem kept_any {w : World} {g cap c : Nat} {A : Option Addr} {xs : List Nat} (hO : Row w (some ⟨g,0,none⟩) (u32s (xs ++ markL 12))) (hcap : xs.length + 12 ≤ cap) (hr : Row w A (u32s xs)) (hlen : xs.length ≤ 4000) :
   Calls Tryz.prog 124 #[.slice (some ⟨g,0,none⟩) xs.length cap,.slice A xs.length c] w fun e w'=>e = .returned (.bool true) ∧ Drawn w w':=by
 obtain ⟨n,hn⟩ : ∃ n,n = xs.length:=⟨_,rfl⟩
 have hn1 : n ≤ 4000:=by omega
 rw [← hn] at hcap ⊢
 have HN:=Lib.hid hn
 clear hn hlen
 go_enter Tryz.func124,Tryz.ntmps124
 go_wp2_with fail
 go_loopw [6] (fun iv wr=>∃ k : Nat,k ≤ n + 12 ∧ iv = .int .i64 (k : Int) ∧ Hid (Drawn w wr)) (fun iv _=>n + 12 - (intOf iv).toNat)
 case atStart=>exact ⟨0,Nat.zero_le _,rfl,Drawn.refl _⟩
 case round =>
   obtain ⟨k,hk,rfl,HW⟩:=hrel
   by_cases hlt : k < n + 12
   · have hlt' : (k : Int) < (n : Int) + 12:=by omega
     by_cases hkn : k < n
     · obtain ⟨ad,x,rfl,hc,hx,hm⟩:=(hr.drawn HW.out).dig (k:=k) (by rw [← HN.out]; exact hkn); obtain ⟨ad2,y,e2,hc2,hy,hm2⟩:=(hO.drawn HW.out).dig (k:=k) (by rw [List.length_append,← HN.out]; omega); injection e2 with e2; subst e2
       have hxy : y = x:=by
         rw [← hx.out,← hy.out,List.getD_eq_getElem?_getD,List.getD_eq_getElem?_getD,List.getElem?_append_left (by rw [← HN.out]; exact hkn)]
       subst hxy
       have hc2' : wr.cell? ⟨g,k,none⟩ = some (.int .u32 (y : Int)):=by
         have:=kx g k; rw [← this]; exact hc2
       have hg1 : decide (k < n) = true:=decide_eq_true hkn; have hg2 : decide (n ≤ k) = false:=decide_eq_false (by omega); clear hm hm2 hc2 hx hy
       go_wp2
       go_quiet (fail)
       go_wp2
       go_roundw
       case rel=>exact ⟨k + 1,by omega,by go_num,HW.out.trans ⟨_,rfl⟩⟩
       case measure=>simp [intOf]; omega
     · obtain ⟨d,hd⟩ : ∃ d,k = n + d:=⟨k - n,by omega⟩
       obtain ⟨ad2,y,e2,hc2,hy,hm2⟩:=(hO.drawn HW.out).dig (k:=k) (by rw [List.length_append,← HN.out,markL_length]; omega); injection e2 with e2; subst e2
       have hyv : y = 8000024 + d:=by
         rw [← hy.out,List.getD_eq_getElem?_getD,List.getElem?_append_right (by rw [← HN.out]; omega),← HN.out,hd,Nat.add_sub_cancel_left,← List.getD_eq_getElem?_getD]; exact markL_at (by omega)
       have hc2' : wr.cell? ⟨g,k,none⟩ = some (.int .u32 (8000024 + (d : Int))):=by
         have h1:=kx g k; rw [← h1,hc2,hyv]; rfl
       have hg1 : decide (k < n) = false:=decide_eq_false (by omega); have hg2 : decide (n ≤ k) = true:=decide_eq_true (by omega)
       have hmk : ∀ m,Calls Tryz.prog 129 #[.int .i64 1,.int .i64 (d : Int)] (wr.drewN m) (fun e w'=>e = .returned (.int .i64 (8000024 + (d : Int))) ∧ w' = wr.drewN m):=fun m=>(mark_any 1 (d : Int) (by omega) (by omega) (wr.drewN m)).mono fun _ _ h=>⟨by rw [h.1]; congr 2,h.2.symm⟩
       have HMK:=Lib.hid hmk; have hsub : (k : Int) - (n : Int) = (d : Int):=by omega
       have hd12 : d < 12:=by omega
       clear hm2 hc2 hy hmk hyv hd hkn
       go_wp2
       go_quiet ((go_at_call 129; exact Calls.quiet_of_same (HMK.out _)))
       go_wp2
       go_roundw
       case rel=>exact ⟨k + 1,by omega,by go_num,HW.out.trans ⟨_,rfl⟩⟩
       case measure=>simp [intOf]; omega
   · have hlt' : ¬ (k : Int) < (n : Int) + 12:=by omega
     go_wp2
     go_returns
     exact ⟨rfl,HW.out⟩
theorem Own.wide {w : World} {B T g n c m : Nat} {xs : List Value} (h : Own w B T (.slice (some ⟨g,0,none⟩) n c) xs) (hm : m ≤ c) : ∃ ys,ys.length = m ∧ Own w B T (.slice (some ⟨g,0,none⟩) m c) ys:=by
 have hh : w.ownsRow B T 1 (.slice (some ⟨g,0,none⟩) n c) xs.length xs:=h
 rcases hh.2 with ⟨e,_⟩ | ⟨g',cap,cur,e,hB,hg,hle,hmx,hsz,ht⟩
 · cases e
 · injection e with e1 e2 e3; injection e1 with e1; injection e1 with e1; subst e1; subst e3; have hl : (cur.toList.take m).length = m:=by rw [List.length_take,Array.length_toList]; omega
   refine ⟨cur.toList.take m,hl,?_⟩; refine ⟨by simp,.inr ⟨g,c,cur,by rw [hl],hB,hg,by omega,hmx,hsz,?_⟩⟩; rw [hl,Nat.mul_one]
theorem Own.setAt {w : World} {B T g n c : Nat} {xs : List Value} (h : Own w B T (.slice (some ⟨g,0,none⟩) n c) xs) (k : Nat) (u : Value) : Own (w.setCell ⟨g,k,none⟩ u) B T (.slice (some ⟨g,0,none⟩) n c) (xs.set k u):=by
 have hn:=h.lt.1
 have hh : w.ownsRow B T 1 (.slice (some ⟨g,0,none⟩) n c) n xs:=by rw [hn]; rw [hn] at h; exact h
 exact Own.mk_ (hh.stored k u).1
end Go.Proofs.YtifgcjpgelbelaaGreatDoor
set_option linter.unusedVariables false
set_option linter.unusedSimpArgs false
namespace Go.Proofs.YtifgcjpgelbelaaGreatDoor
open Go.RowKit
theorem Row.pre {w : World} {A : Option Addr} {xs zs : List Nat} (h : Row w A (u32s (xs ++ zs))) : Row w A (u32s xs):=by
 have h1:=h.take xs.length
 have e : (u32s (xs ++ zs)).take xs.length = u32s xs:=by simp [u32s]
 rwa [e] at h1
def LN (W : World) (v : Value) (b : Bool) (xs : List Nat) : Prop:=∃ g cap,v = .agg #[.bool b,.slice (some ⟨g,0,none⟩) xs.length cap] ∧ Row W (some ⟨g,0,none⟩) (u32s (xs ++ markL 12)) ∧ xs.length + 12 ≤ cap
def Lv (W : World) (v : Value) (b : Bool) (xs : List Nat) (b' : Bool) (ys : List Nat) : Prop := ∃ g c g' c', v = .agg #[.bool b, .slice (some ⟨g, 0, none⟩) xs.length c, .bool b', .slice (some ⟨g', 0, none⟩) ys.length c'] ∧
 (Row W (some ⟨g,0,none⟩) (u32s (xs ++ markL 12)) ∧ xs.length + 12 ≤ c) ∧ Row W (some ⟨g',0,none⟩) (u32s (ys ++ markL 12)) ∧ ys.length + 12 ≤ c'
theorem LN.below {W W' : World} {v : Value} {b : Bool} {xs : List Nat} (h : LN W v b xs) (hb : Below W.heap.size W W') : LN W' v b xs:=by
 obtain ⟨g,c,h1,h2,h3⟩:=h
 exact ⟨g,c,h1,h2.below hb,h3⟩
theorem LN.stored {W W' : World} {k : Nat} {v : Value} {b : Bool} {xs : List Nat} (h : LN W v b xs) (hs : Stored k W W') : LN W' v b xs:=by
 obtain ⟨g,c,h1,h2,h3⟩:=h
 exact ⟨g,c,h1,Stored.row h2 hs,h3⟩
theorem Lv.below {W W' : World} {v : Value} {b b' : Bool} {xs ys : List Nat} (h : Lv W v b xs b' ys) (hb : Below W.heap.size W W') : Lv W' v b xs b' ys:=by
 obtain ⟨g,c,g',c',h1,⟨h2,h3⟩,h4,h5⟩:=h
 exact ⟨g,c,g',c',h1,⟨h2.below hb,h3⟩,h4.below hb,h5⟩
theorem Lv.stored {W W' : World} {k : Nat} {v : Value} {b b' : Bool} {xs ys : List Nat} (h : Lv W v b xs b' ys) (hs : Stored k W W') : Lv W' v b xs b' ys:=by
 obtain ⟨g,c,g',c',h1,⟨h2,h3⟩,h4,h5⟩:=h
 exact ⟨g,c,g',c',h1,⟨Stored.row h2 hs,h3⟩,Stored.row h4 hs,h5⟩
theorem Lv.qv {W : World} {v : Value} {b b' : Bool} {xs ys : List Nat} (h : Lv W v b xs b' ys) : Qv W v b xs b' ys:=by
 obtain ⟨g,c,g',c',h1,⟨h2,_⟩,h4,_⟩:=h
 exact ⟨_,c,_,c',h1,h2.pre,h4.pre⟩
def kLN (b : Bool) (xs : List Nat) : PK:=.p (fun v w=>LN w v b xs) (fun _ _ _ h hb=>h.below hb) (fun _ _ _ _ h hs=>h.stored hs)
def kL (b : Bool) (xs : List Nat) (b' : Bool) (ys : List Nat) : PK:=.p (fun v w=>Lv w v b xs b' ys) (fun _ _ _ h hb=>h.below hb) (fun _ _ _ _ h hs=>h.stored hs)
def LocL (W : World) (g : Nat) (b : Bool) (xs : List Nat) (b' : Bool) (ys : List Nat) : Prop:=∃ v,Lv W v b xs b' ys ∧ ∃ cs,v = .agg cs ∧ cs.size = 4 ∧ Holds_ W g cs
theorem Lv.parts {W : World} {v : Value} {b b' : Bool} {xs ys : List Nat} (h : Lv W v b xs b' ys) : ∃ A c A' c',v = .agg #[.bool b,.slice A xs.length c,.bool b',.slice A' ys.length c']:=by
 obtain ⟨g,c,g',c',h1,_⟩:=h
 exact ⟨_,c,_,c',h1⟩
theorem LocL.parts {W : World} {g : Nat} {b b' : Bool} {xs ys : List Nat} (h : LocL W g b xs b' ys) : ∃ A c A' c',Holds_ W g #[.bool b,.slice A xs.length c,.bool b',.slice A' ys.length c'] ∧ Lv W (.agg #[.bool b,.slice A xs.length c,.bool b',.slice A' ys.length c']) b xs b' ys:=by
 obtain ⟨v,hv,cs,rfl,_,hh⟩:=h
 obtain ⟨A,c,A',c',e⟩:=hv.parts
 injection e with e
 subst e
 exact ⟨A,c,A',c',hh,hv⟩
theorem LocL.q {W : World} {g : Nat} {b b' : Bool} {xs ys : List Nat} (h : LocL W g b xs b' ys) : LocQ W g b xs b' ys:=by
 obtain ⟨v,⟨g1,c,g2,c',rfl,⟨h2,_⟩,h4,_⟩,cs,e,_,hh⟩:=h
 injection e with e
 subst e
 exact ⟨_,c,_,c',hh,h2.pre,h4.pre⟩
theorem Reg.lv {B : Nat} {W0 w : World} {G : List Nat} (h : Reg B W0 G w) {v : Value} {b b' : Bool} {xs ys : List Nat} (hv : Lv W0 v b xs b' ys) : Lv w v b xs b' ys:=by
 obtain ⟨g,c,g',c',h1,⟨h2,h3⟩,h4,h5⟩:=hv
 exact ⟨g,c,g',c',h1,⟨h.row h2,h3⟩,h.row h4,h5⟩
theorem Reg.locL {B : Nat} {W0 w : World} {G : List Nat} (h : Reg B W0 G w) {g : Nat} (hg : g ∉ G) {b b' : Bool} {xs ys : List Nat} (hl : LocL W0 g b xs b' ys) : LocL w g b xs b' ys:=by
 obtain ⟨v,hv,cs,rfl,hsz,hh⟩:=hl
 exact ⟨_,h.lv hv,cs,rfl,hsz,h.holdsG hg hh⟩
def isL (b : Bool) (xs : List Nat) (b' : Bool) (ys : List Nat) (cs : Array Value) (w : World) : Prop:=Lv w (.agg cs) b xs b' ys
def kPutL (e : Nat) (b : Bool) (xs : List Nat) (b' : Bool) (ys : List Nat) : PK:=.put e (isL b xs b' ys) (fun _ _ _ h hb=>Lv.below h hb) (fun _ _ _ _ h hs=>Lv.stored h hs)
theorem put_locL {S0 : Nat} {x : Nat → Value} {v : Value} {w : World} {e : Nat} {b b' : Bool} {xs ys : List Nat} (h : (kPutL e b xs b' ys).sem S0 x v w) : ∃ g,x e = .pointer (some ⟨g,0,none⟩) ∧ S0 ≤ g ∧ LocL w g b xs b' ys:=by
 obtain ⟨g,cs,h1,hg,h2,h3⟩:=h
 obtain ⟨A,c,A',c',e1⟩:=(show Lv w (.agg cs) b xs b' ys from h3).parts
 injection e1 with e1
 subst e1
 exact ⟨g,h1,hg,_,h3,_,rfl,rfl,h2⟩
section
variable {G : List Nat} {S0 B : Nat} {ks : List PK} {a0 : Act} {i : Nat} {N : Nat} {W0 : World} {T : TypeId} {pos : String} {af : Array Edge} {gu : Option (Nat × Bool)} {b b' : Bool} {xs ys : List Nat}
theorem st_loadL {d t g : Nat} (hl : LocL W0 g b xs b' ys)  (hp : a0.eval (.tmp t) = .pointer (some ⟨g,0,none⟩))   (hi : at_ ks i = kL b xs b' ys) (hG : g ∉ G:=by simp only [List.mem_singleton]; omega) (hN : a0.tmps.size = N:=by assumption) (hd : decide (d < N) = true:=by kernel_rfl) :
   PkStep Tryz.prog (Reg B W0 G) S0 ks a0 i { dst:=some d,op:=.load 26 (.tmp t),type:=T,pos:=pos,after:=af,guard:=gu } []:=by
 intro w x hC K hK
 obtain ⟨A,c,A',c',h1,h2⟩:=(hC.locL hG hl).parts
 obtain ⟨m1,m2,m3,m4,_,_,_,_⟩:=h1.four
 refine bj (w':=w) rfl hN hd (ex_load hp (run_load4P m1 m2 m3 m4)) (hK _ _ ?_ ?_)
 · rw [hi]; exact Below.refl _ _
 · rw [hi]; exact h2
theorem st_putL {t u e j : Nat}     (he : at_ ks e = .fresh 4) (hj : at_ ks j = kL b xs b' ys) (hi : at_ ks i = kPutL e b xs b' ys) (hN : a0.tmps.size = N:=by assumption) (ht : decide (t < N) = true:=by kernel_rfl) (hu : decide (u < N) = true:=by kernel_rfl) (htu : decide (t = u) = false:=by kernel_rfl) :
   PkStep Tryz.prog (Reg B W0 G) S0 ks a0 i { dst:=none,op:=.store 26 (.tmp t) (.tmp u),type:=T,pos:=pos,after:=af,guard:=gu } [(e,some t),(j,some u)]:=by
 intro w x hC
 refine aw _ fun hdeps K hK=>?_
 have h1:=hdeps (e,some t) (by simp)
 have h2:=hdeps (j,some u) (by simp)
 have htu' : t ≠ u:=of_decide_eq_false htu
 have e1 : (putE x a0 [(e,some t),(j,some u)]).eval (.tmp t) = x e:=putE_new _ _ (by rw [hN]; exact of_decide_eq_true ht) (by simp [slotAt,Ne.symm htu'])
 have e2 : (putE x a0 [(e,some t),(j,some u)]).eval (.tmp u) = x j:=putE_new _ _ (by rw [hN]; exact of_decide_eq_true hu) (by simp [slotAt])
 simp only [he,hj] at h1 h2
 obtain ⟨g,cs,hx,hg0,hg,hsz⟩:=h1
 obtain ⟨a,b0,c0,d0,rfl⟩:=jh hsz
 have h3 : Lv w (x j) b xs b' ys:=h2
 obtain ⟨A,c,A',c',hy⟩:=h3.parts
 obtain ⟨m1,m2,m3,m4,f1,f2,f3,f4⟩:=hg.four
 have hst:=bu hg (noDig_bool b) (noDig_slice A xs.length c) (noDig_bool b') (noDig_slice A' ys.length c')
 refine gp (w':=put4 w g (.bool b) (.slice A xs.length c) (.bool b') (.slice A' ys.length c')) rfl ?_ (hK _ _ ?_ ?_)
 · exact dz (e1.trans hx) (e2.trans hy) (run_storeP m1 m2 m3 m4 f1 f2 f3 f4)
 · rw [hi]; exact ⟨g,hx,hg0,hst⟩
 · rw [hi]; refine ⟨g,_,hx,hg0,cd hg (noDig_bool _) (noDig_slice _ _ _) (noDig_bool _) (noDig_slice _ _ _),?_⟩; rw [hy] at h3; exact Lv.stored h3 hst
end
theorem sameInt_raw {w : World} {A1 A2 : Option Addr} {c1 c2 : Nat} {b : Bool} {xs : List Nat} (r1 : Row w A1 (u32s xs)) (r2 : Row w A2 (u32s xs)) (hl : xs.length ≤ 1000000) :
   Calls Tryz.prog 29 #[.agg #[.bool b,.slice A1 xs.length c1],.agg #[.bool b,.slice A2 xs.length c2]] w (SaysB w true):=by
 have hsm:=fun (W : World) (hW : Below w.heap.size w W)=>same_yes0 (w:=W) (c1:=c1) (c2:=c2) (r1.below hW) (r2.below hW) hl
 have HSM:=Lib.hid hsm
 clear hsm r1 r2 hl
 go_enter Tryz.func29,Tryz.ntmps29
 go_wp2_with fail
 refine (HSM.out _ (bal (bal (Below.refl _ _) _) _)).mono ?_
 rintro e w1 ⟨rfl,hd⟩
 have hb:=bstep (bal (bal (Below.refl w.heap.size w) _) _) hd.below
 clear hd
 go_wp2
 go_ret
 exact ⟨rfl,hb⟩
theorem sameInt_nv {w : World} {v1 v2 : Value} {b : Bool} {xs : List Nat} (h1 : Nv w v1 b xs) (h2 : Nv w v2 b xs) (hl : xs.length ≤ 1000000) : Calls Tryz.prog 29 #[v1,v2] w (SaysB w true):=by
 obtain ⟨A1,c1,rfl,r1⟩:=h1
 obtain ⟨A2,c2,rfl,r2⟩:=h2
 exact sameInt_raw r1 r2 hl
theorem LN.nv {W : World} {v : Value} {b : Bool} {xs : List Nat} (h : LN W v b xs) : Nv W v b xs:=by
 obtain ⟨g,c,h1,h2,_⟩:=h
 exact ⟨_,c,h1,h2.pre⟩
theorem keptInt_ln {w : World} {v1 v2 : Value} {b : Bool} {xs : List Nat} (h1 : LN w v1 b xs) (h2 : Nv w v2 b xs) (hl : xs.length ≤ 4000) : Calls Tryz.prog 87 #[v1,v2] w (SaysB w true):=by
 obtain ⟨g,cap,rfl,r1,hc⟩:=h1
 obtain ⟨A,c,rfl,r2⟩:=h2
 have hsm:=fun (W : World) (hW : Below w.heap.size w W)=>sameInt_raw (w:=W) (b:=b) (c1:=cap) (c2:=c) (r1.pre.below hW) (r2.below hW) (by omega)
 have hke:=fun (W : World) (hW : Below w.heap.size w W)=>kept_any (w:=W) (c:=c) (r1.below hW) hc (r2.below hW) hl
 have HSM:=Lib.hid hsm
 have HKE:=Lib.hid hke
 clear hsm hke r1 r2 hl hc
 go_enter Tryz.func87,Tryz.ntmps87
 go_wp2_with fail
 refine (HSM.out _ (bal (bal (Below.refl _ _) _) _)).mono ?_
 rintro e w1 ⟨rfl,hb⟩
 have K1:=(hb.block w.heap.size (by simp <;> omega)).trans ((Below.heap_alloc _ _ _ (by simp <;> omega)).trans (new_at (by simp)))
 have K2:=(hb.block (w.heap.size + 1) (by simp)).trans (new_at (by simp))
 have hb1:=bstep (bal (bal (Below.refl w.heap.size w) _) _) hb
 obtain ⟨m1,m2,m3,m4⟩:=cell_of_two K1
 obtain ⟨n1,n2,n3,n4⟩:=cell_of_two K2
 have HB1:=Lib.hid hb1
 clear hb hb1 m3 m4 n3 n4
 go_wp2_with fail
 refine (HKE.out _ HB1.out).mono ?_
 rintro e w2 ⟨rfl,hd⟩
 have HB2:=Lib.hid (bstep HB1.out hd.below)
 clear hd
 go_wp2
 go_ret
 exact ⟨rfl,HB2.out⟩
section
variable {G : List Nat} {S0 B : Nat} {ks : List PK} {a0 : Act} {i : Nat} {N : Nat} {W0 : World} {T : TypeId} {pos : String} {af : Array Edge} {gu : Option (Nat × Bool)} {b b' : Bool} {xs ys : List Nat}
theorem st_loadL0 {d t j g : Nat} (hl : LocL W0 g b xs b' ys)     (hj : at_ ks j = kIs (.pointer (some ⟨g,0,none⟩))) (hi : at_ ks i = kLN b xs) (hG : g ∉ G:=by simp) (hN : a0.tmps.size = N:=by assumption) (hd : decide (d < N) = true:=by kernel_rfl) (ht : decide (t < N) = true:=by kernel_rfl) :
   PkStep Tryz.prog (Reg B W0 G) S0 ks a0 i { dst:=some d,op:=.load 24 (.tmp t),type:=T,pos:=pos,after:=af,guard:=gu } [(j,some t)]:=by
 intro w x hC
 refine aw _ fun hdeps K hK=>?_
 have g1:=hdeps (j,some t) (by simp)
 rw [hj] at g1
 have g2 : x j = .pointer (some ⟨g,0,none⟩):=g1
 have e1 : (putE x a0 [(j,some t)]).eval (.tmp t) = x j:=putE_new _ _ (by rw [hN]; exact of_decide_eq_true ht) (by simp [slotAt])
 obtain ⟨A,c,A',c',h1,h2⟩:=(hC.locL hG hl).parts
 obtain ⟨m1,m2,_,_,_,_,_,_⟩:=h1.four
 obtain ⟨gg,cc,gg',cc',e,⟨h4,h5⟩,_⟩:=h2
 injection e with e; injection e with e
 injection e with _ e; injection e with e _; injection e with q1 q2 q3
 subst q1; subst q3
 refine bj (w':=w) rfl (by rw [ax,hN]) hd (ex_load (e1.trans g2) (run_load m1 m2)) (hK _ _ ?_ ?_)
 · rw [hi]; exact Below.refl _ _
 · rw [hi]; exact ⟨_,_,rfl,h4,h5⟩
theorem st_loadL1 {d t j g : Nat} (hl : LocL W0 g b xs b' ys)     (hj : at_ ks j = kIs (.pointer (some ⟨g,2,none⟩))) (hi : at_ ks i = kLN b' ys) (hG : g ∉ G:=by simp) (hN : a0.tmps.size = N:=by assumption) (hd : decide (d < N) = true:=by kernel_rfl) (ht : decide (t < N) = true:=by kernel_rfl) :
   PkStep Tryz.prog (Reg B W0 G) S0 ks a0 i { dst:=some d,op:=.load 24 (.tmp t),type:=T,pos:=pos,after:=af,guard:=gu } [(j,some t)]:=by
 intro w x hC
 refine aw _ fun hdeps K hK=>?_
 have g1:=hdeps (j,some t) (by simp)
 rw [hj] at g1
 have g2 : x j = .pointer (some ⟨g,2,none⟩):=g1
 have e1 : (putE x a0 [(j,some t)]).eval (.tmp t) = x j:=putE_new _ _ (by rw [hN]; exact of_decide_eq_true ht) (by simp [slotAt])
 obtain ⟨A,c,A',c',h1,h2⟩:=(hC.locL hG hl).parts
 obtain ⟨_,_,m3,m4,_,_,_,_⟩:=h1.four
 obtain ⟨gg,cc,gg',cc',e,_,h4,h5⟩:=h2
 injection e with e; injection e with e
 injection e with _ e; injection e with _ e; injection e with _ e; injection e with e _; injection e with q1 q2 q3
 subst q1; subst q3
 refine bj (w':=w) rfl (by rw [ax,hN]) hd (ex_load (e1.trans g2) (run_loadAt m3 m4)) (hK _ _ ?_ ?_)
 · rw [hi]; exact Below.refl _ _
 · rw [hi]; exact ⟨_,_,rfl,h4,h5⟩
end
end Go.Proofs.YtifgcjpgelbelaaGreatDoor
set_option linter.unusedVariables false
set_option linter.unusedSimpArgs false
namespace Go.Proofs.YtifgcjpgelbelaaGreatDoor
open Go.RowKit
def LO (W : World) (B g cap : Nat) (xs : List Nat) : Prop:=Own W B 88 (.slice (some ⟨g,0,none⟩) (xs.length + 12) cap) (u32s (xs ++ markL 12))
def Lo (W : World) (B : Nat) (v : Value) (b : Bool) (xs : List Nat) (b' : Bool) (ys : List Nat) : Prop:=∃ g c g' c',v = .agg #[.bool b,.slice (some ⟨g,0,none⟩) xs.length c,.bool b',.slice (some ⟨g',0,none⟩) ys.length c'] ∧ (LO W B g c xs ∧ xs.length + 12 ≤ c) ∧ LO W B g' c' ys ∧ ys.length + 12 ≤ c'
theorem Lo.lv {W : World} {B : Nat} {v : Value} {b b' : Bool} {xs ys : List Nat} (h : Lo W B v b xs b' ys) : Lv W v b xs b' ys:=by
 obtain ⟨g,c,g',c',h1,⟨h2,h3⟩,h4,h5⟩:=h
 exact ⟨g,c,g',c',h1,⟨Own.row32 h2,h3⟩,Own.row32 h4,h5⟩
theorem Lo.below {W W' : World} {B : Nat} {v : Value} {b b' : Bool} {xs ys : List Nat} (h : Lo W B v b xs b' ys) (hb : Below W.heap.size W W') : Lo W' B v b xs b' ys:=by
 obtain ⟨g,c,g',c',h1,⟨h2,h3⟩,h4,h5⟩:=h
 exact ⟨g,c,g',c',h1,⟨Own.below h2 hb,h3⟩,Own.below h4 hb,h5⟩
theorem Lo.mono {W : World} {B B' : Nat} {v : Value} {b b' : Bool} {xs ys : List Nat} (h : Lo W B v b xs b' ys) (hB : B' ≤ B) : Lo W B' v b xs b' ys:=by
 obtain ⟨g,c,g',c',h1,⟨h2,h3⟩,h4,h5⟩:=h
 exact ⟨g,c,g',c',h1,⟨Own.mono h2 hB,h3⟩,Own.mono h4 hB,h5⟩
theorem Lo.stored {W W' : World} {B k : Nat} {v : Value} {b b' : Bool} {xs ys : List Nat} (h : Lo W B v b xs b' ys) (hs : Stored k W W') : Lo W' B v b xs b' ys:=by
 obtain ⟨g,c,g',c',h1,⟨h2,h3⟩,h4,h5⟩:=h
 exact ⟨g,c,g',c',h1,⟨Own.stored h2 hs,h3⟩,Own.stored h4 hs,h5⟩
theorem lentInt_own {w : World} {A : Option Addr} {c : Nat} {b : Bool} {xs : List Nat} (hr : Row w A (u32s xs)) (hlen : xs.length ≤ 4000) :
   Calls Tryz.prog 61 #[.agg #[.bool b,.slice A xs.length c]] w fun e w'=>∃ g cap,e = .returned (.agg #[.bool b,.slice (some ⟨g,0,none⟩) xs.length cap]) ∧ LO w' w.heap.size g cap xs ∧ xs.length + 12 ≤ cap ∧ Below w.heap.size w w':=by
 have hl:=fun (W : World) (hW : Below w.heap.size w W)=>lent_any (c:=c) (hr.below hW) hlen
 have HL:=Lib.hid hl
 clear hl hr hlen
 go_enter Tryz.func61,Tryz.ntmps61
 go_wp2_with fail
 refine (HL.out _ (bal (bal (Below.refl _ _) _) _)).mono ?_
 rintro e w1 ⟨g,cap,rfl,hg,ho,hb⟩
 have K1:=(hb.block w.heap.size (by simp <;> omega)).trans ((Below.heap_alloc _ _ _ (by simp <;> omega)).trans (new_at (by simp)))
 have K2:=(hb.block (w.heap.size + 1) (by simp)).trans (new_at (by simp))
 have hb1:=bstep (bal (bal (Below.refl w.heap.size w) _) _) hb
 obtain ⟨m1,m2,m3,m4⟩:=cell_of_two K1
 obtain ⟨n1,n2,n3,n4⟩:=cell_of_two K2
 have HO:=Lib.hid ho
 have s1:=lt_block K1
 have s2:=lt_block K2
 clear hb ho hg
 go_wp2
 have hcap : xs.length + 12 ≤ cap:=by
   obtain ⟨_,_,e,_,hc,_⟩:=HO.out.slice32; injection e with _ e2 e3; omega
 have K3 : (w1.setCell ⟨w.heap.size,1,none⟩ (.slice (some ⟨g,0,none⟩) xs.length cap)).heap[w.heap.size + 1]? = some (Obj.cells #[Value.bool false,Value.slice none 0 0] 24):=(Below.heap_setCell _ _ _ _ (by simp)).trans K2
 have hh : Holds_ (w1.setCell ⟨w.heap.size,1,none⟩ (.slice (some ⟨g,0,none⟩) xs.length cap)) (w.heap.size + 1) #[Value.bool false,Value.slice none 0 0]:=⟨⟨_,K3⟩,by simp [noDig]⟩
 have hp:=ay hh (noDig_bool b) (noDig_slice (some ⟨g,0,none⟩) xs.length cap)
 obtain ⟨q1,q2,_,_⟩:=hp.two
 have r1:=(HO.out.setBelow (p:=⟨w.heap.size,1,none⟩) (by simp <;> omega) (.slice (some ⟨g,0,none⟩) xs.length cap)).mono (B':=w.heap.size) (by simp <;> omega)
 unfold put2 at q1 q2
 refine bodyPost_ret (v:=.agg #[.bool b,.slice (some ⟨g,0,none⟩) xs.length cap]) (by simp [results,Tryz.results61,go_sem,q1,q2]) rfl ?_
 refine ⟨g,cap,rfl,?_,hcap,((hb1.setCell (by simp) _).setCell (by simp) _).setCell (by simp) _⟩
 have st:=stored_put2 hh (noDig_bool b) (noDig_slice (some ⟨g,0,none⟩) xs.length cap)
 exact Own.stored r1 st
theorem lentRatio_own {w : World} {v : Value} {b b' : Bool} {xs ys : List Nat} (h : Qv w v b xs b' ys) (hlen : xs.length ≤ 4000) (hlen' : ys.length ≤ 4000) :
   Calls Tryz.prog 11 #[v] w fun e w'=>∃ u,e = .returned u ∧ Lo w' w.heap.size u b xs b' ys ∧ Below w.heap.size w w':=by
 obtain ⟨A,c,A',c',rfl,hr,hr'⟩:=h
 have hl:=fun (W : World) (hW : Below w.heap.size w W)=>lentInt_own (c:=c) (b:=b) (hr.below hW) hlen
 have hl':=fun (W : World) (hW : Below w.heap.size w W)=>lentInt_own (c:=c') (b:=b') (hr'.below hW) hlen'
 have HL:=Lib.hid hl
 have HL':=Lib.hid hl'
 clear hl hl' hr hr' hlen hlen'
 go_enter Tryz.func11,Tryz.ntmps11
 go_wp2_with fail
 refine (HL.out _ (bal (bal (Below.refl _ _) _) _)).mono ?_
 rintro e w1 ⟨g,cap,rfl,hrow,hcap,hb⟩
 have K1:=(hb.block w.heap.size (by simp <;> omega)).trans ((Below.heap_alloc _ _ _ (by simp <;> omega)).trans (new_at (by simp)))
 have K2:=(hb.block (w.heap.size + 1) (by simp)).trans (new_at (by simp))
 have hb1:=bstep (bal (bal (Below.refl w.heap.size w) _) _) hb
 have h4 : Holds_ w1 w.heap.size #[.bool b,.slice A xs.length c,.bool b',.slice A' ys.length c']:=⟨⟨_,K1⟩,by simp [noDig]⟩
 have h5 : Holds_ w1 (w.heap.size + 1) #[.bool false,.slice none 0 0,.bool false,.slice none 0 0]:=⟨⟨_,K2⟩,by simp [noDig]⟩
 obtain ⟨m1,m2,m3,m4,f1,f2,f3,f4⟩:=bz K1
 obtain ⟨hst,hh⟩:=ga h4 (noDig_bool b) (noDig_slice (some ⟨g,0,none⟩) xs.length cap)
 have H2:=Lib.hid (show _ ∧ _ ∧ _ ∧ _ ∧ _ from ⟨Own.stored hrow hst,hcap,hst.below hb1 (Nat.le_refl _),hh,h5.stored hst (by omega)⟩)
 have s1:=lt_block K1
 have s2:=lt_block K2
 clear hb hrow hcap hb1 K1 K2 h4 h5 hst hh
 go_wp2_with fail
 obtain ⟨w2,hw2⟩ : ∃ W,W = (w1.setCell ⟨w.heap.size,0,none⟩ (.bool b)).setCell ⟨w.heap.size,1,none⟩ (.slice (some ⟨g,0,none⟩) xs.length cap):=⟨_,rfl⟩
 rw [← hw2] at H2 ⊢
 clear hw2 m1 m2 m3 m4 f1 f2 f3 f4 s1 s2
 refine (HL'.out w2 H2.out.2.2.1).mono ?_
 rintro e w3 ⟨g',cap',rfl,hrow',hcap',hb'⟩
 obtain ⟨hrow,hcap,hb1,hh,h5⟩:=H2.out
 have h4:=hh.step hb'
 have h6:=h5.step hb'
 obtain ⟨m1,m2,m3,m4,f1,f2,f3,f4⟩:=h4.four
 obtain ⟨hst,hh4⟩:=gb h4 (noDig_bool b') (noDig_slice (some ⟨g',0,none⟩) ys.length cap')
 have h7:=h6.stored hst (by omega)
 have hst2:=bu h7 (noDig_bool b) (noDig_slice (some ⟨g,0,none⟩) xs.length cap) (noDig_bool b') (noDig_slice (some ⟨g',0,none⟩) ys.length cap')
 have hh7:=cd h7 (noDig_bool b) (noDig_slice (some ⟨g,0,none⟩) xs.length cap) (noDig_bool b') (noDig_slice (some ⟨g',0,none⟩) ys.length cap')
 have hb3:=bstep hb1 hb'
 have H3:=Lib.hid (show _ ∧ _ ∧ _ ∧ _ ∧ _ ∧ _ ∧ _ from ⟨Own.mono (B':=w.heap.size) (Own.stored (Own.stored (Own.below hrow hb') hst) hst2) (by simp <;> omega),hcap,Own.mono (Own.stored (Own.stored hrow' hst) hst2) hb1.size,hcap',hst2.below (hst.below hb3 (Nat.le_refl _)) (by omega),hh4,hh7⟩)
 have s1:=h4.lt
 have s2:=h6.lt
 obtain ⟨n1,n2,n3,n4,k1,k2,k3,k4⟩:=h6.four
 clear hrow hcap hb1 hh h5 h4 h6 hst hh4 h7 hst2 hh7 hb3 hrow' hcap' hb'
 go_wp2_with fail
 obtain ⟨q1,q2,q3,q4,q5,_,hh7⟩:=H3.out
 obtain ⟨o1,o2,o3,o4,_,_,_,_⟩:=hh7.four
 unfold put4 at o1 o2 o3 o4
 refine bodyPost_ret (v:=.agg #[.bool b,.slice (some ⟨g,0,none⟩) xs.length cap,.bool b',.slice (some ⟨g',0,none⟩) ys.length cap']) (by simp [results,Tryz.results11,go_sem,o1,o2,o3,o4]) rfl ?_
 exact ⟨_,rfl,⟨g,cap,g',cap',rfl,⟨q1,q2⟩,q3,q4⟩,q5⟩
end Go.Proofs.YtifgcjpgelbelaaGreatDoor
set_option linter.unusedVariables false
set_option linter.unusedSimpArgs false
namespace Go.Proofs.YtifgcjpgelbelaaGreatDoor
open Go.RowKit
def MarkZ (W : World) (B : Nat) (v : Value) (d : Nat) : Prop:=∃ g,v = .agg #[.bool false,.slice (some ⟨g,0,none⟩) 1 1] ∧ Own W B 88 (.slice (some ⟨g,0,none⟩) 1 1) (u32s [d])
def MarkQ (W : World) (B : Nat) (v : Value) (d : Nat) : Prop:=∃ g,v = .agg #[.bool false,.slice (some ⟨g,0,none⟩) 1 1,.bool false,.slice none 0 0] ∧ Own W B 88 (.slice (some ⟨g,0,none⟩) 1 1) (u32s [d])
theorem markInt_any {w : World} (k : Nat) (hk : k ≤ 12) :
   Calls Tryz.prog 95 #[.int .i64 1,.int .i64 (k : Int)] w fun e w'=>∃ v,e = .returned v ∧ MarkZ w' w.heap.size v (8000024 + k) ∧ Below w.heap.size w w':=by
 have hmk:=fun (W : World)=>mark_any 1 (k : Int) (by omega) (by omega) W
 have HMK:=Lib.hid hmk
 clear hmk
 go_enter Tryz.func95,Tryz.ntmps95
 go_wp2_with (go_at_call 129; refine (HMK.out _).mono ?_; rintro e w' ⟨rfl,rfl⟩)
 obtain ⟨w1,hw1⟩ : ∃ W,W = w.alloc (Obj.cells #[Value.bool false,Value.slice (some { block:=w.heap.size + 1,off:=0 }) 1 1] 24):=⟨_,rfl⟩
 have hs1 : w1.heap.size = w.heap.size + 1:=by rw [hw1]; simp
 have hb1 : Below w.heap.size w w1:=by rw [hw1]; exact bal (Below.refl _ _) _
 have K1 : w1.heap[w.heap.size]? = some (Obj.cells #[Value.bool false,Value.slice (some { block:=w.heap.size + 1,off:=0 }) 1 1] 24):=by rw [hw1]; exact new_at rfl
 rw [← hw1]
 clear hw1
 have r1 : Own (w1.alloc (.cells #[Value.int IntKind.u32 (8000024 + (k : Int))] 88)) w.heap.size 88 (.slice (some ⟨w1.heap.size,0,none⟩) 1 1) [Value.int IntKind.u32 (8000024 + (k : Int))]:=Own.mk_ (World.ownsRow_lit w1 #[Value.int IntKind.u32 (8000024 + (k : Int))] 1 (by omega) (by unfold maxLen; simp) rfl)
 rw [hs1] at r1
 have K2:=(Below.heap_alloc w1 (Obj.cells #[Value.int IntKind.u32 (8000024 + (k : Int))] 88) w.heap.size (by omega)).trans K1
 have hb2:=bal hb1 (Obj.cells #[Value.int IntKind.u32 (8000024 + (k : Int))] 88)
 obtain ⟨m1,m2,_,_⟩:=cell_of_two K2
 refine bodyPost_ret (v:=.agg #[.bool false,.slice (some ⟨w.heap.size + 1,0,none⟩) 1 1]) (by simp [results,Tryz.results95,go_sem,m1,m2]) rfl ?_
 exact ⟨_,rfl,⟨_,rfl,by simpa [u32s] using r1⟩,hb2⟩
theorem markRatio_any {w : World} (k : Nat) (hk : k ≤ 12) :
   Calls Tryz.prog 88 #[.int .i64 1,.int .i64 (k : Int)] w fun e w'=>∃ v,e = .returned v ∧ MarkQ w' w.heap.size v (8000024 + k) ∧ Below w.heap.size w w':=by
 have hmk:=fun (W : World)=>markInt_any (w:=W) k hk
 have HMK:=Lib.hid hmk
 clear hmk
 go_enter Tryz.func88,Tryz.ntmps88
 go_wp2_with fail
 refine (HMK.out _).mono ?_
 rintro e w1 ⟨v,rfl,⟨g,rfl,hr⟩,hb⟩
 have K1:=(hb.block w.heap.size (by simp)).trans (new_at rfl)
 have hb1:=bstep (bal (Below.refl w.heap.size w) _) hb
 have h4 : Holds_ w1 w.heap.size #[.bool false,.slice none 0 0,.bool false,.slice none 0 0]:=⟨⟨_,K1⟩,by simp [noDig]⟩
 obtain ⟨m1,m2,m3,m4,f1,f2,f3,f4⟩:=h4.four
 have hst:=bu h4 (noDig_bool false) (noDig_slice (some ⟨g,0,none⟩) 1 1) (noDig_bool false) (noDig_slice none 0 0)
 have hh:=cd h4 (noDig_bool false) (noDig_slice (some ⟨g,0,none⟩) 1 1) (noDig_bool false) (noDig_slice none 0 0)
 have hrow:=Own.mono (B':=w.heap.size) (Own.stored hr hst) (by simp)
 have hb2:=hst.below hb1 (Nat.le_refl _)
 have H:=Lib.hid (show _ ∧ _ ∧ _ from ⟨hrow,hb2,hh⟩)
 have s1:=h4.lt
 clear hr hb K1 hb1 h4 hst hh hrow hb2
 go_wp2
 obtain ⟨hrow,hb2,hh⟩:=H.out
 obtain ⟨o1,o2,o3,o4,_,_,_,_⟩:=hh.four
 unfold put4 at o1 o2 o3 o4
 refine bodyPost_ret (v:=.agg #[.bool false,.slice (some ⟨g,0,none⟩) 1 1,.bool false,.slice none 0 0]) (by simp [results,Tryz.results88,go_sem,o1,o2,o3,o4]) rfl ?_
 exact ⟨_,rfl,⟨g,rfl,hrow⟩,hb2⟩
end Go.Proofs.YtifgcjpgelbelaaGreatDoor
namespace Go.Proofs.YtifgcjpgelbelaaGreatDoor
open Go.ChangeShapes Go.WideShapes Go.ChangeAt Go.WideMaps Go.WideElems Go.RowKit
open Go.ChangeMaps (setBlock shut_map_nil open_string shut_string keptBut_setBlock frozen?_setBlock heap_setBlock_same)
theorem maxL_of {W : World} (h : W.ShapedOpen Tryz.prog) : MaxL W :=
 cell_of_shapedOpen_int (P:=Tryz.prog) (g:=0) (t:=3) (zero:=#[.int .i64 0]) h (of_decide_eq_true (by kernel_rfl)) (by kernel_rfl) rfl (by kernel_rfl) (by kernel_rfl) Tryz.underlying3
theorem handed_and_shape {H : Type} {enc : TypeId × Value → H} {os : Os} {f : FuncId} {fn : Func} {s : ChangeSpec} {apart fresh handsOn again : Bool} {X : World → Prop} (hX : ∀ w w' : World, w.heap = w'.heap → X w → X w') (started : os.Started) (noInit : Tryz.checked.prog.inits.idxOf? f = none) (hfn : Tryz.checked.prog.funcs[f]? = some fn)
   (witness : ∃ (w : World) (tape : Tape) (i : Input), w.os = os ∧ (w.forCall tape i).Shaped Tryz.checked.prog ∧ i.vars = [] ∧ Input.okWide Tryz.checked.prog (w.forCall tape i) .any w.heap.size f i ∧
     ((s.pre enc Tryz.checked.prog fn [] apart (w.forCall tape i).memory i.args ∧ X (w.forCall tape i).memory) ∧ sizedMet enc Tryz.checked.prog fn (OpenSpec.ofChange s) apart (w.forCall tape i).memory i.args) ∧ ({} : Assume).holds Tryz.checked.prog (lone (Frame.enter Tryz.checked.prog f i.args .normal) [] (w.forCall tape i)))
   (contract : ∀ (W : World) (base : Nat) (args : Array Value) (ds gs : List (DataW H)) (before : List MemPlace),
     (∀ (j : Nat) t v,fn.params[j]? = some t → args[j]? = some v → Value.okWide Tryz.checked.prog W .any base t v) →
     DataW.Whole enc Tryz.checked.prog fn.params.toList s.vars apart W args.toList ds gs before → W.ShapedOpen Tryz.checked.prog → X W →
     (DataW.weightsEach Tryz.checked.prog (fn.params.toList ++ s.plain.varTypes Tryz.checked.prog) (ds ++ gs)).all (· ≤ reachBytes) = true →
     Calls Tryz.checked.prog f args W fun e W'=>∃ v,e = .returned v ∧ s.post enc Tryz.checked.prog fn apart fresh handsOn again W args v W') :
   ReturnsInHanded {} Tryz.checked os f .any (fun w args=>(s.pre enc Tryz.checked.prog fn [] apart w args ∧ X w) ∧ sizedMet enc Tryz.checked.prog fn (OpenSpec.ofChange s) apart w args) (s.post enc Tryz.checked.prog fn apart fresh handsOn again):=by
 refine returnsInHanded_of_calls own started noInit witness fun w tape i _ shape _ good met _=>?_
 obtain ⟨_,_,_,g,hg,_,_,_,_,vals⟩:=good
 obtain rfl : g = fn:=Option.some.inj (hg.symm.trans hfn)
 obtain ⟨⟨⟨ds,gs,before,whole,_⟩,x⟩,size⟩:=met
 exact (contract (w.forCall tape i) w.heap.size i.args ds gs before vals (DataW.Whole.of_heap (w':=w.forCall tape i) (by rfl) whole) shape (hX _ _ (by rfl) x) (size.weights whole)).mono fun _ _ ⟨v,e,p⟩=>e ▸ ChangeSpec.post_blind p
end Go.Proofs.YtifgcjpgelbelaaGreatDoor
namespace Go.Proofs.YtifgcjpgelbelaaGreatDoor
open Go.ChangeShapes Go.WideShapes Go.ChangeAt Go.WideMaps Go.WideElems Go.RowKit
def AtN (W : World) (p : Addr) (q : Bool × List Nat) : Prop:=∃ A c,W.cell? p = some (.bool q.1) ∧ W.cell? (p.add 1) = some (.slice A q.2.length c) ∧ Row W A (u32s q.2) ∧ small 4294967296 q.2
def RawZs (W : World) (A : Option Addr) (L : List (Bool × List Nat)) : Prop:=∀ j q,L[j]? = some q → ∃ ad,A = some ad ∧ AtN W (ad.add (j * 2)) q
def RawQs (W : World) (A : Option Addr) (L : List ((Bool × List Nat) × Bool × List Nat)) : Prop:=∀ j q,L[j]? = some q → ∃ ad,A = some ad ∧ AtN W (ad.add (j * 4)) q.1 ∧ AtN W ((ad.add (j * 4)).add 2) q.2
theorem AtN.below {W W' : World} {p : Addr} {q : Bool × List Nat} (h : AtN W p q) (hb : Below W.heap.size W W') : AtN W' p q:=by
 obtain ⟨A,c,h1,h2,h3,h4⟩:=h
 exact ⟨A,c,(hb.cell (cell_lt h1)).trans h1,(hb.cell (cell_lt h2)).trans h2,h3.below hb,h4⟩
theorem RawZs.below {W W' : World} {A : Option Addr} {L : List (Bool × List Nat)} (h : RawZs W A L) (hb : Below W.heap.size W W') : RawZs W' A L:=fun j q hj=>by
 obtain ⟨ad,e,h1⟩:=h j q hj
 exact ⟨ad,e,h1.below hb⟩
theorem RawQs.below {W W' : World} {A : Option Addr} {L : List ((Bool × List Nat) × Bool × List Nat)} (h : RawQs W A L) (hb : Below W.heap.size W W') : RawQs W' A L:=fun j q hj=>by
 obtain ⟨ad,e,h1,h2⟩:=h j q hj
 exact ⟨ad,e,h1.below hb,h2.below hb⟩
theorem list_of {α : Type} {p : Nat → α → Prop} : ∀ n : Nat, (∀ i, i < n → ∃ a, p i a) → ∃ L : List α, L.length = n ∧ ∀ i a, L[i]? = some a → p i a
 | 0,_=>⟨[],rfl,fun i a h=>by simp at h⟩
 | n + 1,h=>by
   obtain ⟨L,hl,hp⟩:=list_of n fun i hi=>h i (by omega); obtain ⟨a,ha⟩:=h n (by omega); refine ⟨L ++ [a],by simp [hl],fun i b hb=>?_⟩; rcases Nat.lt_or_ge i n with hi | hi
   · rw [List.getElem?_append_left (by omega)] at hb; exact hp i b hb
   · rw [List.getElem?_append_right (by omega)] at hb
     have e : i - L.length = 0:=by
       rcases Nat.eq_zero_or_pos (i - L.length) with e | e
       · exact e
       · rw [List.getElem?_eq_none (by simp; omega)] at hb; cases hb
     rw [e] at hb; simp at hb; subst hb; have : i = n:=by omega
     subst this; exact ha
theorem add_none (p : Addr) : p.add 0 = p:=Addr.add_zero' p
end Go.Proofs.YtifgcjpgelbelaaGreatDoor
set_option linter.unusedVariables false
set_option linter.unusedSimpArgs false
namespace Go.Proofs.YtifgcjpgelbelaaGreatDoor
open Go.ChangeShapes Go.WideShapes Go.ChangeAt Go.WideMaps Go.WideElems Go.RowKit
theorem int_inner2 {H : Type} {enc : TypeId × Value → H} {W : World} {n : Nat} {c0 c1 : Value} {y : DataW H × List MemPlace} (h : DataW.trod enc Tryz.prog W 0 (fun _=>true) true n 24 [c0,c1] = some y) :
   ∃ (b : Bool) (A : Option Addr) (c : Nat) (ds : List Nat),c0 = .bool b ∧ c1 = .slice A ds.length c ∧ Row W A (u32s ds) ∧ small 4294967296 ds ∧ ds.length < 9223372036854775808 ∧ IntData y.1 b ds.length:=by
 obtain ⟨y0,y1,m,e,_,h0,h1⟩:=trod_struct2 Tryz.underlying24 h
 have k0 : Tryz.prog.cellsOf 4 = 1:=by kernel_rfl
 have k1 : Tryz.prog.cellsOf 22 = 1:=by kernel_rfl
 have h0' : DataW.trod enc Tryz.prog W 0 (fun _=>true) true m 4 [c0] = some y0:=by simpa [k0] using h0
 have h1' : DataW.trod enc Tryz.prog W 0 (fun _=>true) true m 22 [c1] = some y1:=by simpa [k1] using h1
 have hb : ∃ b,c0 = .bool b ∧ y0.1 = .lit (.bool b):=by
   obtain ⟨b,hc,hx⟩:=DataW.trod_bool Tryz.underlying4 h0'; injection hc with hc; exact ⟨b,hc,by rw [hx]⟩
 obtain ⟨b,rfl,e0⟩:=hb
 have ey : y.1 = .agg [y0.1,y1.1]:=by rw [e]
 rw [ey,e0]
 rcases open_ints Tryz.underlying22 Tryz.underlying88 (by kernel_rfl) h1' with ⟨hcs,hx⟩ | ⟨a,len,cap,zs,hcs,_,hl,hm,hz,hx,hcell,hw⟩
 · injection hcs with hcs; subst hcs; exact ⟨b,none,0,[],rfl,rfl,Row.nil _ _,bl _,(show 0 < 9223372036854775808 by omega),.inl ⟨by rw [hx],rfl⟩⟩
 · injection hcs with hcs; subst hcs; simp only [if_true] at hz; have hmx : maxLen < 9223372036854775808:=by unfold maxLen; omega
   have hll:=lim_length (zs:=zs) (n:=len) (by omega); refine ⟨b,some a,cap,lim zs len,rfl,by rw [hll],lim_row hl hz hw (fun h=>by cases h) (fun a' ha i hi=>?_),lim_small hw,by rw [hll]; omega,.inr ⟨_,_,by rw [hx],?_⟩⟩
   · injection ha with ha; subst ha; exact hcell i (by omega)
   · rw [hll]; simp [lits]; omega
end Go.Proofs.YtifgcjpgelbelaaGreatDoor
set_option linter.unusedVariables false
set_option linter.unusedSimpArgs false
namespace Go.Proofs.YtifgcjpgelbelaaGreatDoor
open Go.RowKit
def Own2 (W : World) (B : Nat) (v : Value) (n : Nat) (E : List Value) : Prop:=W.ownsRow B 24 2 v n E
theorem Own2.below {W W' : World} {B n : Nat} {v : Value} {E : List Value} (h : Own2 W B v n E) (hb : Below W.heap.size W W') : Own2 W' B v n E :=
 World.ownsRow.kept h (row:=none) ⟨hb.os,hb.tape,hb.output,hb.size,fun j hj _=>hb.block j hj⟩ (by cases hv : v.ownBlock <;> simp)
theorem own32_grown2 {W W' : World} {B B' n : Nat} {v lv : Value} {ds : List Nat} {E : List Value} (h : Own W B 88 v (u32s ds)) (hl : Own2 W B' lv n E) (hg : W.grownBy W' lv.ownBlock) : Own W' B 88 v (u32s ds):=by
 have hh : W.ownsRow B 88 1 v (u32s ds).length (u32s ds):=h
 have hll : W.ownsRow B' 24 2 lv n E:=hl
 refine World.ownsRow.kept hh hg ?_
 rcases hh.2 with ⟨rfl,_⟩ | ⟨g,cap,cur,rfl,_,hq,_⟩
 · exact .inl rfl
 · refine .inr fun e=>?_; rcases hll.2 with ⟨rfl,_⟩ | ⟨g2,cap2,cur2,rfl,_,hq2,_⟩
   · simp [Value.ownBlock] at e
   · have e2 : g = g2:=by simpa [Value.ownBlock] using e
     subst e2; rw [hq] at hq2; injection hq2 with hq2; injection hq2 with _ ht; exact absurd ht (by decide)
def Ln (W : World) (B : Nat) (v : Value) (b : Bool) (xs : List Nat) : Prop:=∃ g c,v = .agg #[.bool b,.slice (some ⟨g,0,none⟩) xs.length c] ∧ LO W B g c xs ∧ xs.length + 12 ≤ c
theorem Ln.below {W W' : World} {B : Nat} {v : Value} {b : Bool} {xs : List Nat} (h : Ln W B v b xs) (hb : Below W.heap.size W W') : Ln W' B v b xs:=by
 obtain ⟨g,c,h1,h2,h3⟩:=h
 exact ⟨g,c,h1,Own.below h2 hb,h3⟩
theorem Ln.mono {W : World} {B B' : Nat} {v : Value} {b : Bool} {xs : List Nat} (h : Ln W B v b xs) (hB : B' ≤ B) : Ln W B' v b xs:=by
 obtain ⟨g,c,h1,h2,h3⟩:=h
 exact ⟨g,c,h1,Own.mono h2 hB,h3⟩
theorem Ln.grown {W W' : World} {B B' n : Nat} {v lv : Value} {b : Bool} {xs : List Nat} {E : List Value} (h : Ln W B v b xs) (hl : Own2 W B' lv n E) (hg : W.grownBy W' lv.ownBlock) : Ln W' B v b xs:=by
 obtain ⟨g,c,h1,h2,h3⟩:=h
 exact ⟨g,c,h1,own32_grown2 h2 hl hg,h3⟩
theorem MarkZ.below {W W' : World} {B d : Nat} {v : Value} (h : MarkZ W B v d) (hb : Below W.heap.size W W') : MarkZ W' B v d:=by
 obtain ⟨g,h1,h2⟩:=h
 exact ⟨g,h1,Own.below h2 hb⟩
theorem MarkZ.grown {W W' : World} {B B' n d : Nat} {v lv : Value} {E : List Value} (h : MarkZ W B v d) (hl : Own2 W B' lv n E) (hg : W.grownBy W' lv.ownBlock) : MarkZ W' B v d:=by
 obtain ⟨g,h1,h2⟩:=h
 exact ⟨g,h1,own32_grown2 (ds:=[d]) h2 hl hg⟩
def At2 (E : List Value) (k : Nat) (v : Value) : Prop:=∃ a b,v = .agg #[a,b] ∧ E[k * 2]? = some a ∧ E[k * 2 + 1]? = some b
theorem At2.app {E : List Value} {k : Nat} {v : Value} (h : At2 E k v) (N : List Value) : At2 (E ++ N) k v:=by
 have lt : ∀ {i : Nat} {u : Value},E[i]? = some u → (E ++ N)[i]? = some u:=fun {i u} h=>by
   have : i < E.length:=(List.getElem?_eq_some_iff.1 h).1; rw [List.getElem?_append_left this]; exact h
 obtain ⟨a,b,e,h1,h2⟩:=h
 exact ⟨a,b,e,lt h1,lt h2⟩
theorem At2.new {E : List Value} {k : Nat} (a b : Value) (h : E.length = k * 2) : At2 (E ++ [a,b]) k (.agg #[a,b]):=by
 refine ⟨a,b,rfl,?_,?_⟩ <;> rw [List.getElem?_append_right (by omega)]
 · rw [show k * 2 - E.length = 0 by omega]; rfl
 · rw [show k * 2 + 1 - E.length = 1 by omega]; rfl
def LentZ (W : World) (B : Nat) (L : List (Bool × List Nat)) (E : List Value) : Prop:=∀ j q,L[j]? = some q → ∃ v,At2 E j v ∧ Ln W B v q.1 q.2
def MarkZs (W : World) (B n k : Nat) (E : List Value) : Prop:=∀ j,j < k → ∃ v,At2 E (n + j) v ∧ MarkZ W B v (8000024 + j)
theorem LentZ.below {W W' : World} {B : Nat} {L : List (Bool × List Nat)} {E : List Value} (h : LentZ W B L E) (hb : Below W.heap.size W W') : LentZ W' B L E:=fun j q hj=>by
 obtain ⟨v,h1,h2⟩:=h j q hj
 exact ⟨v,h1,h2.below hb⟩
theorem LentZ.grown {W W' : World} {B B' n : Nat} {lv : Value} {L : List (Bool × List Nat)} {E E' : List Value} (h : LentZ W B L E) (hl : Own2 W B' lv n E') (hg : W.grownBy W' lv.ownBlock) : LentZ W' B L E:=fun j q hj=>by
 obtain ⟨v,h1,h2⟩:=h j q hj
 exact ⟨v,h1,h2.grown hl hg⟩
theorem LentZ.app {W : World} {B : Nat} {L : List (Bool × List Nat)} {E : List Value} (h : LentZ W B L E) (N : List Value) : LentZ W B L (E ++ N):=fun j q hj=>by
 obtain ⟨v,h1,h2⟩:=h j q hj
 exact ⟨v,h1.app N,h2⟩
theorem MarkZs.below {W W' : World} {B n k : Nat} {E : List Value} (h : MarkZs W B n k E) (hb : Below W.heap.size W W') : MarkZs W' B n k E:=fun j hj=>by
 obtain ⟨v,h1,h2⟩:=h j hj
 exact ⟨v,h1,h2.below hb⟩
theorem MarkZs.grown {W W' : World} {B B' n k m : Nat} {lv : Value} {E E' : List Value} (h : MarkZs W B n k E) (hl : Own2 W B' lv m E') (hg : W.grownBy W' lv.ownBlock) : MarkZs W' B n k E:=fun j hj=>by
 obtain ⟨v,h1,h2⟩:=h j hj
 exact ⟨v,h1,h2.grown hl hg⟩
theorem MarkZs.app {W : World} {B n k : Nat} {E : List Value} (h : MarkZs W B n k E) (N : List Value) : MarkZs W B n k (E ++ N):=fun j hj=>by
 obtain ⟨v,h1,h2⟩:=h j hj
 exact ⟨v,h1.app N,h2⟩
theorem Own2.alloc {W : World} {B n : Nat} {v : Value} {E : List Value} (h : Own2 W B v n E) (o : Obj) : Own2 (W.alloc o) B v n E:=h.below ((Below.refl _ _).alloc (Nat.le_refl _) o)
theorem Own2.len {W : World} {B n : Nat} {v : Value} {E : List Value} (h : Own2 W B v n E) : E.length = n * 2:=h.1
theorem Own2.slice {W : World} {B n : Nat} {v : Value} {E : List Value} (h : Own2 W B v n E) (hn : 0 < n) : ∃ g cap,v = .slice (some ⟨g,0,none⟩) n cap ∧ n ≤ cap:=by
 rcases h.2 with ⟨_,h0⟩ | ⟨g,cap,cur,e,_,_,hle,_⟩
 · omega
 · exact ⟨g,cap,e,hle⟩
theorem LentZ.snoc {W : World} {B k : Nat} {L : List (Bool × List Nat)} {E : List Value} {q : Bool × List Nat} (h : LentZ W B (L.take k) E) (hat : L[k]? = some q) {v : Value} (h4 : At2 E k v) (ho : Ln W B v q.1 q.2) : LentZ W B (L.take (k + 1)) E:=fun j p hj=>by
 by_cases hk : j < k
 · refine h j p ?_; rw [List.getElem?_take] at hj ⊢; rw [if_pos (by omega)] at hj; rw [if_pos hk]; exact hj
 · rw [List.getElem?_take] at hj; split at hj
   · obtain rfl : j = k:=by omega
     rw [hat] at hj; obtain rfl:=Option.some.inj hj; exact ⟨v,h4,ho⟩
   · cases hj
theorem MarkZs.snoc {W : World} {B n k : Nat} {E : List Value} (h : MarkZs W B n k E) {v : Value} (h4 : At2 E (n + k) v) (ho : MarkZ W B v (8000024 + k)) : MarkZs W B n (k + 1) E:=fun j hj=>by
 by_cases hk : j < k
 · exact h j hk
 · obtain rfl : j = k:=by omega
   exact ⟨v,h4,ho⟩
def LensA (W : World) (A : Option Addr) (l : List (Nat × Nat)) : Prop:=∀ j q,l[j]? = some q → ∃ ad,A = some ad ∧ (∃ B c,W.cell? ((ad.add (j * 4)).add 1) = some (.slice B q.1 c)) ∧ ∃ B c,W.cell? (((ad.add (j * 4)).add 2).add 1) = some (.slice B q.2 c)
def lensOf (L : List ((Bool × List Nat) × Bool × List Nat)) : List (Nat × Nat):=L.map fun q=>(q.1.2.length,q.2.2.length)
theorem RawQs.lens {W : World} {A : Option Addr} {L : List ((Bool × List Nat) × Bool × List Nat)} (h : RawQs W A L) : LensA W A (lensOf L):=fun j q hj=>by
 unfold lensOf at hj
 rw [List.getElem?_map] at hj
 cases hL : L[j]? with
 | none=>rw [hL] at hj; cases hj
 | some x =>
   rw [hL] at hj; obtain rfl:=Option.some.inj hj; obtain ⟨ad,e,⟨A1,c1,_,h1,_,_⟩,A2,c2,_,h2,_,_⟩:=h j x hL; exact ⟨ad,e,⟨A1,c1,h1⟩,A2,c2,h2⟩
theorem di (L : List ((Bool × List Nat) × Bool × List Nat)) : (lensOf L).length = L.length:=by unfold lensOf; rw [List.length_map]
theorem few_raw {w : World} {A : Option Addr} {c0 : Nat} {l : List (Nat × Nat)} (hL : LensA w A l) (hlen : l.length < 9223372036854775808) (hb : ∀ q ∈ l,q.1 < 9223372036854775808 ∧ q.2 < 9223372036854775808) :
   Calls Tryz.prog 10 #[.slice A l.length c0] w fun e w'=>e = .returned (.bool (fewP l && decide (l.length ≤ 6))) ∧ w' = w:=by
 have HL:=Lib.hid hL
 have HB:=Lib.hid hb
 obtain ⟨n,hn⟩ : ∃ n,n = l.length:=⟨_,rfl⟩
 rw [← hn] at hlen ⊢
 have HN:=Lib.hid hn
 obtain ⟨r,hr⟩ : ∃ r,r = (fewP l && decide (n ≤ 6)):=⟨_,rfl⟩
 rw [← hr]
 have HR:=Lib.hid hr
 clear hL hb hn hr
 go_enter Tryz.func10,Tryz.ntmps10
 go_wp2
 go_loop [3] (fun iv=>∃ (k : Nat),k ≤ n ∧ iv = .int .i64 (k : Int) ∧ Hid (fewP (l.take k) = true)) (fun iv=>n - (intOf iv).toNat)
 case atStart=>exact ⟨0,Nat.zero_le _,rfl,rfl⟩
 case round =>
   obtain ⟨k,hk,rfl,HS⟩:=hrel
   by_cases hlt : k < n
   · have hlt' : decide ((k : Int) < (n : Int)) = true:=decide_eq_true (by omega); have hkL : k < l.length:=by rw [← HN.out]; exact hlt
     obtain ⟨⟨p,q⟩,hpq⟩ : ∃ m,m = l[k]:=⟨_,rfl⟩
     obtain ⟨ad,rfl,⟨A1,c1,h1⟩,A2,c2,h2⟩:=HL.out k (p,q) (by rw [List.getElem?_eq_getElem hkL,hpq]); have h1 : w.cell? { block:=(ad.add (k * 4)).block,off:=(ad.add (k * 4)).off + 1 } = some (.slice A1 p c1):=h1; have h2 : w.cell? { block:=(ad.add (k * 4)).block,off:=(ad.add (k * 4)).off + 2 + 1 } = some (.slice A2 q c2):=h2; have hmem : (p,q) ∈ l:=by rw [hpq]; exact List.getElem_mem hkL
     obtain ⟨bp,bq⟩:=HB.out _ hmem; have bp : p < 9223372036854775808:=bp; have bq : q < 9223372036854775808:=bq
     have htk : fewP (l.take (k + 1)) = (decide (p ≤ 8) && decide (q ≤ 8)):=by
       have hs : l.take (k + 1) = l.take k ++ [(p,q)]:=by rw [List.take_add_one,List.getElem?_eq_getElem hkL,← hpq]; rfl
       rw [hs]; unfold fewP; rw [List.all_append]; have:=HS.out; unfold fewP at this; rw [this]; simp
     have HT:=Lib.hid htk; have HM:=Lib.hid hmem; clear htk hmem hpq
     have no : ¬ (p ≤ 8 ∧ q ≤ 8) → r = false:=fun h=>by
       have : fewP l = false:=by
         unfold fewP; rw [List.all_eq_false]; exact ⟨_,HM.out,by simp; omega⟩
       rw [HR.out,this]; rfl
     by_cases hp : 8 < p
     · have er:=no (by omega); clear no HR; subst er; have hp1 : decide ((8 : Int) < (p : Int)) = true:=decide_eq_true (by omega)
       go_wp2
       go_ret
       exact ⟨rfl,rfl⟩
     · have hp1 : decide ((8 : Int) < (p : Int)) = false:=decide_eq_false (by omega)
       by_cases hq : 8 < q
       · have er:=no (by omega); clear no HR; subst er; have hq1 : decide ((8 : Int) < (q : Int)) = true:=decide_eq_true (by omega)
         go_wp2
         go_ret
         exact ⟨rfl,rfl⟩
       · have hq1 : decide ((8 : Int) < (q : Int)) = false:=decide_eq_false (by omega); have HPQ:=Lib.hid (show p ≤ 8 ∧ q ≤ 8 by omega); clear no hp hq
         go_wp2
         go_round
         case rel=>exact ⟨k + 1,by omega,by go_num,by
           show fewP (l.take (k + 1)) = true
           rw [HT.out,decide_eq_true HPQ.out.1,decide_eq_true HPQ.out.2]; rfl⟩
         case measure=>simp [intOf]; omega
   · have hk' : k = n:=by omega
     have er : r = decide (n ≤ 6):=by
       have : fewP l = true:=by rw [← HS.out,hk',HN.out,List.take_length]
       rw [HR.out,this]; rfl
     clear HR hk'; subst er
     go_wp2
     go_ret
     have e1 : decide ((n : Int) ≤ (6 : Int)) = decide (n ≤ 6):=decide_eq_decide.2 (by omega); exact ⟨by simp [e1],rfl⟩
end Go.Proofs.YtifgcjpgelbelaaGreatDoor
set_option linter.unusedVariables false
set_option linter.unusedSimpArgs false
namespace Go.Proofs.YtifgcjpgelbelaaGreatDoor
open Go.RowKit
theorem info_ratio : (Tryz.prog.info? 26).map (fun i=>(i.zero,i.size,i.bytes)) = some (some (.agg #[.bool false,.slice none 0 0,.bool false,.slice none 0 0]),4,64):=by kernel_rfl
def Own4 (W : World) (B : Nat) (v : Value) (n : Nat) (E : List Value) : Prop:=W.ownsRow B 26 4 v n E
theorem Own4.below {W W' : World} {B n : Nat} {v : Value} {E : List Value} (h : Own4 W B v n E) (hb : Below W.heap.size W W') : Own4 W' B v n E :=
 World.ownsRow.kept h (row:=none) ⟨hb.os,hb.tape,hb.output,hb.size,fun j hj _=>hb.block j hj⟩ (by cases hv : v.ownBlock <;> simp)
theorem iw {W W' : World} {B B' n : Nat} {v lv : Value} {ds : List Nat} {E : List Value} (h : Own W B 88 v (u32s ds)) (hl : Own4 W B' lv n E) (hg : W.grownBy W' lv.ownBlock) : Own W' B 88 v (u32s ds):=by
 have hh : W.ownsRow B 88 1 v (u32s ds).length (u32s ds):=h
 have hll : W.ownsRow B' 26 4 lv n E:=hl
 refine World.ownsRow.kept hh hg ?_
 rcases hh.2 with ⟨rfl,_⟩ | ⟨g,cap,cur,rfl,_,hq,_⟩
 · exact .inl rfl
 · refine .inr fun e=>?_; rcases hll.2 with ⟨rfl,_⟩ | ⟨g2,cap2,cur2,rfl,_,hq2,_⟩
   · simp [Value.ownBlock] at e
   · have e2 : g = g2:=by simpa [Value.ownBlock] using e
     subst e2; rw [hq] at hq2; injection hq2 with hq2; injection hq2 with _ ht; exact absurd ht (by decide)
theorem Lo.grown {W W' : World} {B B' n : Nat} {v lv : Value} {b b' : Bool} {xs ys : List Nat} {E : List Value} (h : Lo W B v b xs b' ys) (hl : Own4 W B' lv n E) (hg : W.grownBy W' lv.ownBlock) : Lo W' B v b xs b' ys:=by
 obtain ⟨g,c,g',c',h1,⟨h2,h3⟩,h4,h5⟩:=h
 exact ⟨g,c,g',c',h1,⟨iw h2 hl hg,h3⟩,iw h4 hl hg,h5⟩
theorem MarkQ.grown {W W' : World} {B B' n d : Nat} {v lv : Value} {E : List Value} (h : MarkQ W B v d) (hl : Own4 W B' lv n E) (hg : W.grownBy W' lv.ownBlock) : MarkQ W' B v d:=by
 obtain ⟨g,h1,h2⟩:=h
 exact ⟨g,h1,iw (ds:=[d]) h2 hl hg⟩
theorem MarkQ.below {W W' : World} {B d : Nat} {v : Value} (h : MarkQ W B v d) (hb : Below W.heap.size W W') : MarkQ W' B v d:=by
 obtain ⟨g,h1,h2⟩:=h
 exact ⟨g,h1,Own.below h2 hb⟩
def At4 (E : List Value) (k : Nat) (v : Value) : Prop:=∃ a b c d,v = .agg #[a,b,c,d] ∧ E[k * 4]? = some a ∧ E[k * 4 + 1]? = some b ∧ E[k * 4 + 2]? = some c ∧ E[k * 4 + 3]? = some d
theorem At4.app {E : List Value} {k : Nat} {v : Value} (h : At4 E k v) (N : List Value) : At4 (E ++ N) k v:=by
 have lt : ∀ {i : Nat} {u : Value},E[i]? = some u → (E ++ N)[i]? = some u:=fun {i u} h=>by
   have : i < E.length:=(List.getElem?_eq_some_iff.1 h).1; rw [List.getElem?_append_left this]; exact h
 obtain ⟨a,b,c,d,e,h1,h2,h3,h4⟩:=h
 exact ⟨a,b,c,d,e,lt h1,lt h2,lt h3,lt h4⟩
theorem At4.new {E : List Value} {k : Nat} (a b c d : Value) (h : E.length = k * 4) : At4 (E ++ [a,b,c,d]) k (.agg #[a,b,c,d]):=by
 refine ⟨a,b,c,d,rfl,?_,?_,?_,?_⟩ <;> rw [List.getElem?_append_right (by omega)]
 · rw [show k * 4 - E.length = 0 by omega]; rfl
 · rw [show k * 4 + 1 - E.length = 1 by omega]; rfl
 · rw [show k * 4 + 2 - E.length = 2 by omega]; rfl
 · rw [show k * 4 + 3 - E.length = 3 by omega]; rfl
def LentAll (W : World) (B : Nat) (L : List ((Bool × List Nat) × Bool × List Nat)) (E : List Value) : Prop:=∀ j q,L[j]? = some q → ∃ v,At4 E j v ∧ Lo W B v q.1.1 q.1.2 q.2.1 q.2.2
def MarkAll (W : World) (B n k : Nat) (E : List Value) : Prop:=∀ j,j < k → ∃ v,At4 E (n + j) v ∧ MarkQ W B v (8000024 + j)
theorem LentAll.below {W W' : World} {B : Nat} {L : List ((Bool × List Nat) × Bool × List Nat)} {E : List Value} (h : LentAll W B L E) (hb : Below W.heap.size W W') : LentAll W' B L E:=fun j q hj=>by
 obtain ⟨v,h1,h2⟩:=h j q hj
 exact ⟨v,h1,h2.below hb⟩
theorem LentAll.grown {W W' : World} {B B' n : Nat} {lv : Value} {L : List ((Bool × List Nat) × Bool × List Nat)} {E E' : List Value} (h : LentAll W B L E) (hl : Own4 W B' lv n E') (hg : W.grownBy W' lv.ownBlock) : LentAll W' B L E:=fun j q hj=>by
 obtain ⟨v,h1,h2⟩:=h j q hj
 exact ⟨v,h1,h2.grown hl hg⟩
theorem LentAll.app {W : World} {B : Nat} {L : List ((Bool × List Nat) × Bool × List Nat)} {E : List Value} (h : LentAll W B L E) (N : List Value) : LentAll W B L (E ++ N):=fun j q hj=>by
 obtain ⟨v,h1,h2⟩:=h j q hj
 exact ⟨v,h1.app N,h2⟩
theorem MarkAll.below {W W' : World} {B n k : Nat} {E : List Value} (h : MarkAll W B n k E) (hb : Below W.heap.size W W') : MarkAll W' B n k E:=fun j hj=>by
 obtain ⟨v,h1,h2⟩:=h j hj
 exact ⟨v,h1,h2.below hb⟩
theorem MarkAll.grown {W W' : World} {B B' n k m : Nat} {lv : Value} {E E' : List Value} (h : MarkAll W B n k E) (hl : Own4 W B' lv m E') (hg : W.grownBy W' lv.ownBlock) : MarkAll W' B n k E:=fun j hj=>by
 obtain ⟨v,h1,h2⟩:=h j hj
 exact ⟨v,h1,h2.grown hl hg⟩
theorem MarkAll.app {W : World} {B n k : Nat} {E : List Value} (h : MarkAll W B n k E) (N : List Value) : MarkAll W B n k (E ++ N):=fun j hj=>by
 obtain ⟨v,h1,h2⟩:=h j hj
 exact ⟨v,h1.app N,h2⟩
theorem four_news {w : World} {a b c d : Value} {T : TypeId} {g : Nat} (hg : g = w.heap.size) : ∀ j z,[a,b,c,d][j]? = some z → (w.alloc (.cells #[a,b,c,d] T)).cell? ((⟨g,0,none⟩ : Addr).add j) = some z:=by
 subst hg
 intro j z hj
 match j,hj with
 | 0,hj=>simp at hj; subst hj; simp [Addr.add]
 | 1,hj=>simp at hj; subst hj; simp [Addr.add]
 | 2,hj=>simp at hj; subst hj; simp [Addr.add]
 | 3,hj=>simp at hj; subst hj; simp [Addr.add]
theorem four_one {b1 b2 : Bool} {A1 A2 : Option Addr} {l1 c1 l2 c2 : Nat} : ∀ u ∈ [Value.bool b1,.slice A1 l1 c1,.bool b2,.slice A2 l2 c2],u.oneCell' = true:=by
 intro u hu
 simp at hu
 rcases hu with rfl | rfl | rfl | rfl <;> rfl
theorem Own4.alloc {W : World} {B n : Nat} {v : Value} {E : List Value} (h : Own4 W B v n E) (o : Obj) : Own4 (W.alloc o) B v n E:=h.below ((Below.refl _ _).alloc (Nat.le_refl _) o)
theorem Own4.len {W : World} {B n : Nat} {v : Value} {E : List Value} (h : Own4 W B v n E) : E.length = n * 4:=h.1
theorem below_app4 {w wr w2 : World} {B n : Nat} {v : Value} {E : List Value} {o1 o2 : Obj} (hb : Below w.heap.size w wr) (ho : Own4 wr B v n E) (hB : Hid (B = w.heap.size)) (hg : ((wr.alloc o1).alloc o2).grownBy w2 v.ownBlock) : Below w.heap.size w w2 :=
 (bal (bal hb o1) o2).grown hg (bal (bal hb o1) o2).size (fun k hk=>by
   have hh : wr.ownsRow B 26 4 v n E:=ho; have:=(hh.lt k hk).1
   rw [hB.out] at this; exact this)
theorem below_app3 {w wr w2 : World} {B n : Nat} {v : Value} {E : List Value} {o1 : Obj} (hb : Below w.heap.size w wr) (ho : Own4 wr B v n E) (hB : Hid (B = w.heap.size)) (hg : (wr.alloc o1).grownBy w2 v.ownBlock) : Below w.heap.size w w2 :=
 (bal hb o1).grown hg (bal hb o1).size (fun k hk=>by
   have hh : wr.ownsRow B 26 4 v n E:=ho; have:=(hh.lt k hk).1
   rw [hB.out] at this; exact this)
theorem Own4.slice {W : World} {B n : Nat} {v : Value} {E : List Value} (h : Own4 W B v n E) (hn : 0 < n) : ∃ g cap,v = .slice (some ⟨g,0,none⟩) n cap ∧ n ≤ cap:=by
 rcases h.2 with ⟨_,h0⟩ | ⟨g,cap,cur,e,_,_,hle,_⟩
 · omega
 · exact ⟨g,cap,e,hle⟩
theorem LentAll.snoc {W : World} {B k : Nat} {L : List ((Bool × List Nat) × Bool × List Nat)} {E : List Value} {q : (Bool × List Nat) × Bool × List Nat} (h : LentAll W B (L.take k) E) (hat : L[k]? = some q) {v : Value} (h4 : At4 E k v) (ho : Lo W B v q.1.1 q.1.2 q.2.1 q.2.2) : LentAll W B (L.take (k + 1)) E:=fun j p hj=>by
 by_cases hk : j < k
 · refine h j p ?_; rw [List.getElem?_take] at hj ⊢; rw [if_pos (by omega)] at hj; rw [if_pos hk]; exact hj
 · rw [List.getElem?_take] at hj; split at hj
   · obtain rfl : j = k:=by omega
     rw [hat] at hj; obtain rfl:=Option.some.inj hj; exact ⟨v,h4,ho⟩
   · cases hj
theorem MarkAll.snoc {W : World} {B n k : Nat} {E : List Value} (h : MarkAll W B n k E) {v : Value} (h4 : At4 E (n + k) v) (ho : MarkQ W B v (8000024 + k)) : MarkAll W B n (k + 1) E:=fun j hj=>by
 by_cases hk : j < k
 · exact h j hk
 · obtain rfl : j = k:=by omega
   exact ⟨v,h4,ho⟩
theorem lentRatios_any {w : World} {A : Option Addr} {c : Nat} {L : List ((Bool × List Nat) × Bool × List Nat)} (h : RawQs w A L) (hn : L.length ≤ 6) (hl : ∀ q ∈ L,q.1.2.length ≤ 8 ∧ q.2.2.length ≤ 8) :
   Calls Tryz.prog 33 #[.slice A L.length c] w fun e w'=>∃ g cap E,e = .returned (.slice (some ⟨g,0,none⟩) L.length cap) ∧ Own4 w' w.heap.size (.slice (some ⟨g,0,none⟩) (L.length + 12) cap) (L.length + 12) E ∧ LentAll w' w.heap.size L E ∧ MarkAll w' w.heap.size L.length 12 E ∧ Below w.heap.size w w':=by
 obtain ⟨i0,hi,hz0,hz1,hz2⟩:=info_parts info_ratio
 obtain ⟨B,hB⟩ : ∃ B,B = w.heap.size:=⟨_,rfl⟩
 have HB:=Lib.hid hB
 obtain ⟨n,hnn⟩ : ∃ n,n = L.length:=⟨_,rfl⟩
 have hn1 : n ≤ 6:=by omega
 rw [← hnn]
 have HN:=Lib.hid hnn
 have HL:=Lib.hid h
 have HS:=Lib.hid hl
 clear hB hn hnn h hl
 go_enter Tryz.func33,Tryz.ntmps33
 go_wp2_with (at_make; refine wpList_make_own _ rfl _ _ 42 rfl B 26 i0 _ 4 Tryz.underlying42 hi hz0 hz1 .i64 .i64 ((n : Int) + 12) (n + 12) rfl rfl (by omega) ?b2 ?b3 ?b4 ?_)
 case b2=>first | omega | (rw [hz2]; omega)
 case b3=>unfold maxLen; omega
 case b4=>rw [HB.out]; exact Nat.le_refl _
 intro w1 hown hgrow
 have hb1 : Below w.heap.size w w1:=(Below.refl _ _).grown hgrow (Nat.le_refl _) (fun k h=>by cases h)
 have ho1 : Own4 w1 B (.slice (some ⟨w.heap.size,0,none⟩) 0 (n + 12)) 0 []:=hown
 clear hown hgrow
 go_wp2_with fail
 go_loopw [3,4] (fun ov iv wr=>∃ (k : Nat) (E : List Value),k ≤ n ∧ iv = .int .i64 (k : Int) ∧ Own4 wr B ov k E ∧ Hid (LentAll wr B (L.take k) E) ∧ Below w.heap.size w wr) (fun _ iv _=>n - (intOf iv).toNat)
 case atStart=>exact ⟨0,[],Nat.zero_le _,rfl,ho1,fun j q hj=>by simp at hj,hb1⟩
 case round =>
   obtain ⟨k,E,hk,rfl,hout,HA,hb⟩:=hrel
   by_cases hlt : k < n
   · have hlt' : (k : Int) < (n : Int):=by omega
     have hkL : k < L.length:=by rw [← HN.out]; exact hlt
     obtain ⟨⟨⟨b1,xs⟩,b2,ys⟩,hpq⟩ : ∃ m,m = L[k]:=⟨_,rfl⟩
     have hat : L[k]? = some ((b1,xs),b2,ys):=by rw [List.getElem?_eq_getElem hkL,hpq]
     obtain ⟨ad,rfl,h1,h2⟩:=(HL.out.below hb) k _ hat; obtain ⟨A1,c1,m1,m2,r1,s1⟩:=h1; obtain ⟨A2,c2,m3,m4,r2,s2⟩:=h2; have m1 : wr.cell? (ad.add (k * 4)) = some (.bool b1):=m1; have m2 : wr.cell? { block:=(ad.add (k * 4)).block,off:=(ad.add (k * 4)).off + 1 } = some (.slice A1 xs.length c1):=m2; have m3 : wr.cell? { block:=(ad.add (k * 4)).block,off:=(ad.add (k * 4)).off + 2 } = some (.bool b2):=m3; have m4 : wr.cell? { block:=(ad.add (k * 4)).block,off:=(ad.add (k * 4)).off + 3 } = some (.slice A2 ys.length c2):=m4
     have hqv : Qv wr (.agg #[.bool b1,.slice A1 xs.length c1,.bool b2,.slice A2 ys.length c2]) b1 xs b2 ys:=⟨A1,c1,A2,c2,rfl,r1,r2⟩
     have hsz:=HS.out _ (List.mem_of_getElem? hat); have hlr:=fun (W : World) (hW : Below wr.heap.size wr W)=>lentRatio_own (hqv.below hW) (Nat.le_trans hsz.1 (by decide)) (Nat.le_trans hsz.2 (by decide)); have HR:=Lib.hid hlr; have HT:=Lib.hid hat; clear hat hpq hkL hqv hsz hlr r1 r2 s1 s2
     go_wp2_with fail
     refine (HR.out _ (Below.refl _ _)).mono ?_; rintro e w2 ⟨u,rfl,hlo,hb2⟩; have hout2:=hout.below hb2; have hb3 : Below w.heap.size w w2:=hb.trans (hb2.mono hb.size); have HA2:=Lib.hid (HA.out.below hb2); have hB2 : B ≤ wr.heap.size:=by rw [HB.out]; exact hb.size
     have hlo2:=hlo.mono hB2; obtain ⟨g1,d1,g2,d2,rfl,q1,q2,q3⟩:=hlo2; have HO:=Lib.hid (show Lo w2 B (.agg #[.bool b1,.slice (some ⟨g1,0,none⟩) xs.length d1,.bool b2,.slice (some ⟨g2,0,none⟩) ys.length d2]) b1 xs b2 ys from ⟨g1,d1,g2,d2,rfl,q1,q2,q3⟩); have hsz2 : B ≤ w2.heap.size:=Nat.le_trans hB2 hb2.size; clear hlo q1 q2 q3 HR m1 m2 m3 m4 hout hb hb2 hB2
     go_wp2_with (at_builtin; refine wpList_append_own _ rfl _ _ 42 rfl B 26 i0 _ 4 64 Tryz.underlying42 hi hz0 hz1 hz2 rfl (by decide) _ _ _ rfl ((hout2.alloc _).alloc _) ⟨w2.heap.size + 1,0,none⟩ 1 1 [.bool b1,.slice (some ⟨g1,0,none⟩) xs.length d1,.bool b2,.slice (some ⟨g2,0,none⟩) ys.length d2] rfl rfl ?c1 ?c2 ?c3 ?c4 ?c5 ?_)
     case c1=>exact four_news (by simp)
     case c2=>exact four_one
     case c3=>unfold maxLen; omega
     case c4=>omega
     case c5=>simp; omega
     intro v' w3 hown' hgrow' _; have ho3 : Own4 w3 B v' (k + 1) (E ++ [.bool b1,.slice (some ⟨g1,0,none⟩) xs.length d1,.bool b2,.slice (some ⟨g2,0,none⟩) ys.length d2]):=hown'; have hb4:=below_app4 hb3 hout2 HB hgrow'; have hal:=bal (bal (Below.refl w2.heap.size w2) (Obj.cells #[Value.bool b1,Value.slice (some ⟨g1,0,none⟩) xs.length d1,Value.bool b2,Value.slice (some ⟨g2,0,none⟩) ys.length d2] 26)) (Obj.cells #[Value.bool b1,Value.slice (some ⟨g1,0,none⟩) xs.length d1,Value.bool b2,Value.slice (some ⟨g2,0,none⟩) ys.length d2] 26); have ha3:=((HA2.out.below hal).grown (hout2.below hal) hgrow').app [.bool b1,.slice (some ⟨g1,0,none⟩) xs.length d1,.bool b2,.slice (some ⟨g2,0,none⟩) ys.length d2]; have ha4:=ha3.snoc HT.out (At4.new _ _ _ _ hout2.len) ((HO.out.below hal).grown (hout2.below hal) hgrow'); have HA4:=Lib.hid ha4; clear hown' hgrow' hal ha3 ha4 hout2 HA2 HO hb3 hsz2
     go_wp2
     go_roundw
     case rel=>exact ⟨k + 1,_,by omega,by go_num,ho3,HA4.out,hb4⟩
     case measure=>simp [intOf]; omega
   · obtain rfl : k = n:=by omega
     have hlt' : ¬ (k : Int) < (k : Int):=by omega
     have HA2:=Lib.hid (show LentAll wr B L E from by have:=HA.out; rwa [HN.out,List.take_length] at this); clear HA ho1 hb1
     go_wp2_with fail
     go_loopw [3,6] (fun ov iv wx=>∃ (m : Nat) (E : List Value),m ≤ 12 ∧ iv = .int .i64 (m : Int) ∧ Own4 wx B ov (k + m) E ∧ Hid (LentAll wx B L E ∧ MarkAll wx B k m E) ∧ Below w.heap.size w wx) (fun _ iv _=>12 - (intOf iv).toNat)
     case atStart=>exact ⟨0,E,Nat.zero_le _,rfl,hout,⟨HA2.out,fun j hj=>by omega⟩,hb⟩
     case round =>
       clear hout HA2 hb; obtain ⟨m,E,hm,rfl,hout,HA,hb⟩:=hrel
       by_cases hlt : m < 12
       · have hlt' : (m : Int) < 12:=by omega
         have hmk:=fun (W : World)=>markRatio_any (w:=W) m (by omega); have HMK:=Lib.hid hmk; clear hmk
         go_wp2_with fail
         refine (HMK.out _).mono ?_; rintro e w2 ⟨u,rfl,⟨g,rfl,ho⟩,hb2⟩; have hout2:=hout.below hb2; have hb3 : Below w.heap.size w w2:=hb.trans (hb2.mono hb.size); have hB2 : B ≤ wr.heap.size:=by rw [HB.out]; exact hb.size
         have HA2:=Lib.hid (show LentAll w2 B L E ∧ MarkAll w2 B k m E from ⟨HA.out.1.below hb2,HA.out.2.below hb2⟩); have HO:=Lib.hid (show MarkQ w2 B (.agg #[.bool false,.slice (some ⟨g,0,none⟩) 1 1,.bool false,.slice none 0 0]) (8000024 + m) from ⟨g,rfl,Own.mono ho hB2⟩); have hsz2 : B ≤ w2.heap.size:=Nat.le_trans hB2 hb2.size; clear HMK ho hout hb hb2 hB2 HA
         go_wp2_with (at_builtin; refine wpList_append_own _ rfl _ _ 42 rfl B 26 i0 _ 4 64 Tryz.underlying42 hi hz0 hz1 hz2 rfl (by decide) _ _ _ rfl (hout2.alloc _) ⟨w2.heap.size,0,none⟩ 1 1 [.bool false,.slice (some ⟨g,0,none⟩) 1 1,.bool false,.slice none 0 0] rfl rfl ?c1 ?c2 ?c3 ?c4 ?c5 ?_)
         case c1=>exact four_news rfl
         case c2=>exact four_one
         case c3=>unfold maxLen; omega
         case c4=>omega
         case c5=>simp; omega
         intro v' w3 hown' hgrow' _; have ho3 : Own4 w3 B v' (k + (m + 1)) (E ++ [.bool false,.slice (some ⟨g,0,none⟩) 1 1,.bool false,.slice none 0 0]):=hown'; have hb4:=below_app3 hb3 hout2 HB hgrow'; have hal:=bal (Below.refl w2.heap.size w2) (Obj.cells #[Value.bool false,Value.slice (some ⟨g,0,none⟩) 1 1,Value.bool false,Value.slice none 0 0] 26); have ha3:=((HA2.out.1.below hal).grown (hout2.below hal) hgrow').app [.bool false,.slice (some ⟨g,0,none⟩) 1 1,.bool false,.slice none 0 0]; have ha4:=(((HA2.out.2.below hal).grown (hout2.below hal) hgrow').app [.bool false,.slice (some ⟨g,0,none⟩) 1 1,.bool false,.slice none 0 0]).snoc (At4.new _ _ _ _ hout2.len) ((HO.out.below hal).grown (hout2.below hal) hgrow'); have HA4:=Lib.hid (And.intro ha3 ha4); clear hown' hgrow' hal ha3 ha4 hout2 HA2 HO hb3 hsz2
         go_wp2
         go_roundw
         case rel=>exact ⟨m + 1,_,by omega,by go_num,ho3,HA4.out,hb4⟩
         case measure=>simp [intOf]; omega
       · obtain rfl : m = 12:=by omega
         obtain ⟨g,cap,rfl,hcap⟩:=hout.slice (by omega); have HO:=Lib.hid hout; have hkc : k ≤ cap:=by omega
         clear hout
         go_wp2
         go_ret
         exact ⟨g,cap,E,rfl,HB.out ▸ HO.out,HB.out ▸ HA.out.1,HB.out ▸ HA.out.2,hb⟩
theorem awake3_any {w : World} (HT : Hid (Tab w ∧ 2 ≤ w.heap.size)) (hm : MaxL w) : Calls Tryz.prog 9 #[] w fun e w'=>e = .returned (.bool true) ∧ Below w.heap.size w w':=by
 have HM:=Lib.hid hm
 clear hm
 go_enter Tryz.func9,Tryz.ntmps9
 repeat apply wp_seq
 refine ls fun K HK=>?_
 go_wp2
 refine HK.out _ _ (then_n ?_)
 have bb_0 : Below w.heap.size w w:=Below.refl _ _
 refine lm (G:=fun a=>Code.wp _ _ _ a _) 33 ?_
 intro a_0 ha hN_0 hD_0
 repeat first | apply lk | apply ll
 refine ld bb_0 [kZ 1 ((6 : Int)),kZ 1 ((-4 : Int)),kPT 9 (awQ.num) ((awQ.den : Int)) (.int .i64 (0)),kPT 9 (awQ.num) ((awQ.den : Int)) (.int .i64 (0)),kP 9 (awQ.num) ((awQ.den : Int)),kIs (.int .i64 (0)),PK.fresh 4,kPutP 6 9 (awQ.num) ((awQ.den : Int)),kIs (.int .i64 (0))] [[],[],[0,1],[2],[3],[3],[],[6,4],[5]] [6,7,8,5,9,10,1,999,2] [] [] ?_ ?_
 ·
   refine aa rfl rfl (be [.int .i64 (6)] rfl rfl fun hC=>tz (z_of (6) 1 (by decide) (by decide) (by decide))) ?_; refine aa rfl rfl (be [Value.int IntKind.i64 (-4)] rfl rfl fun hC=>tz (z_of (-4) 1 (by decide) (by decide) (by decide))) ?_; refine aa rfl rfl (ap rfl rfl rfl fun hC h1 h2=>tpt (told_of6 (rr h1) (rr h2))) ?_; refine aa rfl rfl (cw rfl rfl) ?_; refine bf ext_p ?_; refine bf ext_v ?_; refine aa rfl rfl (ea rfl) ?_; refine aa rfl rfl (ju rfl rfl rfl) ?_; refine p10 ?_; exact ag rfl
 intro W_1 x a_1 hC hall ha hN_1 hD_1 bb_1
 obtain ⟨g1,hx,hge,p1_1,p1'_1⟩:=jt (lr hall 7)
 have e1_1:=(an (t:=1) (i:=6) ha).trans hx
 clear hx hge
 have e2_1:=le ha hall 2 8
 repeat first | apply lk | apply ll
 refine ld bb_1 [kPT 9 ((0 : Rat).num) (((0 : Rat).den : Int)) (.bool false),kPT 9 ((0 : Rat).num) (((0 : Rat).den : Int)) (.bool false),kP 9 ((0 : Rat).num) (((0 : Rat).den : Int)),lh,PK.fresh 4,kPutP 4 9 ((0 : Rat).num) (((0 : Rat).den : Int)),lh] [[],[0],[1],[1],[],[4,2],[3]] [12,11,13,14,3,999,4] [] [] ?_ ?_
 ·
   refine aa rfl rfl (be [Value.string { data:=#[54,47,52] }] rfl rfl fun hC=>tpt (parse_six (Lib.hid ⟨HT.out.1.below (bb_1.trans hC.below) HT.out.2,Nat.le_trans HT.out.2 (bb_1.trans hC.below).size⟩) (HM.out.below (bb_1.trans hC.below)))) ?_; refine aa rfl rfl (cw rfl rfl) ?_; refine bf ext_p ?_; refine bf ext_v ?_; refine aa rfl rfl (ea rfl) ?_; refine aa rfl rfl (ju rfl rfl rfl) ?_; refine p10 ?_; exact ag rfl
 intro W_2 x a_2 hC hall ha hN_2 hD_2 bb_2
 have e1_2:=ab ha e1_1
 have e2_2:=ab ha e2_1
 have p1_2:=hC.at0 p1_1
 have p1'_2:=hC.at0 p1'_1
 obtain ⟨g3,hx,hge,p3_2,p3'_2⟩:=jt (lr hall 5)
 have e3_2:=(an (t:=3) (i:=4) ha).trans hx
 clear hx hge
 have e4_2:=le ha hall 4 6
 repeat first | apply lk | apply ll
 refine ld bb_2 [kIs (.int .i64 (0)),lg,lg,kP 9 (awQ.num) ((awQ.den : Int)),kIs (.string (textQ awQ)),lg,lg,lg,kP 9 (awQ.num) ((awQ.den : Int)),kZ 10 (zq (awQ.num) ((awQ.den : Int))),kZ 1 ((-2 : Int)),kIs (.int .i64 (0)),lg,lg,lg,lh,lg,lg,lg] [[],[0],[1],[],[3],[4],[2,5],[6],[],[8],[],[9,10],[11],[7,12],[13],[],[15],[14,16],[17]] [15,16,17,18,19,20,21,22,23,24,25,26,27,28,29,30,31,32,0] [(2,true),(7,true),(14,true)] [] ?_ ?_
 ·
   refine p01 e2_2 ?_; refine p10 ?_; refine p10 ?_; refine aa rfl rfl (cf p1_2 p1'_2 e1_2 rfl) ?_; refine aa rfl rfl (ae rfl rfl fun hC h1=>ti (Text_9 (Lib.hid ⟨HT.out.1.below (bb_2.trans hC.below) HT.out.2,Nat.le_trans HT.out.2 (bb_2.trans hC.below).size⟩) (pm h1))) ?_; refine aa rfl rfl (ke [.string (textQ awQ)] [] (.bool ((textQ awQ).toList == (⟨#[45,51,47,50]⟩ : ByteArray).toList)) (.bool true) (congrArg Value.bool (beq_iff_eq.2 awQ_text)) rfl old0) ?_; refine p20 ?_; refine p10 ?_; refine aa rfl rfl (cf p1_2 p1'_2 e1_2 rfl) ?_; refine aa rfl rfl (ae rfl rfl fun hC h1=>tz (Floor_9 (pm h1))) ?_; refine aa rfl rfl (be [Value.int IntKind.i64 (-2)] rfl rfl fun hC=>tz (z_of (-2) 1 (by decide) (by decide) (by decide))) ?_; refine aa rfl rfl (ap rfl rfl rfl fun hC h1 h2=>ti (cmp_is (ord_eq awQ_floor) (z_cmp (rz h1) (rz h2) (by decide) (by decide)))) ?_; refine p10 ?_; refine p20 ?_; refine p10 ?_; refine p01 e4_2 ?_; refine p10 ?_; refine p20 ?_; refine p10 ?_; exact ag rfl
 intro W_3 x a_3 hC hall ha hN_3 hD_3 bb_3
 have e0_3:=le ha hall 0 18
 repeat first | apply lk | apply ll
 refine wp_ret ?_
 repeat (refine then_r ?_)
 exact bi (t:=0) rfl hD_3 e0_3 ⟨rfl,bb_3⟩
end Go.Proofs.YtifgcjpgelbelaaGreatDoor
set_option linter.unusedVariables false
set_option linter.unusedSimpArgs false
namespace Go.Proofs.YtifgcjpgelbelaaGreatDoor
open Go.RowKit
section
variable {b1 b1' b2 b2' : Bool} {xs1 ys1 xs2 ys2 : List Nat} {a b : Rat} {ra rb : Bool}
theorem BothTell.ho (h : BothTell b1 xs1 b1' ys1 a ra) (w : World) : Hid (∀ (W : World) (v : Value),Below w.heap.size w W → Qv W v b1 xs1 b1' ys1 → Calls Tryz.prog 62 #[v] W (TellsP W 9 a.num (a.den : Int))):=Lib.hid fun W v _ hv=>(h.2.2 W v hv).2.1
theorem BothTell.ht (h : BothTell b1 xs1 b1' ys1 a ra) (w : World) : Hid (∀ (W : World) (v : Value),Below w.heap.size w W → Qv W v b1 xs1 b1' ys1 → Calls Tryz.prog 67 #[v] W (TellsP W 9 a.num (a.den : Int))):=Lib.hid fun W v _ hv=>(h.2.2 W v hv).2.2.2
theorem BothTell.right (h : BothTell b1 xs1 b1' ys1 a ra) (W : World) (v : Value) (hv : Qv W v b1 xs1 b1' ys1) : Calls Tryz.prog 19 #[v] W (SaysB W ra) ∧ Calls Tryz.prog 20 #[v] W (SaysB W ra):=⟨(h.2.2 W v hv).1,(h.2.2 W v hv).2.2.1⟩
end
end Go.Proofs.YtifgcjpgelbelaaGreatDoor
set_option linter.unusedVariables false
set_option linter.unusedSimpArgs false
namespace Go.Proofs.YtifgcjpgelbelaaGreatDoor
open Go.RowKit
theorem sameRatio_q {w : World} {v1 v2 : Value} {b1 b1' : Bool} {xs1 ys1 : List Nat} (h1 : Qv w v1 b1 xs1 b1' ys1) (h2 : Qv w v2 b1 xs1 b1' ys1) (hl1 : xs1.length ≤ 8) (hl1' : ys1.length ≤ 8) :
   Calls Tryz.prog 76 #[v1,v2] w (SaysB w true):=by
 obtain ⟨y1,z1,y1',z1',rfl,H1⟩:=h1.op
 obtain ⟨y2,z2,y2',z2',rfl,H2⟩:=h2.op
 have HL:=Lib.hid (And.intro hl1 hl1')
 clear hl1 hl1'
 go_enter Tryz.func76,Tryz.ntmps76
 repeat apply wp_seq
 refine ls fun K HK=>?_
 go_wp2
 refine HK.out _ _ (then_n ?_)
 refine lq (G:=fun W=>Code.wp _ _ _ _ W) ?_
 intro W_0 bb_0 K0 K1
 have q1_0:=H1.out _ _ _ bb_0 K0
 have q2_0:=H2.out _ _ _ bb_0 K1
 clear K0 K1
 obtain ⟨hl1,hl1'⟩:=HL.out
 refine lm (G:=fun a=>Code.wp _ _ _ a _) 17 ?_
 intro a_0 ha hN_0 hD_0
 have e2_0:=lj ha 2 w.heap.size
 have e3_0:=lj ha 3 (w.heap.size + 1)
 repeat first | apply lk | apply ll
 refine ld bb_0 [lf w.heap.size 0,kN b1 xs1,lf (w.heap.size + 1) 0,kN b1 xs1,lg,lg,lf w.heap.size 2,kN b1' ys1,lf (w.heap.size + 1) 2,kN b1' ys1,lg,lg,lg] [[],[0],[],[2],[1,3],[4],[],[6],[],[8],[7,9],[5,10],[11]] [5,6,7,8,9,10,11,12,13,14,15,16,4] [(5,true)] [] ?_ ?_
 ·
   refine p01 e2_0 ?_; refine aa rfl rfl (gx q1_0 rfl rfl) ?_; refine p01 e3_0 ?_; refine aa rfl rfl (gx q2_0 rfl rfl) ?_; refine aa rfl rfl (ap rfl rfl rfl fun hC h1 h2=>ti (sameInt_nv h1 h2 (Nat.le_trans hl1 (by decide)))) ?_; refine p10 ?_; refine p01 e2_0 ?_; refine aa rfl rfl (ji q1_0 rfl rfl) ?_; refine p01 e3_0 ?_; refine aa rfl rfl (ji q2_0 rfl rfl) ?_; refine aa rfl rfl (ap rfl rfl rfl fun hC h1 h2=>ti (sameInt_nv h1 h2 (Nat.le_trans hl1' (by decide)))) ?_; refine p20 ?_; refine p10 ?_; exact ag rfl
 intro W_1 x a_1 hC hall ha hN_1 hD_1 bb_1
 have e4_1:=le ha hall 4 12
 repeat first | apply lk | apply ll
 refine wp_ret ?_
 repeat (refine then_r ?_)
 exact bi (t:=4) rfl hD_1 e4_1 ⟨rfl,bb_1⟩
theorem keptRatio_l {w : World} {v1 v2 : Value} {b1 b1' : Bool} {xs1 ys1 : List Nat} (h1 : Lv w v1 b1 xs1 b1' ys1) (h2 : Qv w v2 b1 xs1 b1' ys1) (hl1 : xs1.length ≤ 8) (hl1' : ys1.length ≤ 8) :
   Calls Tryz.prog 32 #[v1,v2] w (SaysB w true):=by
 obtain ⟨A1,c1,A1',c1',e0⟩:=h1.parts
 subst e0
 have H1:=Lib.hid h1
 clear h1
 obtain ⟨y2,z2,y2',z2',rfl,H2⟩:=h2.op
 have HL:=Lib.hid (And.intro hl1 hl1')
 clear hl1 hl1'
 go_enter Tryz.func32,Tryz.ntmps32
 repeat apply wp_seq
 refine ls fun K HK=>?_
 go_wp2
 refine HK.out _ _ (then_n ?_)
 refine lq (G:=fun W=>Code.wp _ _ _ _ W) ?_
 intro W_0 bb_0 K0 K1
 have q1_0 : LocL W_0 (w.heap.size) b1 xs1 b1' ys1:=⟨_,H1.out.below bb_0,_,rfl,rfl,⟨⟨_,K0⟩,by simp [noDig]⟩⟩
 have q2_0:=H2.out _ _ _ bb_0 K1
 clear K0 K1
 obtain ⟨hl1,hl1'⟩:=HL.out
 refine lm (G:=fun a=>Code.wp _ _ _ a _) 22 ?_
 intro a_0 ha hN_0 hD_0
 have e2_0:=lj ha 2 w.heap.size
 have e3_0:=lj ha 3 (w.heap.size + 1)
 repeat first | apply lk | apply ll
 refine ld bb_0 [kL b1 xs1 b1' ys1,kQ b1 xs1 b1' ys1,lg,lg,lf w.heap.size 0,kLN b1 xs1,lf (w.heap.size + 1) 0,kN b1 xs1,lg,lg,lg,lf w.heap.size 2,kLN b1' ys1,lf (w.heap.size + 1) 2,kN b1' ys1,lg,lg,lg] [[],[],[0,1],[2],[],[4],[],[6],[5,7],[3,8],[9],[],[11],[],[13],[12,14],[10,15],[16]] [5,6,7,8,9,10,11,12,13,14,15,16,17,18,19,20,21,4] [(3,true),(10,true)] [] ?_ ?_
 ·
   refine aa rfl rfl (st_loadL (hG:=(by simp)) q1_0 e2_0 rfl) ?_; refine aa rfl rfl (st_loadQ q2_0 e3_0 rfl) ?_; refine aa rfl rfl (ap rfl rfl rfl fun hC h1 h2=>ti (sameRatio_q (Lv.qv h1) h2 hl1 hl1')) ?_; refine p10 ?_; refine p01 e2_0 ?_; refine aa rfl rfl (st_loadL0 q1_0 rfl rfl) ?_; refine p01 e3_0 ?_; refine aa rfl rfl (gx q2_0 rfl rfl) ?_; refine aa rfl rfl (ap rfl rfl rfl fun hC h1 h2=>ti (keptInt_ln h1 h2 (Nat.le_trans hl1 (by decide)))) ?_; refine p20 ?_; refine p10 ?_; refine p01 e2_0 ?_; refine aa rfl rfl (st_loadL1 q1_0 rfl rfl) ?_; refine p01 e3_0 ?_; refine aa rfl rfl (ji q2_0 rfl rfl) ?_; refine aa rfl rfl (ap rfl rfl rfl fun hC h1 h2=>ti (keptInt_ln h1 h2 (Nat.le_trans hl1' (by decide)))) ?_; refine p20 ?_; refine p10 ?_; exact ag rfl
 intro W_1 x a_1 hC hall ha hN_1 hD_1 bb_1
 have e4_1:=le ha hall 4 17
 repeat first | apply lk | apply ll
 refine wp_ret ?_
 repeat (refine then_r ?_)
 exact bi (t:=4) rfl hD_1 e4_1 ⟨rfl,bb_1⟩
theorem same_79 {w : World} {v1 v2 : Value} {x y : Int} (h1 : Pr w v1 79 (x) (y)) (h2 : Pr w v2 79 (x) (y)) :
   Calls Tryz.prog 76 #[v1,v2] w (fun e w'=>e = .returned (.bool true) ∧ Below w.heap.size w w'):=by
 obtain ⟨y1,z1,y1',z1',rfl,H1⟩:=h1.op
 obtain ⟨y2,z2,y2',z2',rfl,H2⟩:=h2.op
 go_enter Tryz.func76,Tryz.ntmps76
 repeat apply wp_seq
 refine ls fun K HK=>?_
 go_wp2
 refine HK.out _ _ (then_n ?_)
 refine lq (G:=fun W=>Code.wp _ _ _ _ W) ?_
 intro W_0 bb_0 K0 K1
 obtain ⟨f1_0,f1'_0⟩:=H1.out _ _ _ bb_0 K0
 obtain ⟨f2_0,f2'_0⟩:=H2.out _ _ _ bb_0 K1
 clear K0 K1
 refine lm (G:=fun a=>Code.wp _ _ _ a _) 17 ?_
 intro a_0 ha hN_0 hD_0
 have e2_0:=lj ha 2 w.heap.size
 have e3_0:=lj ha 3 (w.heap.size + 1)
 repeat first | apply lk | apply ll
 refine ld bb_0 [lf w.heap.size 0,kZ 79 (x),lf (w.heap.size + 1) 0,kZ 79 (x),lg,lg,lf w.heap.size 2,kZ 79 (y),lf (w.heap.size + 1) 2,kZ 79 (y),lg,lg,lg] [[],[0],[],[2],[1,3],[4],[],[6],[],[8],[7,9],[5,10],[11]] [5,6,7,8,9,10,11,12,13,14,15,16,4] [(5,true)] [] ?_ ?_
 ·
   refine p01 e2_0 ?_; refine ak f1_0 ?_; refine p01 e3_0 ?_; refine ak f2_0 ?_; refine aa rfl rfl (ap rfl rfl rfl fun hC h1 h2=>ti (z_sameInt (rr h1) (rr h2))) ?_; refine p10 ?_; refine p01 e2_0 ?_; refine ak f1'_0 ?_; refine p01 e3_0 ?_; refine ak f2'_0 ?_; refine aa rfl rfl (ap rfl rfl rfl fun hC h1 h2=>ti (z_sameInt (rr h1) (rr h2))) ?_; refine p20 ?_; refine p10 ?_; exact ag rfl
 intro W x a1 hC hall ha hN1 hD1 bb1
 have e1:=le ha hall 4 12
 repeat first | apply lk | apply ll
 refine wp_ret ?_
 repeat (refine then_r ?_)
 exact bi (t:=4) rfl hD1 e1 ⟨rfl,bb1⟩
theorem lawSame_79 {w : World} {v1 v2 : Value} {x y : Int} (h1 : Pr w v1 79 (x) (y)) (h2 : Pr w v2 79 (x) (y)) :
   Calls Tryz.prog 16 #[v1,v2] w (fun e w'=>e = .returned (.bool true) ∧ Below w.heap.size w w'):=by
 obtain ⟨y1,z1,y1',z1',rfl,H1⟩:=h1.op
 obtain ⟨y2,z2,y2',z2',rfl,H2⟩:=h2.op
 go_enter Tryz.func16,Tryz.ntmps16
 repeat apply wp_seq
 refine ls fun K HK=>?_
 go_wp2
 refine HK.out _ _ (then_n ?_)
 refine lq (G:=fun W=>Code.wp _ _ _ _ W) ?_
 intro W_0 bb_0 K0 K1
 obtain ⟨f1_0,f1'_0⟩:=H1.out _ _ _ bb_0 K0
 obtain ⟨f2_0,f2'_0⟩:=H2.out _ _ _ bb_0 K1
 clear K0 K1
 refine lm (G:=fun a=>Code.wp _ _ _ a _) 8 ?_
 intro a_0 ha hN_0 hD_0
 have e2_0:=lj ha 2 w.heap.size
 have e3_0:=lj ha 3 (w.heap.size + 1)
 repeat first | apply lk | apply ll
 refine ld bb_0 [kP 79 (x) (y),kP 79 (x) (y),lg,lg] [[],[],[0,1],[2]] [5,6,7,4] [] [] ?_ ?_
 ·
   refine aa rfl rfl (cf f1_0 f1'_0 e2_0 rfl) ?_; refine aa rfl rfl (cf f2_0 f2'_0 e3_0 rfl) ?_; refine aa rfl rfl (ap rfl rfl rfl fun hC h1 h2=>ti (same_79 (pm h1) (pm h2))) ?_; refine p10 ?_; exact ag rfl
 intro W x a1 hC hall ha hN1 hD1 bb1
 have e1:=le ha hall 4 3
 repeat first | apply lk | apply ll
 refine wp_ret ?_
 repeat (refine then_r ?_)
 exact bi (t:=4) rfl hD1 e1 ⟨rfl,bb1⟩
end Go.Proofs.YtifgcjpgelbelaaGreatDoor
set_option linter.unusedVariables false
set_option linter.unusedSimpArgs false
namespace Go.Proofs.YtifgcjpgelbelaaGreatDoor
open Go.RowKit
def ends11 : List Int:=[0,1,-1,2,-2,3,6,999999999,-1000000000,9223372036854775807,-9223372036854775808]
def e11 (i : Nat) : Int:=ends11.getD i 0
def AtE (W : World) (g : Nat) : Prop:=∀ i,i < 11 → W.cell? ⟨g,i,none⟩ = some (.int .i64 (e11 i))
theorem AtE.below {W W' : World} {g : Nat} (h : AtE W g) (hb : Below W.heap.size W W') : AtE W' g:=fun i hi=>(hb.cell (cell_lt (h i hi))).trans (h i hi)
theorem ex_bin {P : Program} {ρ : Operand → Value} {w : World} {d : Option Tmp} {T E E2 : TypeId} {pos : String} {af : Array Edge} {gu : Option (Nat × Bool)} {op : BinOp} {a b : Operand} {x y r : Value} (ha : ρ a = x) (hb : ρ b = y) (hg : (eqGuard op E a b x y).run P w = .ok () w) (h : (binOp op E x y).run P w = .ok r w) :
   (execOp ρ { dst:=d,op:=.binOp op E a b E2,type:=T,pos:=pos,after:=af,guard:=gu }).run P w = .ok (.value r) w:=by
 show (((do eqGuard op E a b (ρ a) (ρ b); binOp op E (ρ a) (ρ b)) : Sem Value) >>= fun v=>pure (Next.value v)).run P w = _
 rw [ha,hb]
 have e2 : ((do eqGuard op E a b x y; binOp op E x y) : Sem Value).run P w = .ok r w:=by
   rw [bm hg]; exact h
 rw [bm e2]; rfl
theorem ex_idx {P : Program} {ρ : Operand → Value} {w : World} {d : Option Tmp} {T E : TypeId} {pos : String} {af : Array Edge} {gu : Option (Nat × Bool)} {a b : Operand} {x y r : Value} (ha : ρ a = x) (hb : ρ b = y) (h : (Instr.indexAt E x y).run P w = .ok r w) :
   (execOp ρ { dst:=d,op:=.indexAddr E a b,type:=T,pos:=pos,after:=af,guard:=gu }).run P w = .ok (.value r) w:=by
 show Sem.run P (Instr.indexAt E (ρ a) (ρ b) >>= fun v=>pure (Next.value v)) w = _
 rw [ha,hb,bm h]; rfl
section
variable {W0 : World} {B S0 N i : Nat} {ks : List PK} {a0 : Act} {T : TypeId} {pos : String} {af : Array Edge} {gu : Option (Nat × Bool)}
end
end Go.Proofs.YtifgcjpgelbelaaGreatDoor
set_option linter.unusedVariables false
set_option linter.unusedSimpArgs false
namespace Go.Proofs.YtifgcjpgelbelaaGreatDoor
open Go.RowKit
theorem run_idxQ {w : World} {ad : Addr} {k n c : Nat} (h : k < n) : (Instr.indexAt 42 (.slice (some ad) n c) (.int .i64 (k : Int))).run Tryz.prog w = .ok (.pointer (some (ad.add (k * 4)))) w:=by
 have h' : (k : Int) < (n : Int):=by omega
 go_simp
theorem run_loadQA {w : World} {p : Addr} {u v u' v' : Value} (h0 : w.cell? p = some u) (h1 : w.cell? { block:=p.block,off:=p.off + 1 } = some v) (h2 : w.cell? { block:=p.block,off:=p.off + 2 } = some u') (h3 : w.cell? { block:=p.block,off:=p.off + 3 } = some v') : (Instr.loadAt 26 (.pointer (some p))).run Tryz.prog w = .ok (.agg #[u,v,u',v']) w:=by go_simp
def CellsQ (W : World) (p : Addr) (u v u' v' : Value) : Prop:=W.cell? p = some u ∧ W.cell? { block:=p.block,off:=p.off + 1 } = some v ∧ W.cell? { block:=p.block,off:=p.off + 2 } = some u' ∧ W.cell? { block:=p.block,off:=p.off + 3 } = some v'
theorem Reg.cellAny {B : Nat} {W0 w : World} (h : Reg B W0 [] w) {p : Addr} {u : Value} (hc : W0.cell? p = some u) : w.cell? p = some u :=
 (World.cell?_of_block (w:=W0) (h.old p.block (World.block_lt_of_cell? W0 p hc) (by simp))).trans hc
theorem Reg.cellsQ {B : Nat} {W0 w : World} (h : Reg B W0 [] w) {p : Addr} {u v u' v' : Value} (hc : CellsQ W0 p u v u' v') : CellsQ w p u v u' v' :=
 ⟨h.cellAny hc.1,h.cellAny hc.2.1,h.cellAny hc.2.2.1,h.cellAny hc.2.2.2⟩
section
variable {W0 : World} {B S0 N i : Nat} {ks : List PK} {a0 : Act} {T : TypeId} {pos : String} {af : Array Edge} {gu : Option (Nat × Bool)} {C : World → Prop}
theorem ky {d t1 j1 t2 j2 k n c : Nat} {ad : Addr} (hk : k < n) (hN : a0.tmps.size = N)     (h1 : at_ ks j1 = kIs (.slice (some ad) n c)) (h2 : at_ ks j2 = kIs (.int .i64 (k : Int))) (hi : at_ ks i = kIs (.pointer (some (ad.add (k * 4))))) (hd : decide (d < N) = true:=by kernel_rfl) (ht1 : decide (t1 < N) = true:=by kernel_rfl) (ht2 : decide (t2 < N) = true:=by kernel_rfl) (hne : decide (t1 = t2) = false:=by kernel_rfl) :
   PkStep Tryz.prog C S0 ks a0 i { dst:=some d,op:=.indexAddr 42 (.tmp t1) (.tmp t2),type:=T,pos:=pos,after:=af,guard:=gu } [(j1,some t1),(j2,some t2)]:=by
 intro w x hC
 refine aw _ fun hdeps K hK=>?_
 have g1:=hdeps (j1,some t1) (by simp)
 rw [h1] at g1
 have g2:=hdeps (j2,some t2) (by simp)
 rw [h2] at g2
 have n12:=of_decide_eq_false hne
 have e1 : (putE x a0 [(j1,some t1),(j2,some t2)]).eval (.tmp t1) = x j1:=putE_new _ _ (by rw [hN]; exact of_decide_eq_true ht1) (by simp [slotAt,Ne.symm n12])
 have e2 : (putE x a0 [(j1,some t1),(j2,some t2)]).eval (.tmp t2) = x j2:=putE_new _ _ (by rw [hN]; exact of_decide_eq_true ht2) (by simp [slotAt])
 refine bj (v:=.pointer (some (ad.add (k * 4)))) (w':=w) rfl (by rw [ax,hN]) hd (ex_idx (e1.trans g1) (e2.trans g2) (run_idxQ hk)) (hK _ _ ?_ ?_)
 · rw [hi]; exact Below.refl _ _
 · rw [hi]; rfl
theorem kz {d t j : Nat} {p : Addr} {u v u' v' : Value} (hl : CellsQ W0 p u v u' v') (hN : a0.tmps.size = N)   (hj : at_ ks j = kIs (.pointer (some p))) (hi : at_ ks i = kIs (.agg #[u,v,u',v'])) (hd : decide (d < N) = true:=by kernel_rfl) (ht : decide (t < N) = true:=by kernel_rfl) :
   PkStep Tryz.prog (Reg B W0 []) S0 ks a0 i { dst:=some d,op:=.load 26 (.tmp t),type:=T,pos:=pos,after:=af,guard:=gu } [(j,some t)]:=by
 intro w x hC
 refine aw _ fun hdeps K hK=>?_
 have h1:=hdeps (j,some t) (by simp)
 rw [hj] at h1
 have e1 : (putE x a0 [(j,some t)]).eval (.tmp t) = x j:=putE_new _ _ (by rw [hN]; exact of_decide_eq_true ht) (by simp [slotAt])
 obtain ⟨m1,m2,m3,m4⟩:=hC.cellsQ hl
 refine bj (w':=w) rfl (by rw [ax,hN]) hd (ex_load (e1.trans h1) (run_loadQA m1 m2 m3 m4)) (hK _ _ ?_ ?_)
 · rw [hi]; exact Below.refl _ _
 · rw [hi]; rfl
end
end Go.Proofs.YtifgcjpgelbelaaGreatDoor

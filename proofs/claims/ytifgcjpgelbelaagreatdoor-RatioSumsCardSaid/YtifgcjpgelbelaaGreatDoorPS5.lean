/- A region that draws its order, in which some operations find a result's cell as it was ahead of the region: A step for a call of a function that came as a value (put in ratio.fold). Steps in a region that stores into one old block, of operations that find it as it was: num.Of(1), ratio.whole and ratio.none once more: Contracts of package ratio's calls over right ratios: Contracts of package ratio's calls over right ratios: Contracts over right ratios: Contracts over right ratios: Contracts over right ratios: SameInt over two right numbers that are not the same: Contracts over right ratios: Contracts over right ratios: Contracts over right ratios: Contracts over two right numbers that are no right ratio: Right of any ratio that came in, of at most 8 digits a number: The text of a broken number; where strings.Cut cuts it; two texts are one only of one number. Contract of ratio.Parse: Steps and contracts for the laws of package ratio: Contracts of the answers of stage 2 (whetstoneref02) over numbers of at most 1000 digits: Contracts of the answers of stages 2 and 3 over right numbers and ratios: Contract of whetstoneref01.Add: Contract of whetstoneref01.times: Contract of whetstoneref01.Mul: -/
import Derived.Test.YtifgcjpgelbelaaGreatDoorPS1
import Derived.Test.YtifgcjpgelbelaaGreatDoorPS4
import Derived.Test.YtifgcjpgelbelaaGreatDoorPS3
import Derived.Laws.IdiomStrings
set_option maxRecDepth 100000
set_option maxHeartbeats 16000000
set_option linter.unusedVariables false
set_option linter.unusedSimpArgs false
namespace Go.Proofs.YtifgcjpgelbelaaGreatDoor
open Go.RowKit
theorem wp_region_pkE {P : Program} {id : Nat} {draw : Bool} {ops : Array Oper} {Q : Exit → Act → World → Prop} {a0 : Act} {W0 : World} (B : Nat) (ks : List PK) (es : List (List (Nat × Option Tmp))) (all : List (Nat × Option Tmp)) (bs : List (Nat × Bool)) (sk : List Nat) (hm : P.follows .mixedOrders = true) (hchk : growOK ops (fun i => !sk.contains i) es all a0.tmps.size = true) (hk : codesOK ks es = true) (hgu : guardOK ops bs sk = true) (hbs : bs.map (fun p => at_ ks p.1) = bs.map fun p => kIs (.bool p.2)) (hsk : sk.map (at_ ks) = sk.map fun _ => kIs undef)
   (hn : (blks ks).Nodup) (hB : ∀ g ∈ blks ks,B ≤ g) (hB0 : B ≤ W0.heap.size) (ht : ∀ g ∈ blks ks,∃ cs,Holds_ W0 g cs)
   (E : (Nat → Bool) → World → Prop) (hE0 : ∀ W',W' = W0 ∨ W' = W0.drew → E (fun i=>decide (ops.size ≤ i)) W') (hEs : ∀ i,i < ops.size → ∀ L x v w w',E L w → Reg B W0 (blks ks) w → L i = false → (sk.contains i = false → ∀ p ∈ es.getD i [],L p.1 = true) → (at_ ks i).move W0.heap.size x v w w' → E (upd L i true) w')
   (hs : ∀ i o,ops[i]? = some o → sk.contains i = false → ∀ L,L i = false → PkStep P (fun w=>Reg B W0 (blks ks) w ∧ E L w) W0.heap.size ks a0 i o (es.getD i [])) (hend : ∀ w' x,Reg B W0 (blks ks) w' → (∀ i,i < ops.size → (at_ ks i).sem W0.heap.size x (x i) w') → Q .normal (putE x a0 all) w') : (Code.region id ops draw).wp P Q a0 W0:=by
 have hchk':=hchk
 unfold growOK at hchk'
 simp only [Bool.and_eq_true,decide_eq_true_eq] at hchk'
 have hall:=hchk'.1.1.1
 have hops:=hchk'.2
 have hlt : ∀ i o,ops[i]? = some o → ∀ p ∈ es.getD i [],p.1 < ops.size:=fun i o ho p hp=>by
   have hl : i < ops.size:=(Array.getElem?_eq_some_iff.1 ho).1; have h:=List.all_eq_true.1 hops i (List.mem_range.2 hl); rw [ho] at h; simp only [Bool.and_eq_true] at h; have:=List.all_eq_true.1 h.1.2 p hp; simp only [Bool.and_eq_true,decide_eq_true_eq] at this; exact this.1.2
 have hinto : ∀ i e,(at_ ks i).into = some e → i < ks.length ∧ (at_ ks e).isFresh = true ∧ (∃ p ∈ es.getD i [],p.1 = e) ∧ ∀ j,i ≠ j → (at_ ks j).into ≠ some e:=fun i e hi=>by
   have hl : i < ks.length:=by
     rcases Nat.lt_or_ge i ks.length with h | h
     · exact h
     · unfold at_ at hi; rw [List.getD_eq_getElem?_getD,List.getElem?_eq_none h] at hi; simp [kAny,PK.into] at hi
   have h:=List.all_eq_true.1 hk i (List.mem_range.2 hl); rw [hi] at h; simp only [Bool.and_eq_true] at h; obtain ⟨⟨⟨h1,h2⟩,h3⟩,_⟩:=h; refine ⟨hl,h1,?_,fun j hj hj2=>?_⟩
   · obtain ⟨p,hp,hh⟩:=List.any_eq_true.1 h2; exact ⟨p,hp,of_decide_eq_true hh⟩
   · have hlj : j < ks.length:=by
       rcases Nat.lt_or_ge j ks.length with h | h
       · exact h
       · unfold at_ at hj2; rw [List.getD_eq_getElem?_getD,List.getElem?_eq_none h] at hj2; simp [kAny,PK.into] at hj2
     have:=List.all_eq_true.1 h3 j (List.mem_range.2 hlj); simp [hj,hj2] at this
 have href : ∀ i e,(at_ ks i).ref = some e → ∃ p ∈ es.getD i [],p.1 = e:=fun i e hi=>by
   have hl : i < ks.length:=by
     rcases Nat.lt_or_ge i ks.length with h | h
     · exact h
     · unfold at_ at hi; rw [List.getD_eq_getElem?_getD,List.getElem?_eq_none h] at hi; simp [kAny,PK.ref] at hi
   have h:=List.all_eq_true.1 hk i (List.mem_range.2 hl); simp only [Bool.and_eq_true,hi] at h; obtain ⟨p,hp,hh⟩:=List.any_eq_true.1 h.2; exact ⟨p,hp,of_decide_eq_true hh⟩
 obtain ⟨Inv,hInv⟩ : ∃ Inv : (Nat → Bool) → (Nat → Value) → World → Prop,Inv = fun L x w=>Reg B W0 (blks ks) w ∧ (∀ i,i < ops.size → L i = true → (at_ ks i).sem W0.heap.size x (x i) w) ∧ (∀ i j,i < ops.size → j < ops.size → i ≠ j → L i = true → L j = true → (at_ ks i).isNew = true → (at_ ks j).isNew = true → blockOf (x i) ≠ blockOf (x j)) ∧ ∀ i e,i < ops.size → L i = true → (at_ ks i).ref = some e → e < ops.size ∧ L e = true:=⟨_,rfl⟩
 have hgo : ∀ i,i < ops.size → ∀ L x w,Inv L x w → L i = false → (∀ e,(at_ ks i).ref = some e → e < ops.size ∧ L e = true) → ∀ v w',(at_ ks i).move W0.heap.size x v w w' → (at_ ks i).sem W0.heap.size x v w' → Inv (upd L i true) (upd x i v) w':=by
   intro i hil L x w hI hi hin v w' h1 h2; rw [hInv] at hI ⊢
   have hintoi : ∀ j e,j < ops.size → L j = true → (at_ ks j).ref = some e → e ≠ i:=fun j e hj hLj he hei=>by
     have:=(hI.2.2.2 j e hj hLj he).2; rw [hei,hi] at this; cases this
   have hintoii : ∀ e,(at_ ks i).ref = some e → e ≠ i:=fun e he hei=>by
     have:=(hin e he).2; rw [hei,hi] at this; cases this
   -- the class
   have hR : Reg B W0 (blks ks) w':=by
     cases e : at_ ks i with
     | p f k1 k2=>rw [e] at h1; exact hI.1.step hB0 h1
     | fresh n=>rw [e] at h1; exact hI.1.step hB0 h1.1
     | list n f k1 k2=>rw [e] at h1; exact hI.1.step hB0 h1.1
     | same e1=>rw [e] at h1; exact hI.1.step hB0 h1
     | cell g f k1 k2 =>
       rw [e] at h1; have hg : g ∈ blks ks:=blk_mem (i:=i) (by rw [e]; rfl); exact hI.1.store (.inl hg) (hB g hg) h1
     | put n f k1 k2 =>
       rw [e] at h1; obtain ⟨g,_,hg,hst⟩:=h1; exact hI.1.store (.inr hg) (by omega) hst
   have hkeep : ∀ j,j < ops.size → L j = true → (at_ ks j).sem W0.heap.size x (x j) w':=fun j hj hLj=>by
     have hij : i ≠ j:=fun hh=>by rw [hh,hLj] at hi; cases hi
     have hsem:=hI.2.1 j hj hLj
     cases e : at_ ks i with
     | p f k1 k2=>rw [e] at h1; exact PK.step hsem h1
     | fresh n=>rw [e] at h1; exact PK.step hsem h1.1
     | list n f k1 k2=>rw [e] at h1; exact PK.step hsem h1.1
     | same e1=>rw [e] at h1; exact PK.step hsem h1
     | cell g f k1 k2 =>
       rw [e] at h1
       have hgl : g < W0.heap.size:=by
         obtain ⟨cs,hh⟩:=ht g (blk_mem (i:=i) (by rw [e]; rfl)); exact hh.lt
       refine PK.store hsem h1 (fun hb=>hij (blk_inj hn (i:=i) (j:=j) (g:=g) (by rw [e]; rfl) hb)) (fun e2 he2 hx=>?_) fun hf hnw hbl=>?_
       rotate_left 1
       · cases ej : at_ ks j with
         | list n3 f3 k3 k4 =>
           rw [ej] at hsem; obtain ⟨g',q1,q2,_⟩:=hsem; rw [q1] at hbl; injection hbl with hbl; have : g' = g:=hbl; omega
         | fresh n=>rw [ej] at hf; cases hf
         | _=>rw [ej] at hnw; cases hnw
       cases ej : at_ ks j with
       | put e3 f3 k3 k4 =>
         rw [ej] at hsem he2; obtain ⟨g',_,q1,q2,_⟩:=hsem; injection he2 with he2; subst he2; rw [q1] at hx; injection hx with hx; injection hx with hx; injection hx with hx; omega
       | _=>rw [ej] at he2; cases he2
     | put e1 f k1 k2 =>
       rw [e] at h1; obtain ⟨g,hxe,hg,hst⟩:=h1; obtain ⟨_,q1,_,q3⟩:=hinto i e1 (by rw [e]; rfl); obtain ⟨he1l,hLe1⟩:=hin e1 (by rw [e]; rfl); refine PK.store hsem hst (fun hb=>?_) (fun e2 he2 hx=>?_) fun hf hnw hbl=>?_
       · obtain ⟨cs,hh⟩:=ht g (blk_mem hb); have:=hh.lt; omega
       rotate_left 1
       · have hne : e1 ≠ j:=fun hh=>by rw [← hh,q1] at hf; cases hf
         exact hI.2.2.1 e1 j he1l hj hne hLe1 hLj (PK.new_of_fresh q1) hnw (by rw [hxe,hbl]; rfl)
       ·
         have hne : e1 ≠ e2:=fun hh=>q3 j hij (hh ▸ he2); have q4:=hinto j e2 he2; have q5:=hI.2.2.2 j e2 hj hLj (PK.ref_of_into he2); exact hI.2.2.1 e1 e2 he1l q5.1 hne hLe1 q5.2 (PK.new_of_fresh q1) (PK.new_of_fresh q4.2.1) (by rw [hxe,hx])
   refine ⟨hR,fun j hj hLj=>?_,fun j k hj hk' hjk hLj hLk hfj hfk=>?_,fun j e hj hLj he=>?_⟩
   · by_cases e : j = i
     · subst e; rw [db]; exact PK.sem_upd h2 hintoii
     · rw [cg _ _ e] at hLj; rw [cg _ _ e]; exact PK.sem_upd (hkeep j hj hLj) fun e2 he2=>hintoi j e2 hj hLj he2
   · have old : ∀ k,k < ops.size → L k = true → (at_ ks k).isNew = true → ∃ g',blockOf (x k) = some g' ∧ g' < w.heap.size:=fun k hkl hLk hfk=>by
       have hsem:=hI.2.1 k hkl hLk
       cases e2 : at_ ks k with
       | fresh m =>
         rw [e2] at hsem; obtain ⟨g',cs,q1,_,q3,_⟩:=hsem; exact ⟨g',by rw [q1]; rfl,q3.lt⟩
       | list m f3 k3 k4 =>
         rw [e2] at hsem; obtain ⟨g',q1,_,q3,_⟩:=hsem; exact ⟨g',by rw [q1]; rfl,q3⟩
       | _=>rw [e2] at hfk; cases hfk
     have new : (at_ ks i).isNew = true → ∃ g',blockOf v = some g' ∧ w.heap.size ≤ g':=fun hfi=>by
       cases e1 : at_ ks i with
       | fresh n =>
         rw [e1] at h1; obtain ⟨_,g,hg,hgs⟩:=h1; exact ⟨g,by rw [hg]; rfl,hgs⟩
       | list n f3 k3 k4 =>
         rw [e1] at h1; obtain ⟨_,g,hg,hgs⟩:=h1; exact ⟨g,by rw [hg]; rfl,hgs⟩
       | _=>rw [e1] at hfi; cases hfi
     have fr : ∀ k,k ≠ i → k < ops.size → L k = true → (at_ ks k).isNew = true → (at_ ks i).isNew = true → blockOf v ≠ blockOf (x k):=fun k _ hkl hLk hfk hfi hv=>by
       obtain ⟨g',q1,q2⟩:=old k hkl hLk hfk; obtain ⟨g,q3,q4⟩:=new hfi; rw [q1,q3] at hv; injection hv with hv; omega
     by_cases e : j = i
     · subst e; rw [db,cg _ _ (fun h=>hjk h.symm)]; rw [cg _ _ (fun h=>hjk h.symm)] at hLk; exact fr k (fun h=>hjk h.symm) hk' hLk hfk hfj
     · rw [cg _ _ e] at hLj ⊢
       by_cases e' : k = i
       · subst e'; rw [db]; exact fun h=>fr j e hj hLj hfj hfk h.symm
       · rw [cg _ _ e'] at hLk ⊢; exact hI.2.2.1 j k hj hk' hjk hLj hLk hfj hfk
   · by_cases e' : j = i
     · subst e'; refine ⟨(hin e he).1,?_⟩; rw [cg _ _ (hintoii e he)]; exact (hin e he).2
     · rw [cg _ _ e'] at hLj; have q:=hI.2.2.2 j e hj hLj he; refine ⟨q.1,?_⟩; rw [cg _ _ (hintoi j e hj hLj he)]; exact q.2
 refine wp_region_grow hm (fun L x w=>Inv L x w ∧ E L w) (fun i=>!sk.contains i) es all hchk ?_ (fun i o g ho hg L x w hI hL=>?_) (fun i hil hWi L x w hI hi=>?_) (fun i o ho hW L x w hI hi hd K hK=>?_) (fun L x w' hL hI=>?_)
 · intro W' hW'; refine ⟨?_,hE0 W' hW'⟩; rw [hInv]; exact ⟨Reg.start ht hW',fun i hi h=>absurd (of_decide_eq_true h) (by omega),fun i _ hi _ _ h=>absurd (of_decide_eq_true h) (by omega),fun i _ hi h=>absurd (of_decide_eq_true h) (by omega)⟩
 · replace hI:=hI.1; rw [hInv] at hI; have hil : i < ops.size:=(Array.getElem?_eq_some_iff.1 ho).1; have h:=List.all_eq_true.1 hgu i (List.mem_range.2 hil); rw [ho] at h; simp only [hg,Bool.or_eq_true] at h; rcases h with h | h
   · obtain ⟨p,hp,hh⟩:=List.any_eq_true.1 h; simp only [Bool.and_eq_true,decide_eq_true_eq,beq_iff_eq] at hh; obtain ⟨⟨h1,h2⟩,h3⟩:=hh; have hs1:=hI.2.1 g.1 h2 hL
     have hk1 : at_ ks g.1 = kIs (.bool p.2):=by
       rw [← h1]; exact List.map_inj_left.1 hbs p hp
     rw [hk1] at hs1; exact .inl ⟨p.2,hs1,h3⟩
   · simp only [Bool.and_eq_true,decide_eq_true_eq] at h; obtain ⟨⟨h1,h2⟩,h3⟩:=h; have hs1:=hI.2.1 g.1 h1 hL; have hk1 : at_ ks g.1 = kIs undef:=List.map_inj_left.1 hsk g.1 (by simpa using h2); rw [hk1] at hs1; exact .inr ⟨hs1,by rw [h3]; rfl⟩
 · have hm : i ∈ sk:=by simpa using hWi
   have hk1 : at_ ks i = kIs undef:=List.map_inj_left.1 hsk i hm; have hmv : (at_ ks i).move W0.heap.size x undef w w:=by rw [hk1]; exact Below.refl _ _
   have hI1:=hI.1; rw [hInv] at hI1; exact ⟨hgo i hil L x w hI.1 hi (fun e he=>by rw [hk1] at he; cases he) undef w hmv (by rw [hk1]; rfl),hEs i hil L x undef w w hI.2 hI1.1 hi (fun h=>absurd (show sk.contains i = true by simpa using hm) (by rw [h]; decide)) hmv⟩
 · have hil : i < ops.size:=(Array.getElem?_eq_some_iff.1 ho).1; have hI':=hI.1; rw [hInv] at hI'; refine deps_use (es.getD i []) (fun p hp=>hI'.2.1 p.1 (hlt i o ho p hp) (hd p hp)) (hs i o ho (by simpa using hW) L hi w x ⟨hI'.1,hI.2⟩) K fun v w' h1 h2=>hK v w' ⟨hgo i hil L x w hI.1 hi (fun e he=>?_) v w' h1 h2,hEs i hil L x v w w' hI.2 hI'.1 hi (fun _=>hd) h1⟩; obtain ⟨p,hp,hpe⟩:=href i e he; exact ⟨hpe ▸ hlt i o ho p hp,hpe ▸ hd p hp⟩
 · replace hI:=hI.1; rw [hInv] at hI; exact hend w' x hI.1 fun i hi=>hI.2.1 i hi (hL i hi)
def waits (es : List (List (Nat × Option Tmp))) (sk : List Nat) (n s j : Nat) : Bool:=decide (j = s) || decide (s < n) && !sk.contains s && (es.getD s []).any fun p=>decide (p.1 = j) || decide (p.1 < n) && !sk.contains p.1 && (es.getD p.1 []).any fun q=>decide (q.1 = j)
theorem waits_not {es : List (List (Nat × Option Tmp))} {sk : List Nat} {n s j : Nat} {L : Nat → Bool} (h : waits es sk n s j = true) (hj : L j = false) (hd : ∀ i,i < n → sk.contains i = false → L i = true → ∀ p ∈ es.getD i [],L p.1 = true) : L s = false:=by
 cases hs : L s with
 | false=>rfl
 | true =>
   exfalso
   unfold waits at h; rw [Bool.or_eq_true] at h; rcases h with h | h
   · rw [of_decide_eq_true h] at hj; rw [hj] at hs; cases hs
   · rw [Bool.and_eq_true,Bool.and_eq_true] at h; obtain ⟨⟨h1,h2⟩,h⟩:=h; obtain ⟨p,hp,h⟩:=List.any_eq_true.1 h; have hp1:=hd s (of_decide_eq_true h1) (by simpa using h2) hs p hp; rw [Bool.or_eq_true] at h; rcases h with h | h
     · rw [of_decide_eq_true h,hj] at hp1; cases hp1
     · rw [Bool.and_eq_true,Bool.and_eq_true] at h; obtain ⟨⟨h3,h4⟩,h⟩:=h; obtain ⟨q,hq,h⟩:=List.any_eq_true.1 h; have hq1:=hd p.1 (of_decide_eq_true h3) (by simpa using h4) hp1 q hq; rw [of_decide_eq_true h,hj] at hq1; cases hq1
def PkFromL (P : Program) (ops : Array Oper) (es : List (List (Nat × Option Tmp))) (sk : List Nat) (B : Nat) (W0 : World) (g : Nat) (ks : List PK) (a0 : Act) (js : List Nat) (i : Nat) : Prop :=
 ∀ k o,i ≤ k → ops[k]? = some o → sk.contains k = false → PkStep P (fun w=>Reg B W0 [g] w ∧ (js.contains k = true → w.heap[g]? = W0.heap[g]?)) W0.heap.size ks a0 k o (es.getD k [])
section
variable {P : Program} {ops : Array Oper} {es : List (List (Nat × Option Tmp))} {sk : List Nat} {B : Nat} {W0 : World} {g : Nat} {ks : List PK} {a0 : Act} {js : List Nat} {i : Nat} {o : Oper} {e : List (Nat × Option Tmp)}
theorem aj (ho : ops[i]? = some o) (he : es.getD i [] = e) (h : PkStep P (Reg B W0 [g]) W0.heap.size ks a0 i o e) (hr : PkFromL P ops es sk B W0 g ks a0 js (i + 1)) : PkFromL P ops es sk B W0 g ks a0 js i:=fun k o' hk ho' hs=>by
 by_cases e1 : k = i
 · subst e1; rw [ho] at ho'; injection ho' with ho'; rw [← ho',he]; exact fun w x hC=>h w x hC.1
 · exact hr k o' (by omega) ho' hs
theorem cp (ho : ops[i]? = some o) (he : es.getD i [] = e) (hj : js.contains i = true) (h : PkStep P (fun w=>Reg B W0 [g] w ∧ w.heap[g]? = W0.heap[g]?) W0.heap.size ks a0 i o e) (hr : PkFromL P ops es sk B W0 g ks a0 js (i + 1)) : PkFromL P ops es sk B W0 g ks a0 js i:=fun k o' hk ho' hs=>by
 by_cases e1 : k = i
 · subst e1; rw [ho] at ho'; injection ho' with ho'; rw [← ho',he]; exact fun w x hC=>h w x ⟨hC.1,hC.2 hj⟩
 · exact hr k o' (by omega) ho' hs
theorem fa (h : ops.size = i) : PkFromL P ops es sk B W0 g ks a0 js i:=fun k o hk ho _=>by
 have:=(Array.getElem?_eq_some_iff.1 ho).1
 omega
end
theorem dm {P : Program} {id : Nat} {draw : Bool} {ops : Array Oper} {Q : Exit → Act → World → Prop} {a0 : Act} {W0 : World} {N : Nat}  (B g : Nat) {cs : Array Value} (hg : Holds_ W0 g cs) (hBg : B ≤ g) (s : Nat) (js : List Nat) (ks : List PK) (es : List (List (Nat × Option Tmp))) (all : List (Nat × Option Tmp)) (bs : List (Nat × Bool)) (sk : List Nat)      
    (hsg : (at_ ks s).blk = some g)  (hB0 : B ≤ W0.heap.size) (hs : PkFromL P ops es sk B W0 g ks a0 js 0) (hend : ∀ w' x,Reg B W0 [g] w' → (∀ i,i < ops.size → (at_ ks i).sem W0.heap.size x (x i) w') → Q .normal (putE x a0 all) w') (hN : a0.tmps.size = N:=by assumption) (hm : P.follows .mixedOrders = true:=by kernel_rfl) (hchk : growOK ops (fun i=>!sk.contains i) es all N = true:=by kernel_rfl) (hk : codesOK ks es = true:=by kernel_rfl) (hgu : guardOK ops bs sk = true:=by kernel_rfl) (hbs : bs.map (fun p=>at_ ks p.1) = bs.map fun p=>kIs (.bool p.2):=by kernel_rfl) (hsk : sk.map (at_ ks) = sk.map fun _=>kIs undef:=by kernel_rfl) (hb : blks ks = [g]:=by kernel_rfl) (hjs : js.all (waits es sk ops.size s) = true:=by kernel_rfl) : (Code.region id ops draw).wp P Q a0 W0:=by
 subst hN
 have hn : (blks ks).Nodup:=by rw [hb]; exact List.nodup_cons.2 ⟨by simp,List.nodup_nil⟩
 have hops:=hchk
 unfold growOK at hops
 simp only [Bool.and_eq_true,decide_eq_true_eq] at hops
 have hlt : ∀ i,i < ops.size → ∀ p ∈ es.getD i [],p.1 < ops.size:=fun i hi p hp=>by
   have h:=List.all_eq_true.1 hops.2 i (List.mem_range.2 hi); rw [Array.getElem?_eq_getElem hi] at h; simp only [Bool.and_eq_true] at h; have:=List.all_eq_true.1 h.1.2 p hp; simp only [Bool.and_eq_true,decide_eq_true_eq] at this; exact this.1.2
 refine wp_region_pkE B ks es all bs sk hm hchk hk hgu hbs hsk hn ?_ hB0 ?_ (fun L w=>(L s = false → w.heap[g]? = W0.heap[g]?) ∧ ∀ i,i < ops.size → sk.contains i = false → L i = true → ∀ p ∈ es.getD i [],L p.1 = true) ?_ ?_ ?_ ?_
 · rw [hb]; intro g' hg'; rw [List.mem_singleton.1 hg']; exact hBg
 · rw [hb]; intro g' hg'; rw [List.mem_singleton.1 hg']; exact ⟨_,hg⟩
 · intro W' hW'; refine ⟨fun _=>?_,fun i hi _ h=>absurd (of_decide_eq_true h) (by omega)⟩; rcases hW' with rfl | rfl <;> rfl
 · intro i hil L x v w w' hE hR hi hd hmv; refine ⟨fun hL=>?_,fun k hk1 hk2 hk3 p hp=>?_⟩
   · have hne : s ≠ i:=fun h=>by rw [h,db] at hL; cases hL
     rw [cg _ _ hne] at hL; have hw:=hE.1 hL; have hgw : g < w.heap.size:=Nat.lt_of_lt_of_le hg.lt hR.below.size; refine Eq.trans ?_ hw
     cases e : at_ ks i with
     | p f k1 k2=>rw [e] at hmv; exact hmv.block g hgw
     | fresh n=>rw [e] at hmv; exact hmv.1.block g hgw
     | list n f k1 k2=>rw [e] at hmv; exact hmv.1.block g hgw
     | same e1=>rw [e] at hmv; exact hmv.block g hgw
     | cell g' f k1 k2 =>
       rw [e] at hmv; refine hmv.other g fun h=>hne (blk_inj hn (i:=s) (j:=i) (g:=g) hsg ?_); rw [e,h]; rfl
     | put n f k1 k2 =>
       rw [e] at hmv; obtain ⟨g',_,hg',hst⟩:=hmv; refine hst.other g fun h=>?_; have:=hg.lt; omega
   · by_cases e : k = i
     · subst e
       by_cases e2 : p.1 = k
       · rw [e2,db]
       · rw [cg _ _ e2]; exact hd hk2 p hp
     · rw [cg _ _ e] at hk3
       by_cases e2 : p.1 = i
       · rw [e2,db]
       · rw [cg _ _ e2]; exact hE.2 k hk1 hk2 hk3 p hp
 · intro i o ho hsi L hi w x hC; rw [hb] at hC; exact hs i o (Nat.zero_le _) ho hsi w x ⟨hC.1,fun hj=>hC.2.1 (waits_not (List.all_eq_true.1 hjs i (by simpa using hj)) hi hC.2.2)⟩
 · rw [hb]; exact hend
section
variable {C : World → Prop} {S0 : Nat} {ks : List PK} {a0 : Act} {i : Nat} {N : Nat} {P : Program} {T : TypeId} {pos : String} {af : Array Edge} {gu : Option (Nat × Bool)} {ats : Array TypeId}
theorem st_call2V {d F j0 t0 j1 t1 j2 t2 : Nat} {c1 c2 c : PK}     
       (h0 : at_ ks j0 = kIs (.func (.func F) #[] #[])) (h1 : at_ ks j1 = c1) (h2 : at_ ks j2 = c2) (hi : at_ ks i = c)
   (h : ∀ w x v1 v2,C w → c1.sem S0 x v1 w → c2.sem S0 x v2 w → Calls P F #[v1,v2] w (Told c S0 x w)) (hN : a0.tmps.size = N:=by assumption) (hd : decide (d < N) = true:=by kernel_rfl) (ht0 : decide (t0 < N) = true:=by kernel_rfl) (ht1 : decide (t1 < N) = true:=by kernel_rfl) (ht2 : decide (t2 < N) = true:=by kernel_rfl) (hn01 : decide (t0 = t1) = false:=by kernel_rfl) (hn02 : decide (t0 = t2) = false:=by kernel_rfl) (hne : decide (t1 = t2) = false:=by kernel_rfl) (hF : enters P F = true:=by kernel_rfl) :
   PkStep P C S0 ks a0 i { dst:=some d,op:=.call { callee:=.value (.tmp t0),args:=#[.tmp t1,.tmp t2],argTypes:=ats },type:=T,pos:=pos,after:=af,guard:=gu } [(j0,some t0),(j1,some t1),(j2,some t2)]:=by
 have n01:=of_decide_eq_false hn01
 have n02:=of_decide_eq_false hn02
 have n12:=of_decide_eq_false hne
 intro w x hC
 refine aw _ fun hdeps K hK=>?_
 have g0:=hdeps (j0,some t0) (by simp)
 have g1:=hdeps (j1,some t1) (by simp)
 have g2:=hdeps (j2,some t2) (by simp)
 rw [h0] at g0
 rw [h1] at g1
 rw [h2] at g2
 have g0' : x j0 = .func (.func F) #[] #[]:=g0
 have he : esIn [(j0,some t0),(j1,some t1),(j2,some t2)] N = true:=by simp [esIn]; exact ⟨of_decide_eq_true ht0,of_decide_eq_true ht1,of_decide_eq_true ht2⟩
 have e0 : (putE x a0 [(j0,some t0),(j1,some t1),(j2,some t2)]).eval (.tmp t0) = .func (.func F) #[] #[]:=(putE_new _ _ (by rw [hN]; exact of_decide_eq_true ht0) (by simp [slotAt,Ne.symm n01,Ne.symm n02])).trans g0'
 have e1 : (putE x a0 [(j0,some t0),(j1,some t1),(j2,some t2)]).eval (.tmp t1) = x j1:=putE_new _ _ (by rw [hN]; exact of_decide_eq_true ht1) (by simp [slotAt,Ne.symm n12])
 have e2 : (putE x a0 [(j0,some t0),(j1,some t1),(j2,some t2)]).eval (.tmp t2) = x j2:=putE_new _ _ (by rw [hN]; exact of_decide_eq_true ht2) (by simp [slotAt])
 refine wp_ent (F:=F) (args:=#[x j1,x j2]) rfl (by rw [ax,hN]) hd ?_ ?_
 · obtain ⟨A,hA⟩ : ∃ A,A = putE x a0 [(j0,some t0),(j1,some t1),(j2,some t2)]:=⟨_,rfl⟩
   rw [← hA] at e0 e1 e2 ⊢; have f0 : A.tmps[t0]?.getD undef = .func (.func F) #[] #[]:=by simpa [go_sem] using e0
   have f1 : A.tmps[t1]?.getD undef = x j1:=by simpa [go_sem] using e1
   have f2 : A.tmps[t2]?.getD undef = x j2:=by simpa [go_sem] using e2
   simp [go_sem,f0,f1,f2,run_enters hF]
 · exact (h w x _ _ hC g1 g2).mono fun e w' hh=>by
     obtain ⟨v,h1',h2',h3'⟩:=hh; exact ⟨v,h1',hK v w' (by rw [hi]; exact h2') (by rw [hi]; exact h3')⟩
end
theorem run_allocP {w : World} : (Instr.alloc 26 true (.tuple #[])).run Tryz.prog w = .ok (.pointer (some ⟨w.heap.size,0,none⟩)) (w.alloc (.cells #[.bool false,.slice none 0 0,.bool false,.slice none 0 0] 26)):=by go_simp
def AtP (W : World) (g o k : Nat) (x y : Int) : Prop:=∃ A l c A' l' c',W.cell? ⟨g,o,none⟩ = some (.bool (decide (x < 0))) ∧ W.cell? ⟨g,o + 1,none⟩ = some (.slice A l c) ∧ W.cell? ⟨g,o + 2,none⟩ = some (.bool (decide (y < 0))) ∧ W.cell? ⟨g,o + 3,none⟩ = some (.slice A' l' c') ∧ Pr W (.agg #[.bool (decide (x < 0)),.slice A l c,.bool (decide (y < 0)),.slice A' l' c']) k x y
theorem AtP.below {W w' : World} {g o k : Nat} {x y : Int} (h : AtP W g o k x y) (hb : Below W.heap.size W w') : AtP w' g o k x y:=by
 obtain ⟨A,l,c,A',l',c',h1,h2,h3,h4,h5⟩:=h
 exact ⟨A,l,c,A',l',c',(hb.cell (cell_lt h1)).trans h1,(hb.cell (cell_lt h2)).trans h2,(hb.cell (cell_lt h3)).trans h3,(hb.cell (cell_lt h4)).trans h4,h5.below hb⟩
theorem AtP.stored {W w' : World} {g j o k : Nat} {x y : Int} (h : AtP W g o k x y) (hs : Stored j W w') (hne : g ≠ j) : AtP w' g o k x y:=by
 obtain ⟨A,l,c,A',l',c',h1,h2,h3,h4,h5⟩:=h
 exact ⟨A,l,c,A',l',c',(World.cell?_of_block (hs.other _ hne)).trans h1,(World.cell?_of_block (hs.other _ hne)).trans h2,(World.cell?_of_block (hs.other _ hne)).trans h3,(World.cell?_of_block (hs.other _ hne)).trans h4,h5.stored hs⟩
def PRs (W : World) (g : Nat) (l : List (Nat × Int × Int)) : Prop:=∀ j q,l[j]? = some q → AtP W g (j * 4) q.1 q.2.1 q.2.2
theorem PRs.below {W w' : World} {g : Nat} {l : List (Nat × Int × Int)} (h : PRs W g l) (hb : Below W.heap.size W w') : PRs w' g l:=fun j q hj=>(h j q hj).below hb
def kPutP (e k : Nat) (x y : Int) : PK:=.put e (isP k x y) (fun _ _ _ ⟨A,l,c,A',l',c',e,h⟩ hb=>⟨A,l,c,A',l',c',e,h.below hb⟩) (fun _ _ _ _ ⟨A,l,c,A',l',c',e,h⟩ hs=>⟨A,l,c,A',l',c',e,h.stored hs⟩)
theorem Pr.parts {W : World} {v : Value} {k : Nat} {x y : Int} (h : Pr W v k x y) : ∃ A l c A' l' c',v = .agg #[.bool (decide (x < 0)),.slice A l c,.bool (decide (y < 0)),.slice A' l' c'] ∧ Pr W (.agg #[.bool (decide (x < 0)),.slice A l c,.bool (decide (y < 0)),.slice A' l' c']) k x y:=by
 obtain ⟨A,l,c,A',l',c',rfl,h⟩:=h
 exact ⟨A,l,c,A',l',c',rfl,A,l,c,A',l',c',rfl,h⟩
theorem Pr.two {W : World} {A A' : Option Addr} {l c l' c' k : Nat} {x y : Int} (h : Pr W (.agg #[.bool (decide (x < 0)),.slice A l c,.bool (decide (y < 0)),.slice A' l' c']) k x y) : Zr W (.agg #[.bool (decide (x < 0)),.slice A l c]) k x ∧ Zr W (.agg #[.bool (decide (y < 0)),.slice A' l' c']) k y:=by
 obtain ⟨B,m,d,B',m',d',e,h1,h2⟩:=h
 injection e with e; injection e with e
 injection e with _ e; injection e with e1 e; injection e with _ e; injection e with e2 _
 injection e1 with a b c; subst a; subst b; subst c
 injection e2 with a b c; subst a; subst b; subst c
 exact ⟨⟨_,_,_,rfl,h1⟩,⟨_,_,_,rfl,h2⟩⟩
theorem AtP.two {W : World} {g k : Nat} {x y : Int} (h : AtP W g 0 k x y) : AtR W g 0 k x ∧ AtR W g 2 k y:=by
 obtain ⟨A,l,c,A',l',c',h1,h2,h3,h4,h5⟩:=h
 exact ⟨⟨A,l,c,h1,h2,h5.two.1⟩,⟨A',l',c',h3,h4,h5.two.2⟩⟩
theorem isP_at {W : World} {g k : Nat} {x y : Int} {cs : Array Value} (hg : Holds_ W g cs) (h : isP k x y cs W) : AtP W g 0 k x y:=by
 obtain ⟨A,l,c,A',l',c',rfl,h⟩:=h
 obtain ⟨m1,m2,m3,m4,_,_,_,_⟩:=hg.four
 exact ⟨A,l,c,A',l',c',m1,m2,m3,m4,h⟩
theorem jt {S0 : Nat} {x : Nat → Value} {v : Value} {w : World} {e k : Nat} {z1 z2 : Int} (h : (kPutP e k z1 z2).sem S0 x v w) : ∃ g,x e = .pointer (some ⟨g,0,none⟩) ∧ S0 ≤ g ∧ AtR w g 0 k z1 ∧ AtR w g 2 k z2:=by
 obtain ⟨g,cs,h1,hg,h2,h3⟩:=h
 exact ⟨g,h1,hg,(isP_at h2 h3).two⟩
theorem res_atP {S0 : Nat} {x : Nat → Value} {v : Value} {w : World} {g k : Nat} {z1 z2 : Int} (h : (kRes g k z1 z2).sem S0 x v w) : AtR w g 0 k z1 ∧ AtR w g 2 k z2:=by
 obtain ⟨cs,h2,h3⟩:=h
 exact (isP_at h2 h3).two
theorem holds_new4 (w : World) {a b c d : Value} (h1 : noDig a) (h2 : noDig b) (h3 : noDig c) (h4 : noDig d) (T : TypeId) : Holds_ (w.alloc (.cells #[a,b,c,d] T)) w.heap.size #[a,b,c,d] :=
 ⟨⟨T,heap_alloc_new _ _⟩,fun v hv=>by simp at hv; rcases hv with rfl | rfl | rfl | rfl <;> assumption⟩
section
variable {G : List Nat} {S0 B : Nat} {ks : List PK} {a0 : Act} {i : Nat} {N : Nat} {W0 : World} {T : TypeId} {pos : String} {af : Array Edge} {gu : Option (Nat × Bool)}
theorem ea {d : Nat}    (hi : at_ ks i = .fresh 4) (hN : a0.tmps.size = N:=by assumption) (hd : decide (d < N) = true:=by kernel_rfl) (hS : S0 ≤ W0.heap.size:=by exact Nat.le_refl _) :
   PkStep Tryz.prog (Reg B W0 G) S0 ks a0 i { dst:=some d,op:=.alloc 26,type:=T,pos:=pos,after:=af,guard:=gu } []:=by
 intro w x hC K hK
 have hsz:=hC.below.size
 refine bj (v:=.pointer (some ⟨w.heap.size,0,none⟩)) rfl hN hd (ex_alloc run_allocP) (hK _ _ ?_ ?_)
 · rw [hi]; exact ⟨(Below.refl _ _).alloc (Nat.le_refl _) _,_,rfl,Nat.le_refl _⟩
 · rw [hi]; exact ⟨_,_,rfl,Nat.le_trans hS hsz,holds_new4 _ (noDig_bool _) (noDig_slice _ _ _) (noDig_bool _) (noDig_slice _ _ _) _,rfl⟩
theorem ju {t u e j k : Nat} {z1 z2 : Int}     (he : at_ ks e = .fresh 4) (hj : at_ ks j = kP k z1 z2) (hi : at_ ks i = kPutP e k z1 z2) (hN : a0.tmps.size = N:=by assumption) (ht : decide (t < N) = true:=by kernel_rfl) (hu : decide (u < N) = true:=by kernel_rfl) (htu : decide (t = u) = false:=by kernel_rfl) :
   PkStep Tryz.prog (Reg B W0 G) S0 ks a0 i { dst:=none,op:=.store 26 (.tmp t) (.tmp u),type:=T,pos:=pos,after:=af,guard:=gu } [(e,some t),(j,some u)]:=by
 intro w x hC
 refine aw _ fun hdeps K hK=>?_
 have h1:=hdeps (e,some t) (by simp)
 have h2:=hdeps (j,some u) (by simp)
 have htu' : t ≠ u:=of_decide_eq_false htu
 have e1 : (putE x a0 [(e,some t),(j,some u)]).eval (.tmp t) = x e:=putE_new _ _ (by rw [hN]; exact of_decide_eq_true ht) (by simp [slotAt,Ne.symm htu'])
 have e2 : (putE x a0 [(e,some t),(j,some u)]).eval (.tmp u) = x j:=putE_new _ _ (by rw [hN]; exact of_decide_eq_true hu) (by simp [slotAt])
 simp only [he,hj] at h1 h2
 obtain ⟨g,cs,hx,hg0,hg,hsz⟩:=h1
 obtain ⟨a,b,c0,d0,rfl⟩:=jh hsz
 obtain ⟨A,l,c,A',l',c',hy,hr⟩:=(show Pr w (x j) k z1 z2 from h2).parts
 obtain ⟨m1,m2,m3,m4,f1,f2,f3,f4⟩:=hg.four
 have hst:=bu hg (noDig_bool (decide (z1 < 0))) (noDig_slice A l c) (noDig_bool (decide (z2 < 0))) (noDig_slice A' l' c')
 refine gp (w':=put4 w g (.bool (decide (z1 < 0))) (.slice A l c) (.bool (decide (z2 < 0))) (.slice A' l' c')) rfl ?_ (hK _ _ ?_ ?_)
 · exact dz (e1.trans hx) (e2.trans hy) (run_storeP m1 m2 m3 m4 f1 f2 f3 f4)
 · rw [hi]; exact ⟨g,hx,hg0,hst⟩
 · rw [hi]; exact ⟨g,_,hx,hg0,cd hg (noDig_bool _) (noDig_slice _ _ _) (noDig_bool _) (noDig_slice _ _ _),A,l,c,A',l',c',rfl,hr.stored hst⟩
end
theorem wpOps_one {P : Program} {ops : Array Oper} {Q : Exit → Act → World → Prop} {i : Nat} {rest : List Nat} {o : Oper} {a : Act} {w : World} {v : Value} (ho : ops[i]? = some o) (hg : o.guard = none) (h : (execOp a.eval o).run P w = .ok (.value v) w) (hk : wpOps P ops Q rest (a.put o.dst v) w) : wpOps P ops Q (i :: rest) a w:=by
 rw [wpOps_cons]
 unfold wpOp
 rw [ho]
 have hw : Region.wanted o (yielded ops a.tmps) = true:=by simp [Region.wanted,hg]
 show if Region.wanted o _ = true then _ else _
 rw [if_pos hw]
 left
 unfold Oper.wp
 rw [h]
 exact hk
theorem wp_incr2 {P : Program} {id : Nat} {Q : Exit → Act → World → Prop} {a : Act} {w : World} {B I N : Nat} {n m : Int} {E E2 T2 T3 : TypeId} {p2 p3 : String} {f2 f3 : Array Edge}   (hI : a.eval (.tmp I) = .int .i64 n) (hadd : ∀ w, (binOp .add E (.int .i64 n) (.int .i64 1)).run P w = .ok (.int .i64 m) w)
   (hend : ∀ x : Nat → Value,x 1 = .int .i64 m → Q .normal (putE x a [(0,some B),(1,some I)]) w) (hN : a.tmps.size = N:=by assumption) (hB : decide (B < N) = true:=by kernel_rfl) :
   (Code.region id #[{ dst:=some B,op:=.binOp .add E (.tmp I) (.const (.int .i64 1)) E2,type:=T2,pos:=p2,after:=f2,guard:=none },{ dst:=some I,op:=.move (.tmp B),type:=T3,pos:=p3,after:=f3,guard:=none }] false).wp P Q a w:=by
 refine wp_region ?_
 have e : List.range (#[({ dst:=some B,op:=.binOp .add E (.tmp I) (.const (.int .i64 1)) E2,type:=T2,pos:=p2,after:=f2,guard:=none } : Oper),{ dst:=some I,op:=.move (.tmp B),type:=T3,pos:=p3,after:=f3,guard:=none }]).size = [0,1]:=rfl
 rw [e]
 refine wpOps_one (v:=.int .i64 m) rfl rfl ?_ ?_
 · show (((do eqGuard .add E (.tmp I) (.const (.int .i64 1)) (a.eval (.tmp I)) (.int .i64 1); binOp .add E (a.eval (.tmp I)) (.int .i64 1)) : Sem Value) >>= fun v=>pure (Next.value v)).run P w = _
   rw [hI]
   have e2 : ((do eqGuard .add E (.tmp I) (.const (.int .i64 1)) (.int .i64 n) (.int .i64 1); binOp .add E (.int .i64 n) (.int .i64 1)) : Sem Value).run P w = .ok (.int .i64 m) w:=by
     rw [bm (v:=()) (w':=w) rfl]; exact hadd w
   rw [bm e2]; rfl
 refine wpOps_one (v:=.int .i64 m) rfl rfl ?_ ?_
 · have e1 : (a.put (some B) (.int .i64 m)).eval (.tmp B) = .int .i64 m:=dy _ _ _ (by rw [hN]; exact of_decide_eq_true hB)
   show (pure (Next.value ((a.put (some B) (.int .i64 m)).eval (.tmp B))) : Sem Next).run P w = _
   rw [e1]; rfl
 exact hend (fun _=>.int .i64 m) rfl
def kResZ (g k : Nat) (z : Int) : PK:=.cell g (isZ k z) (fun _ _ _ ⟨A,l,c,h1,h2⟩ hb=>⟨A,l,c,h1,h2.below hb⟩) (fun _ _ _ _ ⟨A,l,c,h1,h2⟩ hs=>⟨A,l,c,h1,h2.stored hs⟩)
theorem Holds_.two' {w : World} {g : Nat} {a b : Value} (h : Holds_ w g #[a,b]) : w.cell? ⟨g,0,none⟩ = some a ∧ w.cell? ⟨g,1,none⟩ = some b ∧ w.frozen? ⟨g,0,none⟩ = false ∧ w.frozen? ⟨g,1,none⟩ = false:=h.two
theorem LocR.atR {W : World} {g k : Nat} {z : Int} (h : LocR W g k z) : AtR W g 0 k z:=by
 obtain ⟨A,l,c,h1,h2⟩:=h
 obtain ⟨m1,m2,_,_⟩:=h1.two
 exact ⟨A,l,c,m1,m2,h2⟩
theorem cb {S0 : Nat} {x : Nat → Value} {v : Value} {w : World} {e k : Nat} {z : Int} (h : (kPutZ e k z).sem S0 x v w) : ∃ g,x e = .pointer (some ⟨g,0,none⟩) ∧ S0 ≤ g ∧ LocR w g k z:=by
 obtain ⟨g,cs,h1,hg,h2,A,l,c,rfl,h3⟩:=h
 exact ⟨g,h1,hg,A,l,c,h2,h3⟩
section
variable {G : List Nat} {S0 B : Nat} {ks : List PK} {a0 : Act} {i : Nat} {N : Nat} {W0 : World} {T : TypeId} {pos : String} {af : Array Edge} {gu : Option (Nat × Bool)}
theorem ce {t u j g k : Nat} {z : Int} {a b : Value} (h0 : Holds_ W0 g #[a,b])  (hp : a0.eval (.tmp t) = .pointer (some ⟨g,0,none⟩))    (hj : at_ ks j = kZ k z) (hi : at_ ks i = kResZ g k z) (hG : g ∈ G:=by simp) (hN : a0.tmps.size = N:=by assumption) (hu : decide (u < N) = true:=by kernel_rfl) (htu : decide (t = u) = false:=by kernel_rfl) :
   PkStep Tryz.prog (Reg B W0 G) S0 ks a0 i { dst:=none,op:=.store 24 (.tmp t) (.tmp u),type:=T,pos:=pos,after:=af,guard:=gu } [(j,some u)]:=by
 intro w x hC
 refine aw _ fun hdeps K hK=>?_
 have g1:=hdeps (j,some u) (by simp)
 rw [hj] at g1
 obtain ⟨A,l,c,hx,hr,hlt⟩:=(show Zr w (x j) k z from g1)
 have htu' : t ≠ u:=of_decide_eq_false htu
 have e1 : (putE x a0 [(j,some u)]).eval (.tmp t) = .pointer (some ⟨g,0,none⟩):=(putE_old _ _ (by simp [slotAt,Ne.symm htu'])).trans hp
 have e2 : (putE x a0 [(j,some u)]).eval (.tmp u) = x j:=putE_new _ _ (by rw [hN]; exact of_decide_eq_true hu) (by simp [slotAt])
 obtain ⟨u0,v0,hg⟩:=hC.two hG h0
 obtain ⟨m1,m2,m3,m4⟩:=hg.two
 have hst:=stored_put2 hg (noDig_bool (decide (z < 0))) (noDig_slice A l c)
 refine gp (w':=put2 w g (.bool (decide (z < 0))) (.slice A l c)) rfl ?_ (hK _ _ ?_ ?_)
 · exact dz e1 (e2.trans hx) (run_store2 m3 m4 m1 m2)
 · rw [hi]; exact hst
 · rw [hi]; exact ⟨_,ay hg (noDig_bool _) (noDig_slice _ _ _),A,l,c,rfl,A,l,c,rfl,hst.rr hr,hlt⟩
end
theorem ci {fn : Func} {R : Ending → World → Prop} {a : Act} {w : World} {t g k : Nat} {z : Int} {cs : Array Value} (hres : fn.results = #[.cell t 24 ]) (hd : a.defers = []) (hp : a.eval (.tmp t) = .pointer (some ⟨g,0,none⟩)) (hg : Holds_ w g cs) (hP : isZ k z cs w) (hR : ∀ v,Zr w v k z → R (.returned v) w) : bodyPost Tryz.prog fn R .ret a w:=by
 obtain ⟨A,l,c,rfl,h⟩:=hP
 obtain ⟨m1,m2,m3,m4⟩:=hg.two'
 refine bodyPost_ret (v:=.agg #[.bool (decide (z < 0)),.slice A l c]) ?_ hd (hR _ h)
 have hp' : a.tmps[t]?.getD undef = .pointer (some ⟨g,0,none⟩):=by
   rw [← Array.getD_eq_getD_getElem?]; exact hp
 simp [results,hres,go_sem,hp',m1,m2]
theorem keep_holds {W0 w : World} {g : Nat} {cs : Array Value} (h : w.heap[g]? = W0.heap[g]?) (hh : Holds_ W0 g cs) : Holds_ w g cs:=by
 obtain ⟨⟨T,e⟩,hn⟩:=hh
 exact ⟨⟨T,h.trans e⟩,hn⟩
theorem il {B : Nat} {W0 w : World} {g0 : Nat} (hC : Reg B W0 [g0] w ∧ w.heap[g0]? = W0.heap[g0]?) {o k : Nat} {z : Int} (hl : AtR W0 g0 o k z) : AtR w g0 o k z:=by
 obtain ⟨A,l,c,h1,h2,h3⟩:=hl
 exact ⟨A,l,c,(World.cell?_of_block hC.2).trans h1,(World.cell?_of_block hC.2).trans h2,hC.1.zr h3⟩
theorem run_load4F' {w : World} {g : Nat} {u v u' v' : Value} (h0 : w.cell? ⟨g,0,none⟩ = some u) (h1 : w.cell? ⟨g,0 + 1,none⟩ = some v) (h2 : w.cell? ⟨g,2,none⟩ = some u') (h3 : w.cell? ⟨g,2 + 1,none⟩ = some v') : (Instr.loadAt 72 (.pointer (some ⟨g,0,none⟩))).run Tryz.prog w = .ok (.agg #[u,v,u',v']) w:=by go_simp
theorem run_storeHi {w : World} {g : Nat} {b : Bool} {A : Option Addr} {l c : Nat} {u0 v0 : Value} (h0 : w.cell? ⟨g,2,none⟩ = some u0) (h1 : w.cell? ⟨g,3,none⟩ = some v0) (f0 : w.frozen? ⟨g,2,none⟩ = false) (f1 : w.frozen? ⟨g,3,none⟩ = false) :
   (Instr.storeAt 24 (.pointer (some ⟨g,2,none⟩)) (.agg #[.bool b,.slice A l c])).run Tryz.prog w = .ok () ((w.setCell ⟨g,2,none⟩ (.bool b)).setCell ⟨g,3,none⟩ (.slice A l c)):=by go_simp
theorem run_storeLo {w : World} {g : Nat} {b : Bool} {A : Option Addr} {l c : Nat} {u0 v0 : Value} (h0 : w.cell? ⟨g,0,none⟩ = some u0) (h1 : w.cell? ⟨g,1,none⟩ = some v0) (f0 : w.frozen? ⟨g,0,none⟩ = false) (f1 : w.frozen? ⟨g,1,none⟩ = false) :
   (Instr.storeAt 24 (.pointer (some ⟨g,0,none⟩)) (.agg #[.bool b,.slice A l c])).run Tryz.prog w = .ok () ((w.setCell ⟨g,0,none⟩ (.bool b)).setCell ⟨g,1,none⟩ (.slice A l c)):=by go_simp
def isLo (k : Nat) (x : Int) (u v : Value) (cs : Array Value) (w : World) : Prop:=∃ A l c,cs = #[.bool (decide (x < 0)),.slice A l c,u,v] ∧ Zr w (.agg #[.bool (decide (x < 0)),.slice A l c]) k x
def kLo (g k : Nat) (x : Int) (u v : Value) : PK:=.cell g (isLo k x u v) (fun _ _ _ ⟨A,l,c,e,h⟩ hb=>⟨A,l,c,e,h.below hb⟩) (fun _ _ _ _ ⟨A,l,c,e,h⟩ hs=>⟨A,l,c,e,h.stored hs⟩)
section
variable {S0 B : Nat} {ks : List PK} {a0 : Act} {i : Nat} {N : Nat} {W0 : World} {T : TypeId} {pos : String} {af : Array Edge} {gu : Option (Nat × Bool)}
theorem st_loadKF {d t g k : Nat} {z1 z2 : Int} (hl : AtR W0 g 0 k z1) (hl2 : AtR W0 g 2 k z2) (hp : a0.eval (.tmp t) = .pointer (some ⟨g,0,none⟩))   (hi : at_ ks i = kP k z1 z2) (hN : a0.tmps.size = N:=by assumption) (hd : decide (d < N) = true:=by kernel_rfl) :
   PkStep Tryz.prog (fun w=>Reg B W0 [g] w ∧ w.heap[g]? = W0.heap[g]?) S0 ks a0 i { dst:=some d,op:=.load 72 (.tmp t),type:=T,pos:=pos,after:=af,guard:=gu } []:=by
 intro w x hC K hK
 obtain ⟨A,m,c,h1,h2,A1,m1,c1,e1,h3⟩:=il hC hl
 obtain ⟨A',m',c',h4,h5,A2,m2,c2,e2,h6⟩:=il hC hl2
 injection e1 with e1; injection e1 with e1; injection e1 with _ e1; injection e1 with e1 _; injection e1 with a b c; subst a; subst b; subst c
 injection e2 with e2; injection e2 with e2; injection e2 with _ e2; injection e2 with e2 _; injection e2 with a b c; subst a; subst b; subst c
 refine bj (w':=w) rfl hN hd (ex_load hp (run_load4F' h1 h2 h4 h5)) (hK _ _ ?_ ?_)
 · rw [hi]; exact Below.refl _ _
 · rw [hi]; exact ⟨_,_,_,_,_,_,rfl,h3,h6⟩
theorem st_lo {t u e j g k : Nat} {x1 : Int} {a b c d : Value} (h0 : Holds_ W0 g #[a,b,c,d])     (he : at_ ks e = kIs (.pointer (some ⟨g,0,none⟩))) (hj : at_ ks j = kZ k x1) (hi : at_ ks i = kLo g k x1 c d) (hN : a0.tmps.size = N:=by assumption) (ht : decide (t < N) = true:=by kernel_rfl) (hu : decide (u < N) = true:=by kernel_rfl) (htu : decide (t = u) = false:=by kernel_rfl) :
   PkStep Tryz.prog (fun w=>Reg B W0 [g] w ∧ w.heap[g]? = W0.heap[g]?) S0 ks a0 i { dst:=none,op:=.store 24 (.tmp t) (.tmp u),type:=T,pos:=pos,after:=af,guard:=gu } [(e,some t),(j,some u)]:=by
 intro w x hC
 refine aw _ fun hdeps K hK=>?_
 have g0:=hdeps (e,some t) (by simp)
 have g1:=hdeps (j,some u) (by simp)
 rw [he] at g0
 rw [hj] at g1
 have g0' : x e = .pointer (some ⟨g,0,none⟩):=g0
 obtain ⟨A,l,c1,hx,q1⟩:=(show Zr w (x j) k x1 from g1)
 have htu' : t ≠ u:=of_decide_eq_false htu
 have e1 : (putE x a0 [(e,some t),(j,some u)]).eval (.tmp t) = .pointer (some ⟨g,0,none⟩):=(putE_new _ _ (by rw [hN]; exact of_decide_eq_true ht) (by simp [slotAt,Ne.symm htu'])).trans g0'
 have e2 : (putE x a0 [(e,some t),(j,some u)]).eval (.tmp u) = x j:=putE_new _ _ (by rw [hN]; exact of_decide_eq_true hu) (by simp [slotAt])
 have hg:=keep_holds hC.2 h0
 obtain ⟨m1,m2,m3,m4,f1,f2,f3,f4⟩:=hg.four
 obtain ⟨hst,hh⟩:=ga hg (noDig_bool (decide (x1 < 0))) (noDig_slice A l c1)
 refine gp (w':=(w.setCell ⟨g,0,none⟩ (.bool (decide (x1 < 0)))).setCell ⟨g,1,none⟩ (.slice A l c1)) rfl ?_ (hK _ _ ?_ ?_)
 · exact dz e1 (e2.trans hx) (run_storeLo m1 m2 f1 f2)
 · rw [hi]; exact hst
 · rw [hi]; exact ⟨_,hh,A,l,c1,rfl,A,l,c1,rfl,hst.rr q1.1,q1.2⟩
theorem st_hi {t u e j g k : Nat} {x1 x2 : Int} {A1 : Option Addr} {l1 c1 : Nat} {c d : Value} (h0 : Holds_ W0 g #[.bool (decide (x1 < 0)),.slice A1 l1 c1,c,d]) (hz : Zr W0 (.agg #[.bool (decide (x1 < 0)),.slice A1 l1 c1]) k x1)     (he : at_ ks e = kIs (.pointer (some ⟨g,2,none⟩))) (hj : at_ ks j = kZ k x2) (hi : at_ ks i = kRes g k x1 x2) (hN : a0.tmps.size = N:=by assumption) (ht : decide (t < N) = true:=by kernel_rfl) (hu : decide (u < N) = true:=by kernel_rfl) (htu : decide (t = u) = false:=by kernel_rfl) :
   PkStep Tryz.prog (fun w=>Reg B W0 [g] w ∧ w.heap[g]? = W0.heap[g]?) S0 ks a0 i { dst:=none,op:=.store 24 (.tmp t) (.tmp u),type:=T,pos:=pos,after:=af,guard:=gu } [(e,some t),(j,some u)]:=by
 intro w x hC
 refine aw _ fun hdeps K hK=>?_
 have g0:=hdeps (e,some t) (by simp)
 have g1:=hdeps (j,some u) (by simp)
 rw [he] at g0
 rw [hj] at g1
 have g0' : x e = .pointer (some ⟨g,2,none⟩):=g0
 obtain ⟨A,l,c2,hx,q1⟩:=(show Zr w (x j) k x2 from g1)
 have htu' : t ≠ u:=of_decide_eq_false htu
 have e1 : (putE x a0 [(e,some t),(j,some u)]).eval (.tmp t) = .pointer (some ⟨g,2,none⟩):=(putE_new _ _ (by rw [hN]; exact of_decide_eq_true ht) (by simp [slotAt,Ne.symm htu'])).trans g0'
 have e2 : (putE x a0 [(e,some t),(j,some u)]).eval (.tmp u) = x j:=putE_new _ _ (by rw [hN]; exact of_decide_eq_true hu) (by simp [slotAt])
 have hg:=keep_holds hC.2 h0
 obtain ⟨m1,m2,m3,m4,f1,f2,f3,f4⟩:=hg.four
 obtain ⟨hst,hh⟩:=gb hg (noDig_bool (decide (x2 < 0))) (noDig_slice A l c2)
 obtain ⟨A1',l1',c1',ez,hz1⟩:=(hC.1.zr hz).stored hst
 injection ez with ez; injection ez with ez; injection ez with _ ez; injection ez with ez _; injection ez with qa qb qc; subst qa; subst qb; subst qc
 refine gp (w':=(w.setCell ⟨g,2,none⟩ (.bool (decide (x2 < 0)))).setCell ⟨g,3,none⟩ (.slice A l c2)) rfl ?_ (hK _ _ ?_ ?_)
 · exact dz e1 (e2.trans hx) (run_storeHi m3 m4 f3 f4)
 · rw [hi]; exact hst
 · rw [hi]; exact ⟨_,hh,_,_,_,_,_,_,rfl,_,_,_,_,_,_,rfl,hz1,hst.rr q1.1,q1.2⟩
end
theorem Reg.holdsG {B : Nat} {W0 w : World} {G : List Nat} (h : Reg B W0 G w) {g : Nat} (hg : g ∉ G) {cs : Array Value} (hh : Holds_ W0 g cs) : Holds_ w g cs:=by
 have hl:=hh.lt
 obtain ⟨⟨T,e⟩,hn⟩:=hh
 exact ⟨⟨T,(h.old g hl hg).trans e⟩,hn⟩
theorem Pr.tight {W : World} {v : Value} {j k : Nat} {x y : Int} (h : Pr W v j x y) (hx : x.natAbs < 1000000000 ^ k) (hy : y.natAbs < 1000000000 ^ k) : Pr W v k x y:=by
 obtain ⟨A,l,c,A',l',c',e,h1,h2,_⟩:=h
 exact ⟨A,l,c,A',l',c',e,⟨h1.1,hx⟩,h2,hy⟩
theorem AtR.tight {W : World} {g o j k : Nat} {x : Int} (h : AtR W g o j x) (hx : x.natAbs < 1000000000 ^ k) : AtR W g o k x:=by
 obtain ⟨A,l,c,h1,h2,A',l',c',e,h3,_⟩:=h
 exact ⟨A,l,c,h1,h2,A',l',c',e,h3,hx⟩
theorem PRs.lt {W : World} {g : Nat} {l : List (Nat × Int × Int)} (h : PRs W g l) {j : Nat} {q : Nat × Int × Int} (hj : l[j]? = some q) : q.2.1.natAbs < 1000000000 ^ q.1 ∧ q.2.2.natAbs < 1000000000 ^ q.1:=by
 obtain ⟨_,_,_,_,_,_,_,_,_,_,_,_,_,_,_,_,_,h5,_,h7⟩:=h j q hj
 exact ⟨h5.2,h7⟩
section
variable {C : World → Prop} {S0 : Nat} {ks : List PK} {a0 : Act} {i : Nat} {N : Nat} {P : Program} {T : TypeId} {pos : String} {af : Array Edge} {gu : Option (Nat × Bool)} {ats : Array TypeId}
theorem st_callM {d F F2 j1 t1 j2 t2 : Nat} {c1 c2 c : PK}       (h1 : at_ ks j1 = c1) (h2 : at_ ks j2 = c2) (hi : at_ ks i = c)
   (h : ∀ w x v1 v2,C w → c1.sem S0 x v1 w → c2.sem S0 x v2 w → Calls P F #[v1,.func (.func F2) #[] #[],v2] w (Told c S0 x w)) (hN : a0.tmps.size = N:=by assumption) (hd : decide (d < N) = true:=by kernel_rfl) (ht1 : decide (t1 < N) = true:=by kernel_rfl) (ht2 : decide (t2 < N) = true:=by kernel_rfl) (hne : decide (t1 = t2) = false:=by kernel_rfl) (hF : enters P F = true:=by kernel_rfl) :
   PkStep P C S0 ks a0 i { dst:=some d,op:=.call { callee:=.value (.func F),args:=#[.tmp t1,.func F2,.tmp t2],argTypes:=ats },type:=T,pos:=pos,after:=af,guard:=gu } [(j1,some t1),(j2,some t2)] :=
 jo (ss:=[.dep j1,.val (.func (.func F2) #[] #[]),.dep j2]) hN (by simp [esIn]; exact ⟨of_decide_eq_true ht1,of_decide_eq_true ht2⟩) hd hF (by have:=of_decide_eq_false hne; simp [src,slotAt,Ne.symm this]) fun w x hC hdeps=>by
   have g1:=hdeps (j1,some t1) (by simp); have g2:=hdeps (j2,some t2) (by simp); rw [h1] at g1; rw [h2] at g2; rw [hi]; exact h w x (x j1) (x j2) hC g1 g2
end
end Go.Proofs.YtifgcjpgelbelaaGreatDoor
set_option linter.unusedVariables false
set_option linter.unusedSimpArgs false
namespace Go.Proofs.YtifgcjpgelbelaaGreatDoor
open Go.RowKit
theorem trim_o {W : World} {v : Value} {n N : Nat} (h : Rd W v n) (hn : n < 1000000000 ^ N) (hN : N ≤ 4000) :
   Calls Tryz.prog 126 #[v] W fun e w'=>∃ A k c,e = .returned (.slice A k c) ∧ Ro w' W.heap.size (.slice A k c) n ∧ Below W.heap.size W w':=by
 obtain ⟨A,c,xs,rfl,r,d,l,e⟩:=h
 have:=trimRow_any (c:=c) r d (by omega)
 rw [e] at this
 refine this.mono fun _ _ ⟨v,he,hi,hb⟩=>?_
 have hr:=ro_of hi hn hN
 obtain ⟨A,k,c,rfl⟩:=hr.1.shape
 exact ⟨A,k,c,he,hr,hb⟩
theorem numOf_o {w : World} {A : Option Addr} {k c n N : Nat} (b : Bool) (h : Rd w (.slice A k c) n) (hn : n < 1000000000 ^ N) (hN : N ≤ 4000) :
   Calls Tryz.prog 91 #[.agg #[.bool b,.slice A k c]] w (RetNumO w w.heap.size n (sgn n b)):=by
 have htr:=fun (W : World) (hW : Below w.heap.size w W)=>trim_o (h.below hW) hn hN
 have HTR:=Lib.hid htr
 clear htr h hn
 go_enter Tryz.func91,Tryz.ntmps91
 go_wp2_with fail
 obtain ⟨W,hW⟩ : ∃ W,W = (w.alloc (Obj.cells #[Value.bool b,Value.slice A k c] 24)).alloc (Obj.cells #[Value.slice none 0 0,Value.bool false] 91):=⟨_,rfl⟩
 have bW : Below w.heap.size w W:=by rw [hW]; exact bal (bal (Below.refl _ _) _) _
 have hk1 : W.heap[w.heap.size]? = some (Obj.cells #[Value.bool b,Value.slice A k c] 24):=by
   rw [hW]; exact ck ((Below.refl _ _).alloc (Nat.le_refl _) _)
 have hk2 : W.heap[w.heap.size + 1]? = some (Obj.cells #[Value.slice none 0 0,Value.bool false] 91):=by rw [hW]; exact new_at (by simp)
 have hsW : W.heap.size = w.heap.size + 2:=by rw [hW]; simp
 rw [← hW]
 clear hW
 have hlt1 : w.heap.size < W.heap.size:=by omega
 have hlt2 : w.heap.size + 1 < W.heap.size:=by omega
 obtain ⟨q1,q2,q3,q4⟩:=cell_of_two hk1
 have K2:=Lib.hid hk2
 have K1:=Lib.hid hk1
 clear hk1 hk2 hsW
 go_region_with (first
   | (go_at_call 126; refine (HTR.out _ (by first | exact bW.drew | exact bW)).mono ?_; rintro e w1 ⟨A1,k1,c1,rfl,hr0,hb1⟩; have hr1:=Lib.hid (hr0.mono (B':=w.heap.size) (by first | exact bW.drew.size | exact bW.size)); clear hr0; have j1:=(cell_of_two ((hb1.block w.heap.size hlt1).trans K1.out)).1)
   | (go_at_call 102; refine (signed_o b hr1.out).mono ?_; rintro e w2 ⟨A2,k2,c2,rfl,hr2,hz2,hb2⟩; have hs1 : W.heap.size ≤ w1.heap.size:=hb1.size; have k2w:=(hb2.block (w.heap.size + 1) (Nat.lt_of_lt_of_le hlt2 hs1)).trans ((hb1.block (w.heap.size + 1) hlt2).trans K2.out); obtain ⟨m1,m2,m3,m4⟩:=cell_of_two k2w; have K2W:=Lib.hid k2w; have HR2:=Lib.hid hr2; clear k2w hr2))
 all_goals
   obtain ⟨n1,n2,_⟩:=bk (a':=.slice A2 k2 c2) (b':=.bool (sgn n b)) K2W.out (fun d h=>by cases h) (fun d h=>by cases h) HR2.out.1; have n3:=HR2.out.stored (stored_put2 (u:=.slice A2 k2 c2) (v:=.bool (sgn n b)) ⟨⟨_,K2W.out⟩,by simp [noDig]⟩ (noDig_slice _ _ _) (noDig_bool _)); have N3:=Lib.hid n3; have hbA : Below w.heap.size w w1:=bW.drew.trans (hb1.mono (Nat.le_of_lt hlt1)); have hbB : Below w.heap.size w w2:=bstep hbA hb2; clear hb1 hb2 m1 m2 m3 m4 n3
   go_wp2
   refine bodyPost_ret (v:=.agg #[.slice A2 k2 c2,.bool (sgn n b)]) (by simp [results,Tryz.results91,go_sem,n1,n2]) rfl ?_; refine ⟨A2,k2,c2,rfl,N3.out,hz2,(hbB.setCell (Nat.le_succ _) _).setCell (Nat.le_succ _) _⟩
theorem numOfInt_o {w : World} (n : Int) (a : Nat) (h1 : -9223372036854775808 ≤ n) (h2 : n ≤ 9223372036854775807) (ha : a = n.natAbs) (hn : ¬ n < 0) :
   Calls Tryz.prog 40 #[.int .i64 n] w (RetIntO w w.heap.size a (decide (n < 0))):=by
 obtain ⟨d0,hd0⟩ : ∃ d,d = a % 1000000000:=⟨_,rfl⟩
 obtain ⟨d1,hd1⟩ : ∃ d,d = a / 1000000000 % 1000000000:=⟨_,rfl⟩
 obtain ⟨d2,hd2⟩ : ∃ d,d = a / 1000000000 / 1000000000:=⟨_,rfl⟩
 have hv:=split3 a
 rw [← hd0,← hd1,← hd2] at hv
 have b0 : d0 < 1000000000:=by omega
 have b1 : d1 < 1000000000:=by omega
 have b2 : d2 < 1000000000:=by omega
 have e0 : (a : Int) % 1000000000 = (d0 : Int):=by omega
 have e1 : (a : Int) / 1000000000 % 1000000000 = (d1 : Int):=by omega
 have e2 : (a : Int) / 1000000000 / 1000000000 = (d2 : Int):=by omega
 have ba : a < 18446744073709551616:=by omega
 have hsg : sgn a (decide (n < 0)) = decide (n < 0):=by
   unfold sgn; rw [decide_eq_false hn]; rfl
 have hsm : small 4294967296 [d0,d1,d2]:=by
   intro d hd; rcases List.mem_cons.1 hd with rfl | hd
   · omega
   rcases List.mem_cons.1 hd with rfl | hd
   · omega
   · rw [List.mem_singleton.1 hd]; omega
 have hof:=fun (W : World) (b : Bool)=>numOf_o (w:=W.alloc (.cells #[.int .u32 (d0 : Int),.int .u32 (d1 : Int),.int .u32 (d2 : Int)] 88)) (k:=3) (c:=3) (n:=a) (N:=3) (A:=some ⟨W.heap.size,0,none⟩) b ⟨_,3,[d0,d1,d2],rfl,row_lit W 88 #[.int .u32 (d0 : Int),.int .u32 (d1 : Int),.int .u32 (d2 : Int)] [d0,d1,d2] rfl,hsm,by simp,hv⟩ (by
   have : (1000000000 : Nat) ^ 3 = 1000000000000000000000000000:=by decide
   omega) (by omega)
 have HOF:=Lib.hid hof
 have HSG:=Lib.hid hsg
 obtain ⟨W0,hW0⟩ : ∃ W0,W0 = w.alloc (Obj.cells #[Value.bool false,Value.slice none 0 0] 24):=⟨_,rfl⟩
 have bW0 : Below w.heap.size w W0:=by rw [hW0]; exact bal (Below.refl _ _) _
 have K0 : Hid (W0.heap[w.heap.size]? = some (Obj.cells #[Value.bool false,Value.slice none 0 0] 24)):=by show _ = _; rw [hW0]; exact heap_alloc_new _ _
 have hs0 : w.heap.size < W0.heap.size:=lt_block K0.out
 have HW0:=Lib.hid hW0
 have HZ0 : Hid (W0.heap.size = w.heap.size + 1):=by show _ = _; rw [hW0,World.size_alloc]
 have hfin : ∀ (w3 : World) (A3 : Option Addr) (k3 c3 : Nat),Below W0.heap.size W0 w3 → Ro w3 w.heap.size (.slice A3 k3 c3) a → (∀ b' : Bool,((w3.setCell ⟨w.heap.size,0,none⟩ (.bool b')).setCell ⟨w.heap.size,1,none⟩ (.slice A3 k3 c3)).cell? ⟨w.heap.size,0,none⟩ = some (.bool b') ∧ ((w3.setCell ⟨w.heap.size,0,none⟩ (.bool b')).setCell ⟨w.heap.size,1,none⟩ (.slice A3 k3 c3)).cell? ⟨w.heap.size,1,none⟩ = some (.slice A3 k3 c3) ∧ Ro ((w3.setCell ⟨w.heap.size,0,none⟩ (.bool b')).setCell ⟨w.heap.size,1,none⟩ (.slice A3 k3 c3)) w.heap.size (.slice A3 k3 c3) a) ∧ (w3.cell? ⟨w.heap.size,0,none⟩ = some (.bool false) ∧ w3.cell? ⟨w.heap.size,1,none⟩ = some (.slice none 0 0) ∧ w3.frozen? ⟨w.heap.size,0,none⟩ = false ∧ w3.frozen? ⟨w.heap.size,1,none⟩ = false):=fun w3 A3 k3 c3 hb hr=>by
   have k3':=(hb.block w.heap.size hs0).trans K0.out; refine ⟨fun b'=>?_,cell_of_two k3'⟩; obtain ⟨n1,n2,_⟩:=bk (a':=.bool b') (b':=.slice A3 k3 c3) k3' (fun d h=>by cases h) (fun d h=>by cases h) hr.1; exact ⟨n1,n2,hr.stored (stored_put2 ⟨⟨_,k3'⟩,by simp [noDig]⟩ (noDig_bool _) (noDig_slice _ _ _))⟩
 have HFIN:=Lib.hid hfin
 clear hof hsg hv hd0 hd1 hd2 hsm hW0 hfin
 have g1 : IntKind.u64.wrap n = (a : Int):=by rw [IntKind.wrap_u64]; omega
 have hnd : decide (n < 0) = false:=decide_eq_false hn
 rw [hnd] at HSG ⊢
 clear ha hn h1 h2
 go_enter Tryz.func40,Tryz.ntmps40
 go_wp2_with fail
 rw [← HW0.out]
 go_wp2_with fail
 have hof1:=HOF.out W0 false
 rw [HZ0.out,HSG.out] at hof1
 refine hof1.mono ?_
 rintro e w3 ⟨A3,k3,c3,rfl,hr3,hz3,hb3⟩
 have hb30 : Below W0.heap.size W0 w3:=below_first hb3
 have htd:=told_o (w:=w3) (hr3.mono (B':=w.heap.size) (by rw [World.size_alloc]; omega)) hz3
 have HTD:=Lib.hid htd
 clear hof1 htd hb3 hr3
 go_wp2_with fail
 refine HTD.out.mono ?_
 rintro e w4 ⟨A4,k4,c4,rfl,hr4,hz4,hb4⟩
 have hb40:=bstep hb30 hb4
 obtain ⟨hst,m1,m2,m3,m4⟩:=HFIN.out w4 A4 k4 c4 hb40 hr4
 obtain ⟨n1,n2,n3⟩:=hst false
 have hbw:=bstep bW0 hb40
 have N3:=Lib.hid n3
 clear hb30 hb4 hb40 hst HTD n3 hr4
 go_wp2
 refine bodyPost_ret (v:=.agg #[.bool false,.slice A4 k4 c4]) (by simp [results,Tryz.results40,go_sem,n1,n2]) rfl ?_
 exact ⟨A4,k4,c4,rfl,N3.out,fun _=>rfl,(hbw.setCell (Nat.le_refl _) _).setCell (Nat.le_refl _) _⟩
def kOne (B : Nat) : PK:=.p (fun v w=>∃ A l c,v = .agg #[.bool false,.slice A l c] ∧ Ro w B (.slice A l c) 1) (fun _ _ _ ⟨A,l,c,e,h⟩ hb=>⟨A,l,c,e,h.below hb⟩) (fun _ _ _ _ ⟨A,l,c,e,h⟩ hs=>⟨A,l,c,e,h.stored hs⟩)
def isW (B : Nat) (b1 : Bool) (A1 : Option Addr) (l1 c1 : Nat) (v : Value) (w : World) : Prop:=∃ A l c,v = .agg #[.bool b1,.slice A1 l1 c1,.bool false,.slice A l c] ∧ Ro w B (.slice A l c) 1
def kW (B : Nat) (b1 : Bool) (A1 : Option Addr) (l1 c1 : Nat) : PK:=.p (isW B b1 A1 l1 c1) (fun _ _ _ ⟨A,l,c,e,h⟩ hb=>⟨A,l,c,e,h.below hb⟩) (fun _ _ _ _ ⟨A,l,c,e,h⟩ hs=>⟨A,l,c,e,h.stored hs⟩)
def kResW (B g : Nat) (b1 : Bool) (A1 : Option Addr) (l1 c1 : Nat) : PK:=.cell g (fun cs w=>isW B b1 A1 l1 c1 (.agg cs) w) (fun _ _ _ ⟨A,l,c,e,h⟩ hb=>⟨A,l,c,e,h.below hb⟩) (fun _ _ _ _ ⟨A,l,c,e,h⟩ hs=>⟨A,l,c,e,h.stored hs⟩)
theorem t_one {w : World} {S0 B : Nat} {x : Nat → Value} (hB : B ≤ w.heap.size) : Calls Tryz.prog 40 #[.int .i64 1] w (Told (kOne B) S0 x w) :=
 (numOfInt_o 1 1 (by decide) (by decide) rfl (by decide)).mono fun _ _ ⟨A,l,c,e,h,_,hb⟩=>⟨_,e,hb,A,l,c,rfl,h.mono hB⟩
section
variable {G : List Nat} {S0 B : Nat} {ks : List PK} {a0 : Act} {i : Nat} {N : Nat} {W0 : World} {T : TypeId} {pos : String} {af : Array Edge} {gu : Option (Nat × Bool)} {b1 : Bool} {A1 : Option Addr} {l1 c1 : Nat}
theorem st_loadIX {d t g : Nat} (hl : Holds_ W0 g #[.bool b1,.slice A1 l1 c1])  (hp : a0.eval (.tmp t) = .pointer (some ⟨g,0,none⟩))   (hi : at_ ks i = kIs (.agg #[.bool b1,.slice A1 l1 c1])) (hG : g ∉ G:=by simp only [List.mem_singleton]; omega) (hN : a0.tmps.size = N:=by assumption) (hd : decide (d < N) = true:=by kernel_rfl) :
   PkStep Tryz.prog (Reg B W0 G) S0 ks a0 i { dst:=some d,op:=.load 24 (.tmp t),type:=T,pos:=pos,after:=af,guard:=gu } []:=by
 intro w x hC K hK
 obtain ⟨⟨T',h1⟩,_⟩:=hC.holdsG hG hl
 obtain ⟨m1,m2,_,_⟩:=cell_of_two h1
 refine bj (v:=.agg #[.bool b1,.slice A1 l1 c1]) (w':=w) rfl hN hd ?_ (hK _ _ ?_ ?_)
 · exact ex_load hp (run_load m1 m2)
 · rw [hi]; exact Below.refl _ _
 · rw [hi]; rfl
theorem st_buildW {C : World → Prop} {d j1 t1 j2 t2 B' : Nat}      (h1 : at_ ks j1 = kIs (.agg #[.bool b1,.slice A1 l1 c1])) (h2 : at_ ks j2 = kOne B') (hi : at_ ks i = kW B' b1 A1 l1 c1) (hN : a0.tmps.size = N:=by assumption) (hd : decide (d < N) = true:=by kernel_rfl) (ht1 : decide (t1 < N) = true:=by kernel_rfl) (ht2 : decide (t2 < N) = true:=by kernel_rfl) (hne : decide (t1 = t2) = false:=by kernel_rfl) :
   PkStep Tryz.prog C S0 ks a0 i { dst:=some d,op:=.build 26 #[(0,.tmp t1),(1,.tmp t2)],type:=T,pos:=pos,after:=af,guard:=gu } [(j1,some t1),(j2,some t2)]:=by
 intro w x hC
 refine aw _ fun hdeps K hK=>?_
 have g1:=hdeps (j1,some t1) (by simp)
 have g2:=hdeps (j2,some t2) (by simp)
 rw [h1] at g1
 rw [h2] at g2
 have hne' : t1 ≠ t2:=of_decide_eq_false hne
 have e1 : (putE x a0 [(j1,some t1),(j2,some t2)]).eval (.tmp t1) = x j1:=putE_new _ _ (by rw [hN]; exact of_decide_eq_true ht1) (by simp [slotAt,Ne.symm hne'])
 have e2 : (putE x a0 [(j1,some t1),(j2,some t2)]).eval (.tmp t2) = x j2:=putE_new _ _ (by rw [hN]; exact of_decide_eq_true ht2) (by simp [slotAt])
 have hx : x j1 = .agg #[.bool b1,.slice A1 l1 c1]:=g1
 obtain ⟨A',l',c',hy,q⟩:=(show ∃ A l c,x j2 = .agg #[.bool false,.slice A l c] ∧ Ro w B' (.slice A l c) 1 from g2)
 refine bj (w':=w) rfl (by rw [ax,hN]) hd (ex_build2 (e1.trans hx) (e2.trans hy) run_buildP) (hK _ _ ?_ ?_)
 · rw [hi]; exact Below.refl _ _
 · rw [hi]; exact ⟨A',l',c',rfl,q⟩
theorem st_buildFW {C : World → Prop} {d j t B' : Nat}    (hj : at_ ks j = kW B' b1 A1 l1 c1) (hi : at_ ks i = kW B' b1 A1 l1 c1) (hN : a0.tmps.size = N:=by assumption) (hd : decide (d < N) = true:=by kernel_rfl) (ht : decide (t < N) = true:=by kernel_rfl) :
   PkStep Tryz.prog C S0 ks a0 i { dst:=some d,op:=.build 72 #[(0,.tmp t)],type:=T,pos:=pos,after:=af,guard:=gu } [(j,some t)]:=by
 intro w x hC
 refine aw _ fun hdeps K hK=>?_
 have g1:=hdeps (j,some t) (by simp)
 rw [hj] at g1
 have e1 : (putE x a0 [(j,some t)]).eval (.tmp t) = x j:=putE_new _ _ (by rw [hN]; exact of_decide_eq_true ht) (by simp [slotAt])
 obtain ⟨A',l',c',hx,q⟩:=(show isW B' b1 A1 l1 c1 (x j) w from g1)
 refine bj (w':=w) rfl (by rw [ax,hN]) hd (ex_build1 (e1.trans hx) run_buildF) (hK _ _ ?_ ?_)
 · rw [hi]; exact Below.refl _ _
 · rw [hi]; exact ⟨A',l',c',rfl,q⟩
theorem st_resFW {t u j g B' : Nat} {cs0 : Array Value} (h0 : Holds_ W0 g cs0) (hs0 : cs0.size = 4)  (hp : a0.eval (.tmp t) = .pointer (some ⟨g,0,none⟩))    (hj : at_ ks j = kW B' b1 A1 l1 c1) (hi : at_ ks i = kResW B' g b1 A1 l1 c1) (hG : g ∈ G:=by simp) (hN : a0.tmps.size = N:=by assumption) (hu : decide (u < N) = true:=by kernel_rfl) (htu : decide (t = u) = false:=by kernel_rfl) :
   PkStep Tryz.prog (Reg B W0 G) S0 ks a0 i { dst:=none,op:=.store 72 (.tmp t) (.tmp u),type:=T,pos:=pos,after:=af,guard:=gu } [(j,some u)]:=by
 intro w x hC
 refine aw _ fun hdeps K hK=>?_
 have g1:=hdeps (j,some u) (by simp)
 rw [hj] at g1
 obtain ⟨A',l',c',hx,q⟩:=(show isW B' b1 A1 l1 c1 (x j) w from g1)
 have htu' : t ≠ u:=of_decide_eq_false htu
 have e1 : (putE x a0 [(j,some u)]).eval (.tmp t) = .pointer (some ⟨g,0,none⟩):=(putE_old _ _ (by simp [slotAt,Ne.symm htu'])).trans hp
 have e2 : (putE x a0 [(j,some u)]).eval (.tmp u) = x j:=putE_new _ _ (by rw [hN]; exact of_decide_eq_true hu) (by simp [slotAt])
 obtain ⟨a,b,c0,d0,hg⟩:=hC.four hG h0 hs0
 obtain ⟨m1,m2,m3,m4,f1,f2,f3,f4⟩:=hg.four
 have hst:=bu hg (noDig_bool b1) (noDig_slice A1 l1 c1) (noDig_bool false) (noDig_slice A' l' c')
 refine gp (w':=put4 w g (.bool b1) (.slice A1 l1 c1) (.bool false) (.slice A' l' c')) rfl ?_ (hK _ _ ?_ ?_)
 · exact dz e1 (e2.trans hx) (run_storeF m1 m2 m3 m4 f1 f2 f3 f4)
 · rw [hi]; exact hst
 · rw [hi]; exact ⟨_,cd hg (noDig_bool _) (noDig_slice _ _ _) (noDig_bool _) (noDig_slice _ _ _),A',l',c',rfl,q.stored hst⟩
end
theorem ret_cellFW {fn : Func} {R : Ending → World → Prop} {a : Act} {w : World} {t g B : Nat} {b1 : Bool} {A1 : Option Addr} {l1 c1 : Nat} {cs : Array Value} (hres : fn.results = #[.cell t 72 ]) (hd : a.defers = []) (hp : a.eval (.tmp t) = .pointer (some ⟨g,0,none⟩)) (hg : Holds_ w g cs) (hP : isW B b1 A1 l1 c1 (.agg cs) w) (hR : ∀ v,isW B b1 A1 l1 c1 v w → R (.returned v) w) : bodyPost Tryz.prog fn R .ret a w:=by
 obtain ⟨A',l',c',e,h⟩:=hP
 injection e with e
 subst e
 obtain ⟨m1,m2,m3,m4,_,_,_,_⟩:=hg.four
 refine bodyPost_ret (v:=.agg #[.bool b1,.slice A1 l1 c1,.bool false,.slice A' l' c']) ?_ hd (hR _ ⟨A',l',c',rfl,h⟩)
 have hp' : a.tmps[t]?.getD undef = .pointer (some ⟨g,0,none⟩):=by
   rw [← Array.getD_eq_getD_getElem?]; exact hp
 simp [results,hres,go_sem,hp',m1,m2,m3,m4]
theorem whole_x {w : World} {b1 : Bool} {A1 : Option Addr} {l1 c1 : Nat} :
   Calls Tryz.prog 82 #[.agg #[.bool b1,.slice A1 l1 c1]] w (fun e w'=>∃ v,e = .returned v ∧ isW w.heap.size b1 A1 l1 c1 v w' ∧ Below w.heap.size w w'):=by
 go_enter Tryz.func82,Tryz.ntmps82
 repeat apply wp_seq
 refine ls fun K HK=>?_
 go_wp2
 refine HK.out _ _ (then_n ?_)
 refine lq (G:=fun W=>Code.wp _ _ _ _ W) ?_
 intro W_0 bb_0 K0 K1
 have f1_0 : Holds_ W_0 w.heap.size #[Value.bool b1,Value.slice A1 l1 c1]:=⟨⟨_,K0⟩,by simp [noDig]⟩
 have R_0:=kg K1
 clear K0 K1
 refine lm (G:=fun a=>Code.wp _ _ _ a _) 7 ?_
 intro a_0 ha hN_0 hD_0
 have e1_0:=lj ha 1 w.heap.size
 have e2_0:=lj ha 2 (w.heap.size + 1)
 repeat first | apply lk | apply ll
 refine lu bb_0 R_0 [kIs (.agg #[.bool b1,.slice A1 l1 c1]),kOne w.heap.size,kW w.heap.size b1 A1 l1 c1,kW w.heap.size b1 A1 l1 c1,kResW w.heap.size (w.heap.size + 1) b1 A1 l1 c1] [[],[],[0,1],[2],[3]] [3,4,5,6,999] [] [] ?_ ?_
 ·
   refine aa rfl rfl (st_loadIX f1_0 e1_0 rfl) ?_; refine aa rfl rfl (be [.int .i64 (1)] rfl rfl fun hC=>t_one (Nat.le_trans bb_0.size hC.below.size)) ?_; refine aa rfl rfl (st_buildW rfl rfl rfl) ?_; refine aa rfl rfl (st_buildFW rfl rfl) ?_; refine aa rfl rfl (st_resFW R_0 rfl e2_0 rfl rfl) ?_; exact ag rfl
 intro W x a1 hC hall ha hN1 hD1 bb1
 obtain ⟨cs,hg,hP⟩:=lr hall 4
 have e1:=ab (t:=2) ha e2_0
 repeat first | apply lk | apply ll
 refine wp_ret ?_
 repeat (refine then_r ?_)
 exact ret_cellFW (t:=2) rfl hD1 e1 hg hP fun v hv=>⟨v,rfl,hv,bb1⟩
theorem ro_nil (W : World) (B : Nat) : Ro W B (.slice none 0 0) 0 :=
 ro_of (N:=1) ⟨[],iy,rfl,Own.nil _ _ _⟩ (by decide) (by decide)
theorem isW.none {B : Nat} {v : Value} {w : World} (h : isW B false none 0 0 v w) : PrO w B v 1 0 1:=by
 obtain ⟨A,l,c,rfl,h⟩:=h
 exact ⟨_,_,_,A,l,c,rfl,⟨ro_nil w B,by decide⟩,h,by decide⟩
theorem t_none {w : World} {S0 B : Nat} {x : Nat → Value} {v : Value} (hB : B ≤ w.heap.size) (h : (kIs (.agg #[.bool false,.slice none 0 0])).sem S0 x v w) : Calls Tryz.prog 82 #[v] w (Told (kPO B 1 0 1) S0 x w):=by
 obtain rfl : v = .agg #[.bool false,.slice none 0 0]:=h
 exact whole_x.mono fun _ _ ⟨v,e,h,hb⟩=>⟨v,e,hb,h.none.mono hB⟩
theorem none_o {w : World} : Calls Tryz.prog 64 #[] w (TellsPO w 1 0 1):=by
 go_enter Tryz.func64,Tryz.ntmps64
 repeat apply wp_seq
 refine ls fun K HK=>?_
 go_wp2
 refine HK.out _ _ (then_n ?_)
 refine lp (G:=fun W=>Code.wp _ _ _ _ W) ?_
 intro W_0 bb_0 K0
 have R_0:=kg K0
 clear K0
 refine lm (G:=fun a=>Code.wp _ _ _ a _) 3 ?_
 intro a_0 ha hN_0 hD_0
 have e0_0:=lj ha 0 w.heap.size
 repeat first | apply lk | apply ll
 refine lu bb_0 R_0 [kIs (.agg #[.bool false,.slice none 0 0]),kPO w.heap.size 1 0 1,kResO w.heap.size (w.heap.size) 1 0 1] [[],[0],[1]] [1,2,999] [] [] ?_ ?_
 ·
   refine p00 ?_; refine aa rfl rfl (ae rfl rfl fun hC h1=>t_none (Nat.le_trans bb_0.size hC.below.size) h1) ?_; refine aa rfl rfl (gk R_0 rfl e0_0 rfl rfl) ?_; exact ag rfl
 intro W x a1 hC hall ha hN1 hD1 bb1
 obtain ⟨cs,hg,hP⟩:=lr hall 2
 have e1:=ab (t:=0) ha e0_0
 repeat first | apply lk | apply ll
 refine wp_ret ?_
 repeat (refine then_r ?_)
 exact gc (t:=0) rfl hD1 e1 hg hP fun v hv=>⟨v,rfl,hv,bb1⟩
theorem t_whole {w : World} {S0 B : Nat} {x : Nat → Value} {v : Value} (hB : B ≤ w.heap.size) (h : (kOne B).sem S0 x v w) : Calls Tryz.prog 82 #[v] w (Told (kPO B 1 1 1) S0 x w):=by
 obtain ⟨A,l,c,rfl,h⟩:=h
 exact whole_x.mono fun _ _ ⟨v,e,⟨A',l',c',ev,h'⟩,hb⟩=>⟨v,e,hb,A,l,c,A',l',c',ev,⟨h.below hb,by decide⟩,h'.mono hB,by decide⟩
theorem Reg.at0 {B : Nat} {W0 w : World} (h : Reg B W0 [] w) {g o k : Nat} {z : Int} (hl : AtR W0 g o k z) : AtR w g o k z:=h.atR (by simp) hl
theorem pm {S0 : Nat} {x : Nat → Value} {v : Value} {w : World} {j k : Nat} {z1 z2 : Int}  (h : (kP j z1 z2).sem S0 x v w) (hk : j ≤ k:=by decide) : Pr w v k z1 z2:=Pr.mono h hk
theorem den_ne (a : Rat) : (a.den : Int) ≠ 0:=Int.ne_of_gt (den_pos a)
theorem den_sign (a : Rat) : decide ((a.den : Int) < 0) = false:=decide_eq_false (by have:=den_pos a; omega)
theorem gcd_one (a : Rat) : ((zgcd [(a.num),((a.den : Int))] : Nat) : Int) = 1:=by
 have h:=a.reduced
 unfold Nat.Coprime at h
 rw [kp,Int.gcd,Int.natAbs_natCast,Nat.gcd_comm,h]; rfl
theorem isNone_z {w : World} {v : Value} {k : Nat} {z : Int} (h : Zr w v k z) (hz : z ≠ 0) : Calls Tryz.prog 63 #[v] w fun e w'=>e = .returned (.bool false) ∧ Below w.heap.size w w':=by
 obtain ⟨A,l,c,rfl,h1,_⟩:=h
 have hk:=(rr_len h1).1
 have hl : ((l : Int) == 0) = false:=by
   rw [beq_eq_false_iff_ne]; intro e; have:=hk.1 (by omega); omega
 obtain ⟨s,hs⟩ : ∃ s,s = decide (z < 0):=⟨_,rfl⟩
 rw [← hs]
 clear hs hk h1 hz
 go_enter Tryz.func63,Tryz.ntmps63
 go_wp2
 go_ret
 exact ⟨rfl,bal (Below.refl _ _) _⟩
section
variable {G : List Nat} {S0 B : Nat} {ks : List PK} {a0 : Act} {i : Nat} {N : Nat} {W0 : World} {T : TypeId} {pos : String} {af : Array Edge} {gu : Option (Nat × Bool)}
theorem run_loadS {w : World} {g o : Nat} {s : Bool} (h0 : w.cell? ⟨g,o,none⟩ = some (.bool s)) : (Instr.loadAt 4 (.pointer (some ⟨g,o,none⟩))).run Tryz.prog w = .ok (.bool s) w:=by go_simp
theorem run_load4P {w : World} {g : Nat} {u v u' v' : Value} (h0 : w.cell? ⟨g,0,none⟩ = some u) (h1 : w.cell? ⟨g,1,none⟩ = some v) (h2 : w.cell? ⟨g,2,none⟩ = some u') (h3 : w.cell? ⟨g,3,none⟩ = some v') : (Instr.loadAt 26 (.pointer (some ⟨g,0,none⟩))).run Tryz.prog w = .ok (.agg #[u,v,u',v']) w:=by go_simp
theorem run_load4F {w : World} {g : Nat} {u v u' v' : Value} (h0 : w.cell? ⟨g,0,none⟩ = some u) (h1 : w.cell? ⟨g,1,none⟩ = some v) (h2 : w.cell? ⟨g,2,none⟩ = some u') (h3 : w.cell? ⟨g,3,none⟩ = some v') : (Instr.loadAt 72 (.pointer (some ⟨g,0,none⟩))).run Tryz.prog w = .ok (.agg #[u,v,u',v']) w:=by go_simp
theorem st_loadS {d t j g o k : Nat} {z : Int} {s : Bool} (hl : AtR W0 g o k z) (hs : decide (z < 0) = s)     (hj : at_ ks j = kIs (.pointer (some ⟨g,o,none⟩))) (hi : at_ ks i = kIs (.bool s)) (hG : g ∉ G:=by simp) (hN : a0.tmps.size = N:=by assumption) (hd : decide (d < N) = true:=by kernel_rfl) (ht : decide (t < N) = true:=by kernel_rfl) :
   PkStep Tryz.prog (Reg B W0 G) S0 ks a0 i { dst:=some d,op:=.load 4 (.tmp t),type:=T,pos:=pos,after:=af,guard:=gu } [(j,some t)]:=by
 intro w x hC
 refine aw _ fun hdeps K hK=>?_
 have g1:=hdeps (j,some t) (by simp)
 rw [hj] at g1
 have g2 : x j = .pointer (some ⟨g,o,none⟩):=g1
 have e1 : (putE x a0 [(j,some t)]).eval (.tmp t) = x j:=putE_new _ _ (by rw [hN]; exact of_decide_eq_true ht) (by simp [slotAt])
 obtain ⟨A,m,c,h1,_,_⟩:=hC.atR hG hl
 rw [hs] at h1
 refine bj (v:=.bool s) (w':=w) rfl (by rw [ax,hN]) hd (ex_load (e1.trans g2) (run_loadS h1)) (hK _ _ ?_ ?_)
 · rw [hi]; exact Below.refl _ _
 · rw [hi]; rfl
theorem aq {ops9 : Array Oper} {es9 : List (List (Nat × Option Tmp))} {sk9 : List Nat} {d t j g o k : Nat} {z : Int} {s : Bool} (hl : AtR W0 g o k z) (hs : decide (z < 0) = s) (hh9 : PkFrom Tryz.prog ops9 es9 sk9 (Reg B W0 G) S0 ks a0 (i + 1)) (ho9 : ops9[i]? = some { dst:=some d,op:=.load 4 (.tmp t),type:=T,pos:=pos,after:=af,guard:=gu }:=by exact rfl) (he9 : es9.getD i [] = [(j,some t)]:=by exact rfl) (hj : at_ ks j = kIs (.pointer (some ⟨g,o,none⟩)):=by exact rfl) (hi : at_ ks i = kIs (.bool s):=by exact rfl) (hG : g ∉ G:=by simp) (hN : a0.tmps.size = N:=by assumption) (hd : decide (d < N) = true:=by kernel_rfl) (ht : decide (t < N) = true:=by kernel_rfl) : PkFrom Tryz.prog ops9 es9 sk9 (Reg B W0 G) S0 ks a0 i :=
 aa ho9 he9 (st_loadS (hl:=hl) (hs:=hs) (hj:=hj) (hi:=hi) (hG:=hG) (hN:=hN) (hd:=hd) (ht:=ht)) hh9
theorem cf {d t g k : Nat} {z1 z2 : Int} (hl : AtR W0 g 0 k z1) (hl2 : AtR W0 g 2 k z2)  (hp : a0.eval (.tmp t) = .pointer (some ⟨g,0,none⟩))   (hi : at_ ks i = kP k z1 z2) (hG : g ∉ G:=by simp) (hN : a0.tmps.size = N:=by assumption) (hd : decide (d < N) = true:=by kernel_rfl) :
   PkStep Tryz.prog (Reg B W0 G) S0 ks a0 i { dst:=some d,op:=.load 26 (.tmp t),type:=T,pos:=pos,after:=af,guard:=gu } []:=by
 intro w x hC K hK
 obtain ⟨A,m,c,h1,h2,A1,m1,c1,e1,h3⟩:=hC.atR hG hl
 obtain ⟨A',m',c',h4,h5,A2,m2,c2,e2,h6⟩:=hC.atR hG hl2
 injection e1 with e1; injection e1 with e1; injection e1 with _ e1; injection e1 with e1 _; injection e1 with a b c; subst a; subst b; subst c
 injection e2 with e2; injection e2 with e2; injection e2 with _ e2; injection e2 with e2 _; injection e2 with a b c; subst a; subst b; subst c
 refine bj (w':=w) rfl hN hd (ex_load hp (run_load4P h1 h2 h4 h5)) (hK _ _ ?_ ?_)
 · rw [hi]; exact Below.refl _ _
 · rw [hi]; exact ⟨_,_,_,_,_,_,rfl,h3,h6⟩
end
theorem isOne_z1 {w : World} {v1 : Value} {z : Int} (hz : z = 1) (h1 : Zr w v1 159 (z)) :
   Calls Tryz.prog 78 #[v1] w (fun e w'=>e = .returned (.bool true) ∧ Below w.heap.size w w'):=by
 obtain ⟨y1,z1,rfl,H1⟩:=h1.op
 go_enter Tryz.func78,Tryz.ntmps78
 repeat apply wp_seq
 refine ls fun K HK=>?_
 go_wp2
 refine HK.out _ _ (then_n ?_)
 refine lp (G:=fun W=>Code.wp _ _ _ _ W) ?_
 intro W_0 bb_0 K0
 have f1_0:=H1.out _ _ _ bb_0 K0
 clear K0
 refine lm (G:=fun a=>Code.wp _ _ _ a _) 7 ?_
 intro a_0 ha hN_0 hD_0
 have e1_0:=lj ha 1 w.heap.size
 repeat first | apply lk | apply ll
 refine ld bb_0 [kZ 159 (z),kZ 1 ((1 : Int)),kIs (.int .i64 (0)),lg,lg] [[],[],[0,1],[2],[3]] [3,4,5,6,2] [] [] ?_ ?_
 ·
   refine ai f1_0 e1_0 ?_; refine aa rfl rfl (be [.int .i64 (1)] rfl rfl fun hC=>tz (z_of (1) 1 (by decide) (by decide) (by decide))) ?_; refine aa rfl rfl (ap rfl rfl rfl fun hC h1 h2=>ti (cmp_is (ord_eq hz) (z_cmp (rz h1) (rz h2) (by decide) (by decide)))) ?_; refine p10 ?_; refine p10 ?_; exact ag rfl
 intro W x a1 hC hall ha hN1 hD1 bb1
 have e1:=le ha hall 2 4
 repeat first | apply lk | apply ll
 refine wp_ret ?_
 repeat (refine then_r ?_)
 exact bi (t:=2) rfl hD1 e1 ⟨rfl,bb1⟩
theorem isOne_z0 {w : World} {v1 : Value} {z : Int} (hz : 1 < z) (h1 : Zr w v1 159 (z)) :
   Calls Tryz.prog 78 #[v1] w (fun e w'=>e = .returned (.bool false) ∧ Below w.heap.size w w'):=by
 obtain ⟨y1,z1,rfl,H1⟩:=h1.op
 go_enter Tryz.func78,Tryz.ntmps78
 repeat apply wp_seq
 refine ls fun K HK=>?_
 go_wp2
 refine HK.out _ _ (then_n ?_)
 refine lp (G:=fun W=>Code.wp _ _ _ _ W) ?_
 intro W_0 bb_0 K0
 have f1_0:=H1.out _ _ _ bb_0 K0
 clear K0
 refine lm (G:=fun a=>Code.wp _ _ _ a _) 7 ?_
 intro a_0 ha hN_0 hD_0
 have e1_0:=lj ha 1 w.heap.size
 repeat first | apply lk | apply ll
 refine ld bb_0 [kZ 159 (z),kZ 1 ((1 : Int)),kIs (.int .i64 (1)),lh,lh] [[],[],[0,1],[2],[3]] [3,4,5,6,2] [] [] ?_ ?_
 ·
   refine ai f1_0 e1_0 ?_; refine aa rfl rfl (be [.int .i64 (1)] rfl rfl fun hC=>tz (z_of (1) 1 (by decide) (by decide) (by decide))) ?_; refine aa rfl rfl (ap rfl rfl rfl fun hC h1 h2=>ti (cmp_is (ord_gt hz) (z_cmp (rz h1) (rz h2) (by decide) (by decide)))) ?_; refine p10 ?_; refine p10 ?_; exact ag rfl
 intro W x a1 hC hall ha hN1 hD1 bb1
 have e1:=le ha hall 2 4
 repeat first | apply lk | apply ll
 refine wp_ret ?_
 repeat (refine then_r ?_)
 exact bi (t:=2) rfl hD1 e1 ⟨rfl,bb1⟩
theorem right_9 {w : World} {v1 : Value} {a : Rat} (h1 : Pr w v1 9 (a.num) ((a.den : Int))) :
   Calls Tryz.prog 19 #[v1] w (fun e w'=>e = .returned (.bool true) ∧ Below w.heap.size w w'):=by
 obtain ⟨y1,z1,y1',z1',rfl,H1⟩:=h1.op
 go_enter Tryz.func19,Tryz.ntmps19
 repeat apply wp_seq
 refine ls fun K HK=>?_
 go_wp2
 refine HK.out _ _ (then_n ?_)
 refine lp (G:=fun W=>Code.wp _ _ _ _ W) ?_
 intro W_0 bb_0 K0
 obtain ⟨f1_0,f1'_0⟩:=H1.out _ _ _ bb_0 K0
 clear K0
 refine lm (G:=fun a=>Code.wp _ _ _ a _) 32 ?_
 intro a_0 ha hN_0 hD_0
 have e1_0:=lj ha 1 w.heap.size
 repeat first | apply lk | apply ll
 refine ld bb_0 [lf w.heap.size 0,kZ 9 (a.num),lg,lh,lh,lf w.heap.size 2,kZ 9 ((a.den : Int)),lg,lh,lh] [[],[0],[1],[2],[3],[],[5],[6],[7],[4,8]] [3,4,5,6,7,8,9,10,11,12] [(4,false)] [] ?_ ?_
 ·
   refine p01 e1_0 ?_; refine ak f1_0 ?_; refine aa rfl rfl (ae rfl rfl fun hC h1=>ti (z_right (rr h1))) ?_; refine p10 ?_; refine p10 ?_; refine p01 e1_0 ?_; refine ak f1'_0 ?_; refine aa rfl rfl (ae rfl rfl fun hC h1=>ti (z_right (rr h1))) ?_; refine p10 ?_; refine p20 ?_; exact ag rfl
 intro W_1 x a_1 hC hall ha hN_1 hD_1 bb_1
 have e1_1:=ab ha e1_0
 have f1_1:=hC.at0 f1_0
 have f1'_1:=hC.at0 f1'_0
 have e12_1:=le ha hall 12 9
 repeat first | apply lk | apply ll
 refine wp_cond_false e12_1 ?_
 repeat first | apply lk | apply ll
 refine ld bb_1 [lf w.heap.size 2,kZ 9 ((a.den : Int)),lh,lg,lg,lf w.heap.size 2,lf w.heap.size 2,lh,lg,lg,lg,lf w.heap.size 0,kZ 9 (a.num),lf w.heap.size 2,kZ 9 ((a.den : Int)),kZs [(9,(a.num)),(9,((a.den : Int)))],kZ 9 (((zgcd [(a.num),((a.den : Int))] : Nat) : Int)),lg,lg,lg] [[],[0],[1],[2],[3],[],[5],[6],[7],[4,8],[9],[],[11],[],[13],[12,14],[15],[16],[10,17],[18]] [13,14,15,16,17,18,19,20,21,22,23,24,25,26,27,28,29,30,31,2] [(4,true),(10,true)] [] ?_ ?_
 ·
   refine p01 e1_1 ?_; refine ak f1'_1 ?_; refine aa rfl rfl (ae rfl rfl fun hC h1=>ti (isNone_z (rr h1) (den_ne a))) ?_; refine p10 ?_; refine p10 ?_; refine p01 e1_1 ?_; refine p10 ?_; refine aq (s:=false) f1'_1 (den_sign a) ?_; refine p10 ?_; refine p20 ?_; refine p10 ?_; refine p01 e1_1 ?_; refine ak f1_1 ?_; refine p01 e1_1 ?_; refine ak f1'_1 ?_; refine aa rfl rfl (fg asR asR rfl) ?_; refine aa rfl rfl (ae rfl rfl fun hC h1=>tz (l_gcd 9 (lz h1) (by kernel_rfl) (by decide) (by simp))) ?_; refine aa rfl rfl (ae rfl rfl fun hC h1=>ti (isOne_z1 (gcd_one a) ((rr h1).mono (by decide)))) ?_; refine p20 ?_; refine p10 ?_; exact ag rfl
 intro W x a1 hC hall ha hN1 hD1 bb1
 have e1:=le ha hall 2 19
 repeat first | apply lk | apply ll
 refine wp_ret ?_
 repeat (refine then_r ?_)
 exact bi (t:=2) rfl hD1 e1 ⟨rfl,bb1⟩
theorem of_9 {w : World} {v1 : Value} {a : Rat} (h1 : Pr w v1 9 (a.num) ((a.den : Int))) :
   Calls Tryz.prog 62 #[v1] w (TellsP w 9 ((a.num)) (((a.den : Int)))):=by
 obtain ⟨y1,z1,y1',z1',rfl,H1⟩:=h1.op
 go_enter Tryz.func62,Tryz.ntmps62
 repeat apply wp_seq
 refine ls fun K HK=>?_
 go_wp2
 refine HK.out _ _ (then_n ?_)
 refine lq (G:=fun W=>Code.wp _ _ _ _ W) ?_
 intro W_0 bb_0 K0 K1
 obtain ⟨f1_0,f1'_0⟩:=H1.out _ _ _ bb_0 K0
 have R_0:=kg K1
 clear K0 K1
 refine lm (G:=fun a=>Code.wp _ _ _ a _) 17 ?_
 intro a_0 ha hN_0 hD_0
 have e1_0:=lj ha 1 w.heap.size
 have e2_0:=lj ha 2 (w.heap.size + 1)
 repeat first | apply lk | apply ll
 refine ld bb_0 [kP 9 (a.num) ((a.den : Int)),lg,lh] [[],[0],[1]] [3,4,5] [] [] ?_ ?_
 ·
   refine aa rfl rfl (cf f1_0 f1'_0 e1_0 rfl) ?_; refine aa rfl rfl (ae rfl rfl fun hC h1=>ti (right_9 (pm h1))) ?_; refine p10 ?_; exact ag rfl
 intro W_1 x a_1 hC hall ha hN_1 hD_1 bb_1
 have e1_1:=ab ha e1_0
 have e2_1:=ab ha e2_0
 have f1_1:=hC.at0 f1_0
 have f1'_1:=hC.at0 f1'_0
 have R_1:=hC.holds R_0
 have e5_1:=le ha hall 5 2
 repeat first | apply lk | apply ll
 refine wp_cond_false e5_1 ?_
 repeat first | apply lk | apply ll
 refine lu bb_1 R_1 [lf w.heap.size 0,kZ 9 (a.num),kZs [(9,(a.num))],kZ 9 ((a.num)),lf w.heap.size 2,kZ 9 ((a.den : Int)),kZs [(9,((a.den : Int)))],kZ 9 (((a.den : Int))),kP 9 ((a.num)) (((a.den : Int))),kP 9 ((a.num)) (((a.den : Int))),kRes (w.heap.size + 1) 9 ((a.num)) (((a.den : Int)))] [[],[0],[1],[2],[],[4],[5],[6],[3,7],[8],[9]] [7,8,9,10,11,12,13,14,15,16,999] [] [] ?_ ?_
 ·
   refine p01 e1_1 ?_; refine ak (hG:=(by simp only [List.mem_singleton]; omega)) f1_1 ?_; refine aa rfl rfl (st_list1 asR rfl) ?_; refine aa rfl rfl (ae rfl rfl fun hC h1=>tz (l_add1 9 (lz h1) (by decide) (by decide))) ?_; refine p01 e1_1 ?_; refine ak (hG:=(by simp only [List.mem_singleton]; omega)) f1'_1 ?_; refine aa rfl rfl (st_list1 asR rfl) ?_; refine aa rfl rfl (ae rfl rfl fun hC h1=>tz (l_add1 9 (lz h1) (by decide) (by decide))) ?_; refine aa rfl rfl (fx (k:=9) rfl rfl rfl) ?_; refine aa rfl rfl (st_buildF rfl rfl) ?_; refine aa rfl rfl (kt R_1 rfl e2_1 rfl rfl) ?_; exact ag rfl
 intro W x a1 hC hall ha hN1 hD1 bb1
 obtain ⟨cs,hg,hP⟩:=lr hall 10
 have e1:=ab (t:=2) ha e2_1
 repeat first | apply lk | apply ll
 refine wp_ret ?_
 repeat (refine then_r ?_)
 exact gr (t:=2) rfl hD1 e1 hg hP fun v hv=>⟨v,rfl,hv,bb1⟩
theorem whole_9 {w : World} {v1 : Value} {z : Int} (h1 : Zr w v1 9 (z)) :
   Calls Tryz.prog 82 #[v1] w (TellsP w 9 (z) ((1 : Int))):=by
 obtain ⟨y1,z1,rfl,H1⟩:=h1.op
 go_enter Tryz.func82,Tryz.ntmps82
 repeat apply wp_seq
 refine ls fun K HK=>?_
 go_wp2
 refine HK.out _ _ (then_n ?_)
 refine lq (G:=fun W=>Code.wp _ _ _ _ W) ?_
 intro W_0 bb_0 K0 K1
 have f1_0:=H1.out _ _ _ bb_0 K0
 have R_0:=kg K1
 clear K0 K1
 refine lm (G:=fun a=>Code.wp _ _ _ a _) 7 ?_
 intro a_0 ha hN_0 hD_0
 have e1_0:=lj ha 1 w.heap.size
 have e2_0:=lj ha 2 (w.heap.size + 1)
 repeat first | apply lk | apply ll
 refine lu bb_0 R_0 [kZ 9 (z),kZ 1 ((1 : Int)),kP 9 (z) ((1 : Int)),kP 9 (z) ((1 : Int)),kRes (w.heap.size + 1) 9 (z) ((1 : Int))] [[],[],[0,1],[2],[3]] [3,4,5,6,999] [] [] ?_ ?_
 ·
   refine ai (hG:=(by simp only [List.mem_singleton]; omega)) f1_0 e1_0 ?_; refine aa rfl rfl (be [.int .i64 (1)] rfl rfl fun hC=>tz (z_of (1) 1 (by decide) (by decide) (by decide))) ?_; refine aa rfl rfl (fx (k:=9) rfl rfl rfl) ?_; refine aa rfl rfl (st_buildF rfl rfl) ?_; refine aa rfl rfl (kt R_0 rfl e2_0 rfl rfl) ?_; exact ag rfl
 intro W x a1 hC hall ha hN1 hD1 bb1
 obtain ⟨cs,hg,hP⟩:=lr hall 4
 have e1:=ab (t:=2) ha e2_0
 repeat first | apply lk | apply ll
 refine wp_ret ?_
 repeat (refine then_r ?_)
 exact gr (t:=2) rfl hD1 e1 hg hP fun v hv=>⟨v,rfl,hv,bb1⟩
theorem zr_none {w : World} {v : Value} (h : v = .agg #[.bool false,.slice none 0 0]) : Zr w v 9 0:=⟨none,0,0,h,rr_nil _,by simp⟩
theorem z_sameInt {w : World} {v1 v2 : Value} {j k : Nat} {x : Int} (h1 : Zr w v1 j x) (h2 : Zr w v2 k x) : Calls Tryz.prog 29 #[v1,v2] w fun e w'=>e = .returned (.bool true) ∧ Below w.heap.size w w':=by
 obtain ⟨A1,l1,c1,rfl,r1,e1⟩:=h1
 obtain ⟨A2,l2,c2,rfl,r2,e2⟩:=h2
 exact sameInt_yes r1 r2
theorem none_9 {w : World}    :
   Calls Tryz.prog 64 #[] w (TellsP w 9 (0) (1)):=by
 go_enter Tryz.func64,Tryz.ntmps64
 repeat apply wp_seq
 refine ls fun K HK=>?_
 go_wp2
 refine HK.out _ _ (then_n ?_)
 refine lp (G:=fun W=>Code.wp _ _ _ _ W) ?_
 intro W_0 bb_0 K0
 have R_0:=kg K0
 clear K0
 refine lm (G:=fun a=>Code.wp _ _ _ a _) 3 ?_
 intro a_0 ha hN_0 hD_0
 have e0_0:=lj ha 0 w.heap.size
 repeat first | apply lk | apply ll
 refine lu bb_0 R_0 [kIs (.agg #[.bool false,.slice none 0 0]),kP 9 (0) (1),kRes (w.heap.size) 9 (0) (1)] [[],[0],[1]] [1,2,999] [] [] ?_ ?_
 ·
   refine p00 ?_; refine aa rfl rfl (ae rfl rfl fun hC h1=>tp (whole_9 (zr_none h1))) ?_; refine aa rfl rfl (kt R_0 rfl e0_0 rfl rfl) ?_; exact ag rfl
 intro W x a1 hC hall ha hN1 hD1 bb1
 obtain ⟨cs,hg,hP⟩:=lr hall 2
 have e1:=ab (t:=0) ha e0_0
 repeat first | apply lk | apply ll
 refine wp_ret ?_
 repeat (refine then_r ?_)
 exact gr (t:=0) rfl hD1 e1 hg hP fun v hv=>⟨v,rfl,hv,bb1⟩
theorem im {fn : Func} {R : Ending → World → Prop} {a : Act} {w : World} {t u g k : Nat} {x y : Int} {cs : Array Value} {V : Value} (hres : fn.results = #[.cell t 26,.tmp u]) (hd : a.defers = []) (hp : a.eval (.tmp t) = .pointer (some ⟨g,0,none⟩)) (hu : a.eval (.tmp u) = V) (hg : Holds_ w g cs) (hP : isP k x y cs w) (hR : ∀ v,Pr w v k x y → R (.returned (.tuple #[v,V])) w) : bodyPost Tryz.prog fn R .ret a w:=by
 obtain ⟨A,l,c,A',l',c',rfl,h⟩:=hP
 obtain ⟨m1,m2,m3,m4,_,_,_,_⟩:=hg.four
 refine bodyPost_ret (v:=.tuple #[.agg #[.bool (decide (x < 0)),.slice A l c,.bool (decide (y < 0)),.slice A' l' c'],V]) ?_ hd (hR _ h)
 have hp' : a.tmps[t]?.getD undef = .pointer (some ⟨g,0,none⟩):=by
   rw [← Array.getD_eq_getD_getElem?]; exact hp
 have hu' : a.tmps[u]?.getD undef = V:=by
   rw [← Array.getD_eq_getD_getElem?]; exact hu
 simp [results,hres,go_sem,hp',hu',m1,m2,m3,m4]
theorem Of_9 {w : World} {v1 v2 : Value} {p q : Int} (hz : q ≠ 0) (h1 : Zr w v1 9 (p)) (h2 : Zr w v2 9 (q)) :
   Calls Tryz.prog 14 #[v1,v2] w (fun e w'=>∃ v,e = .returned (.tuple #[v,.int .i64 (0)]) ∧ Pr w' v 9 ((Rat.divInt (p) (q)).num) (((Rat.divInt (p) (q)).den : Int)) ∧ Below w.heap.size w w'):=by
 obtain ⟨y1,z1,rfl,H1⟩:=h1.op
 obtain ⟨y2,z2,rfl,H2⟩:=h2.op
 go_enter Tryz.func14,Tryz.ntmps14
 repeat apply wp_seq
 refine ls fun K HK=>?_
 go_wp2
 refine HK.out _ _ (then_n ?_)
 refine O39 (G:=fun W=>Code.wp _ _ _ _ W) ?_
 intro W_0 bb_0 K0 K1 K2
 have f1_0:=H1.out _ _ _ bb_0 K0
 have f2_0:=H2.out _ _ _ bb_0 K1
 have R_0:=kg K2
 clear K0 K1 K2
 refine lm (G:=fun a=>Code.wp _ _ _ a _) 24 ?_
 intro a_0 ha hN_0 hD_0
 have e2_0:=lj ha 2 w.heap.size
 have e3_0:=lj ha 3 (w.heap.size + 1)
 have e4_0:=lj ha 4 (w.heap.size + 1 + 1)
 repeat first | apply lk | apply ll
 refine ld bb_0 [kZ 9 (p),lg,lh,lh,kZ 9 (q),lg,lh,lh] [[],[0],[1],[2],[],[4],[5],[3,6]] [6,7,8,9,10,11,12,13] [(3,false)] [] ?_ ?_
 ·
   refine ai f1_0 e2_0 ?_; refine aa rfl rfl (ae rfl rfl fun hC h1=>ti (z_right (rr h1))) ?_; refine p10 ?_; refine p10 ?_; refine ai f2_0 e3_0 ?_; refine aa rfl rfl (ae rfl rfl fun hC h1=>ti (z_right (rr h1))) ?_; refine p10 ?_; refine p20 ?_; exact ag rfl
 intro W_1 x a_1 hC hall ha hN_1 hD_1 bb_1
 have e2_1:=ab ha e2_0
 have e3_1:=ab ha e3_0
 have e4_1:=ab ha e4_0
 have f1_1:=hC.at0 f1_0
 have f2_1:=hC.at0 f2_0
 have R_1:=hC.holds R_0
 have e13_1:=le ha hall 13 7
 repeat first | apply lk | apply ll
 refine wp_cond_false e13_1 ?_
 repeat first | apply lk | apply ll
 refine ld bb_1 [kZ 9 (q),lh] [[],[0]] [16,17] [] [] ?_ ?_
 ·
   refine ai f2_1 e3_1 ?_; refine aa rfl rfl (ae rfl rfl fun hC h1=>ti (isNone_z (rr h1) hz)) ?_; exact ag rfl
 intro W_2 x a_2 hC hall ha hN_2 hD_2 bb_2
 have e2_2:=ab ha e2_1
 have e3_2:=ab ha e3_1
 have e4_2:=ab ha e4_1
 have f1_2:=hC.at0 f1_1
 have f2_2:=hC.at0 f2_1
 have R_2:=hC.holds R_1
 have e17_2:=le ha hall 17 1
 repeat first | apply lk | apply ll
 refine wp_cond_false e17_2 ?_
 repeat first | apply lk | apply ll
 refine lu bb_2 R_2 [kZ 9 (p),kZ 9 (q),kP 9 ((Rat.divInt (p) (q)).num) (((Rat.divInt (p) (q)).den : Int)),kP 9 ((Rat.divInt (p) (q)).num) (((Rat.divInt (p) (q)).den : Int)),kRes (w.heap.size + 1 + 1) 9 ((Rat.divInt (p) (q)).num) (((Rat.divInt (p) (q)).den : Int)),kIs (.int .i64 (0))] [[],[],[0,1],[2],[3],[]] [20,21,22,23,999,5] [] [] ?_ ?_
 ·
   refine ai (hG:=(by simp only [List.mem_singleton]; omega)) f1_2 e2_2 ?_; refine ai (hG:=(by simp only [List.mem_singleton]; omega)) f2_2 e3_2 ?_; refine aa rfl rfl (ap rfl rfl rfl fun hC h1 h2=>tp (lowest_q (k:=9) ((rr h1).mono (by decide)) ((rr h2).mono (by decide)) hz (by decide) (by decide))) ?_; refine aa rfl rfl (st_fieldF rfl rfl) ?_; refine aa rfl rfl (eu R_2 rfl e4_2 rfl rfl) ?_; refine p00 ?_; exact ag rfl
 intro W x a1 hC hall ha hN1 hD1 bb1
 obtain ⟨cs,hg,hP⟩:=lr hall 4
 have e1:=ab (t:=4) ha e4_2
 have e2:=le ha hall 5 5
 repeat first | apply lk | apply ll
 refine wp_ret ?_
 repeat (refine then_r ?_)
 exact im (t:=4) (u:=5) rfl hD1 e1 e2 hg hP fun v hv=>⟨v,rfl,hv,bb1⟩
theorem floor_9 {w : World} {v1 : Value} {a : Rat} (h1 : Pr w v1 9 (a.num) ((a.den : Int))) :
   Calls Tryz.prog 86 #[v1] w (TellsZ w 10 (zq (a.num) ((a.den : Int)))):=by
 obtain ⟨y1,z1,y1',z1',rfl,H1⟩:=h1.op
 go_enter Tryz.func86,Tryz.ntmps86
 repeat apply wp_seq
 refine ls fun K HK=>?_
 go_wp2
 refine HK.out _ _ (then_n ?_)
 refine lq (G:=fun W=>Code.wp _ _ _ _ W) ?_
 intro W_0 bb_0 K0 K1
 obtain ⟨f1_0,f1'_0⟩:=H1.out _ _ _ bb_0 K0
 have R_0:=lc K1
 clear K0 K1
 refine lm (G:=fun a=>Code.wp _ _ _ a _) 18 ?_
 intro a_0 ha hN_0 hD_0
 have e1_0:=lj ha 1 w.heap.size
 have e2_0:=lj ha 2 (w.heap.size + 1)
 repeat first | apply lk | apply ll
 refine ld bb_0 [lf w.heap.size 0,lf w.heap.size 0,kZ 9 (a.num),lf w.heap.size 0,lf w.heap.size 2,kZ 9 ((a.den : Int)),kZQ 10 9 (zq (a.num) ((a.den : Int))) (zm (a.num) ((a.den : Int))) 0,kZQ 10 9 (zq (a.num) ((a.den : Int))) (zm (a.num) ((a.den : Int))) 0,kZ 10 (zq (a.num) ((a.den : Int))),kZ 9 (zm (a.num) ((a.den : Int))),kIs (.int .i64 (0)),PK.fresh 2,PK.fresh 2,kPutZ 11 10 (zq (a.num) ((a.den : Int))),kPutZ 12 9 (zm (a.num) ((a.den : Int))),kIs (.int .i64 (0))] [[],[0],[1],[],[3],[4],[2,5],[6],[7],[7],[7],[],[],[11,8],[12,9],[10]] [7,8,9,10,11,12,13,6,14,15,16,3,4,999,999,5] [] [] ?_ ?_
 ·
   refine p01 e1_0 ?_; refine p10 ?_; refine ak f1_0 ?_; refine p01 e1_0 ?_; refine p10 ?_; refine ak f1'_0 ?_; refine aa rfl rfl (ap rfl rfl rfl fun hC h1 h2=>tq (z_divMod (m:=10) (rz h1) (rz h2) (den_ne a) (by decide) (by decide) (by decide) (by decide))) ?_; refine aa rfl rfl (cw rfl rfl) ?_; refine bf ext_q ?_; refine bf ext_r ?_; refine bf ext_e ?_; refine au ?_; refine au ?_; refine bc ?_; refine bc ?_; refine p10 ?_; exact ag rfl
 intro W_1 x a_1 hC hall ha hN_1 hD_1 bb_1
 have e2_1:=ab ha e2_0
 have R_1:=hC.holds R_0
 obtain ⟨g3,hx,hge,l3_1⟩:=cb (lr hall 13)
 have d3:=Nat.lt_of_lt_of_le R_0.lt hge
 clear hge
 have e3_1:=(an (t:=3) (i:=11) ha).trans hx
 clear hx
 repeat first | apply lk | apply ll
 refine lu bb_1 R_1 [kZ 10 (zq (a.num) ((a.den : Int))),kResZ (w.heap.size + 1) 10 (zq (a.num) ((a.den : Int)))] [[],[0]] [17,999] [] [] ?_ ?_
 ·
   refine ai (hG:=(by simp only [List.mem_singleton]; omega)) (l3_1.atR) e3_1 ?_; refine aa rfl rfl (ce R_1 e2_1 rfl rfl) ?_; exact ag rfl
 intro W x a1 hC hall ha hN1 hD1 bb1
 obtain ⟨cs,hg,hP⟩:=lr hall 1
 have e1:=ab (t:=2) ha e2_1
 repeat first | apply lk | apply ll
 refine wp_ret ?_
 repeat (refine then_r ?_)
 exact ci (t:=2) rfl hD1 e1 hg hP fun v hv=>⟨v,rfl,hv,bb1⟩
theorem Floor_9 {w : World} {v1 : Value} {a : Rat} (h1 : Pr w v1 9 (a.num) ((a.den : Int))) :
   Calls Tryz.prog 30 #[v1] w (TellsZ w 10 (zq (a.num) ((a.den : Int)))):=by
 obtain ⟨y1,z1,y1',z1',rfl,H1⟩:=h1.op
 go_enter Tryz.func30,Tryz.ntmps30
 repeat apply wp_seq
 refine ls fun K HK=>?_
 go_wp2
 refine HK.out _ _ (then_n ?_)
 refine lq (G:=fun W=>Code.wp _ _ _ _ W) ?_
 intro W_0 bb_0 K0 K1
 obtain ⟨f1_0,f1'_0⟩:=H1.out _ _ _ bb_0 K0
 have R_0:=lc K1
 clear K0 K1
 refine lm (G:=fun a=>Code.wp _ _ _ a _) 6 ?_
 intro a_0 ha hN_0 hD_0
 have e1_0:=lj ha 1 w.heap.size
 have e2_0:=lj ha 2 (w.heap.size + 1)
 repeat first | apply lk | apply ll
 refine lu bb_0 R_0 [kP 9 (a.num) ((a.den : Int)),kP 9 (a.num) ((a.den : Int)),kZ 10 (zq (a.num) ((a.den : Int))),kResZ (w.heap.size + 1) 10 (zq (a.num) ((a.den : Int)))] [[],[0],[1],[2]] [3,4,5,999] [] [] ?_ ?_
 ·
   refine aa rfl rfl (cf (hG:=(by simp only [List.mem_singleton]; omega)) f1_0 f1'_0 e1_0 rfl) ?_; refine aa rfl rfl (ae rfl rfl fun hC h1=>tp (of_9 (pm h1))) ?_; refine aa rfl rfl (ae rfl rfl fun hC h1=>tz (floor_9 (pm h1))) ?_; refine aa rfl rfl (ce R_0 e2_0 rfl rfl) ?_; exact ag rfl
 intro W x a1 hC hall ha hN1 hD1 bb1
 obtain ⟨cs,hg,hP⟩:=lr hall 3
 have e1:=ab (t:=2) ha e2_0
 repeat first | apply lk | apply ll
 refine wp_ret ?_
 repeat (refine then_r ?_)
 exact ci (t:=2) rfl hD1 e1 hg hP fun v hv=>⟨v,rfl,hv,bb1⟩
theorem run_adds {w : World} {x y : ByteArray} (h : x.size + y.size ≤ 1000000) : (binOp .add 9 (.string x) (.string y)).run Tryz.prog w = .ok (.string (x ++ y)) w:=by
 have h' : x.size + y.size ≤ 9223372036854775807:=by omega
 have e:=run_string_add_sum (P:=Tryz.prog) (w:=w) x y h'
 simpa [binOp] using e
theorem ex_adds {ρ : Operand → Value} {w : World} {d : Option Tmp} {T E2 : TypeId} {pos : String} {af : Array Edge} {gu : Option (Nat × Bool)} {a b : Operand} {x y : ByteArray} (ha : ρ a = .string x) (hb : ρ b = .string y) (h : x.size + y.size ≤ 1000000) :
   (execOp ρ { dst:=d,op:=.binOp .add 9 a b E2,type:=T,pos:=pos,after:=af,guard:=gu }).run Tryz.prog w = .ok (.value (.string (x ++ y))) w:=by
 show (((do eqGuard .add 9 a b (ρ a) (ρ b); binOp .add 9 (ρ a) (ρ b)) : Sem Value) >>= fun v=>pure (Next.value v)).run Tryz.prog w = _
 rw [ha,hb]
 have e2 : ((do eqGuard .add 9 a b (.string x) (.string y); binOp .add 9 (.string x) (.string y)) : Sem Value).run Tryz.prog w = .ok (.string (x ++ y)) w:=by
   rw [bm (v:=()) (w':=w) rfl]; exact run_adds h
 rw [bm e2]; rfl
theorem jw {z : Int} {k : Nat} (h : z.natAbs < 1000000000 ^ k) (hk : 0 < k) : (ztext z).size ≤ 9 * k + 1:=by
 have h1:=decDigits_len h hk
 unfold ztext ntext
 split
 · rw [ByteArray.size_append,jl]
   show 1 + _ ≤ _
   omega
 · rw [jl]; omega
theorem den_one {a : Rat} (h : a.den ≠ 1) : (1 : Int) < (a.den : Int):=by have:=a.den_pos; omega
theorem AtR.add1 {W : World} {g o k : Nat} {x : Int} (h : AtR W g o k x) (hk : 0 < k) (hk2 : k ≤ 1000) : (ztext x).size + (⟨#[47]⟩ : ByteArray).size ≤ 1000000:=by
 obtain ⟨_,_,_,_,_,h⟩:=h
 have:=jw h.lt hk
 show _ + 1 ≤ _
 omega
theorem AtR.add2 {W : World} {g o g' o' k k' : Nat} {x y : Int} (h : AtR W g o k x) (h' : AtR W g' o' k' y) (hk : 0 < k ∧ 0 < k') (hk2 : k ≤ 1000 ∧ k' ≤ 1000) : ((ztext x) ++ (⟨#[47]⟩ : ByteArray)).size + (ztext y).size ≤ 1000000:=by
 obtain ⟨_,_,_,_,_,h⟩:=h
 obtain ⟨_,_,_,_,_,h'⟩:=h'
 have:=jw h.lt hk.1
 have:=jw h'.lt hk.2
 rw [ByteArray.size_append]
 show _ + 1 + _ ≤ _
 omega
theorem decimal_9w {w : World} {v1 : Value} {a : Rat} (HT : Hid (Tab w ∧ 2 ≤ w.heap.size)) (hz : a.den = 1) (h1 : Pr w v1 9 (a.num) ((a.den : Int))) :
   Calls Tryz.prog 83 #[v1] w (fun e w'=>e = .returned (.string (ztext (a.num))) ∧ Below w.heap.size w w'):=by
 obtain ⟨y1,z1,y1',z1',rfl,H1⟩:=h1.op
 go_enter Tryz.func83,Tryz.ntmps83
 repeat apply wp_seq
 refine ls fun K HK=>?_
 go_wp2
 refine HK.out _ _ (then_n ?_)
 refine lp (G:=fun W=>Code.wp _ _ _ _ W) ?_
 intro W_0 bb_0 K0
 obtain ⟨f1_0,f1'_0⟩:=H1.out _ _ _ bb_0 K0
 clear K0
 refine lm (G:=fun a=>Code.wp _ _ _ a _) 21 ?_
 intro a_0 ha hN_0 hD_0
 have e1_0:=lj ha 1 w.heap.size
 repeat first | apply lk | apply ll
 refine ld bb_0 [lf w.heap.size 0,lf w.heap.size 2,kZ 9 ((a.den : Int)),lg] [[],[0],[1],[2]] [3,4,5,6] [] [] ?_ ?_
 ·
   refine p01 e1_0 ?_; refine p10 ?_; refine ak f1'_0 ?_; refine aa rfl rfl (ae rfl rfl fun hC h1=>ti (isOne_z1 (by rw [hz]; rfl) ((rr h1).mono (by decide)))) ?_; exact ag rfl
 intro W_1 x a_1 hC hall ha hN_1 hD_1 bb_1
 have e1_1:=ab ha e1_0
 have f1_1:=hC.at0 f1_0
 have e6_1:=le ha hall 6 3
 repeat first | apply lk | apply ll
 refine wp_cond_true e6_1 ?_
 repeat first | apply lk | apply ll
 refine ld bb_1 [lf w.heap.size 0,lf w.heap.size 0,kZ 9 (a.num),kIs (.string (ztext (a.num))),kIs (.string (ztext (a.num)))] [[],[0],[1],[2],[3]] [7,8,9,10,2] [] [] ?_ ?_
 ·
   refine p01 e1_1 ?_; refine p10 ?_; refine ak f1_1 ?_; refine aa rfl rfl (ae rfl rfl fun hC h1=>ti (z_text (rz h1) (by decide) (HT.out.1.below (bb_1.trans hC.below) HT.out.2) (Nat.le_trans HT.out.2 (bb_1.trans hC.below).size))) ?_; refine p10 ?_; exact ag rfl
 intro W x a1 hC hall ha hN1 hD1 bb1
 have e1:=le ha hall 2 4
 repeat first | apply lk | apply ll
 refine wp_ret ?_
 repeat (refine then_r ?_)
 exact bi (t:=2) rfl hD1 e1 ⟨rfl,bb1⟩
theorem Text_9w {w : World} {v1 : Value} {a : Rat} (HT : Hid (Tab w ∧ 2 ≤ w.heap.size)) (hz : a.den = 1) (h1 : Pr w v1 9 (a.num) ((a.den : Int))) :
   Calls Tryz.prog 27 #[v1] w (fun e w'=>e = .returned (.string (ztext (a.num))) ∧ Below w.heap.size w w'):=by
 obtain ⟨y1,z1,y1',z1',rfl,H1⟩:=h1.op
 go_enter Tryz.func27,Tryz.ntmps27
 repeat apply wp_seq
 refine ls fun K HK=>?_
 go_wp2
 refine HK.out _ _ (then_n ?_)
 refine lp (G:=fun W=>Code.wp _ _ _ _ W) ?_
 intro W_0 bb_0 K0
 obtain ⟨f1_0,f1'_0⟩:=H1.out _ _ _ bb_0 K0
 clear K0
 refine lm (G:=fun a=>Code.wp _ _ _ a _) 6 ?_
 intro a_0 ha hN_0 hD_0
 have e1_0:=lj ha 1 w.heap.size
 repeat first | apply lk | apply ll
 refine ld bb_0 [kP 9 (a.num) ((a.den : Int)),kP 9 (a.num) ((a.den : Int)),kIs (.string (ztext (a.num))),kIs (.string (ztext (a.num)))] [[],[0],[1],[2]] [3,4,5,2] [] [] ?_ ?_
 ·
   refine aa rfl rfl (cf f1_0 f1'_0 e1_0 rfl) ?_; refine aa rfl rfl (ae rfl rfl fun hC h1=>tp (of_9 (pm h1))) ?_; refine aa rfl rfl (ae rfl rfl fun hC h1=>ti (decimal_9w (Lib.hid ⟨HT.out.1.below (bb_0.trans hC.below) HT.out.2,Nat.le_trans HT.out.2 (bb_0.trans hC.below).size⟩) hz (pm h1))) ?_; refine p10 ?_; exact ag rfl
 intro W x a1 hC hall ha hN1 hD1 bb1
 have e1:=le ha hall 2 3
 repeat first | apply lk | apply ll
 refine wp_ret ?_
 repeat (refine then_r ?_)
 exact bi (t:=2) rfl hD1 e1 ⟨rfl,bb1⟩
theorem decimal_9b {w : World} {v1 : Value} {a : Rat} (HT : Hid (Tab w ∧ 2 ≤ w.heap.size)) (hz : a.den ≠ 1) (h1 : Pr w v1 9 (a.num) ((a.den : Int))) :
   Calls Tryz.prog 83 #[v1] w (fun e w'=>e = .returned (.string (((ztext (a.num)) ++ ({ data:=#[47] })) ++ (ztext ((a.den : Int))))) ∧ Below w.heap.size w w'):=by
 obtain ⟨y1,z1,y1',z1',rfl,H1⟩:=h1.op
 go_enter Tryz.func83,Tryz.ntmps83
 repeat apply wp_seq
 refine ls fun K HK=>?_
 go_wp2
 refine HK.out _ _ (then_n ?_)
 refine lp (G:=fun W=>Code.wp _ _ _ _ W) ?_
 intro W_0 bb_0 K0
 obtain ⟨f1_0,f1'_0⟩:=H1.out _ _ _ bb_0 K0
 clear K0
 refine lm (G:=fun a=>Code.wp _ _ _ a _) 21 ?_
 intro a_0 ha hN_0 hD_0
 have e1_0:=lj ha 1 w.heap.size
 repeat first | apply lk | apply ll
 refine ld bb_0 [lf w.heap.size 0,lf w.heap.size 2,kZ 9 ((a.den : Int)),lh] [[],[0],[1],[2]] [3,4,5,6] [] [] ?_ ?_
 ·
   refine p01 e1_0 ?_; refine p10 ?_; refine ak f1'_0 ?_; refine aa rfl rfl (ae rfl rfl fun hC h1=>ti (isOne_z0 (den_one hz) ((rr h1).mono (by decide)))) ?_; exact ag rfl
 intro W_1 x a_1 hC hall ha hN_1 hD_1 bb_1
 have e1_1:=ab ha e1_0
 have f1_1:=hC.at0 f1_0
 have f1'_1:=hC.at0 f1'_0
 have e6_1:=le ha hall 6 3
 repeat first | apply lk | apply ll
 refine wp_cond_false e6_1 ?_
 repeat first | apply lk | apply ll
 refine ld bb_1 [lf w.heap.size 0,lf w.heap.size 0,kZ 9 (a.num),kIs (.string (ztext (a.num))),kIs (.string ((ztext (a.num)) ++ ({ data:=#[47] }))),lf w.heap.size 0,lf w.heap.size 2,kZ 9 ((a.den : Int)),kIs (.string (ztext ((a.den : Int)))),kIs (.string (((ztext (a.num)) ++ ({ data:=#[47] })) ++ (ztext ((a.den : Int))))),kIs (.string (((ztext (a.num)) ++ ({ data:=#[47] })) ++ (ztext ((a.den : Int)))))] [[],[0],[1],[2],[3],[],[5],[6],[7],[4,8],[9]] [11,12,13,14,15,16,17,18,19,20,2] [] [] ?_ ?_
 ·
   refine p01 e1_1 ?_; refine p10 ?_; refine ak f1_1 ?_; refine aa rfl rfl (ae rfl rfl fun hC h1=>ti (z_text (rz h1) (by decide) (HT.out.1.below (bb_1.trans hC.below) HT.out.2) (Nat.le_trans HT.out.2 (bb_1.trans hC.below).size))) ?_; refine p10 (hr:=fun _=>ex_adds (by kernel_rfl) (by kernel_rfl) (f1_1.add1 (by decide) (by decide))) ?_; refine p01 e1_1 ?_; refine p10 ?_; refine ak f1'_1 ?_; refine aa rfl rfl (ae rfl rfl fun hC h1=>ti (z_text (rz h1) (by decide) (HT.out.1.below (bb_1.trans hC.below) HT.out.2) (Nat.le_trans HT.out.2 (bb_1.trans hC.below).size))) ?_; refine p20 (hr:=fun _=>ex_adds (by kernel_rfl) (by kernel_rfl) (f1_1.add2 f1'_1 (by decide) (by decide))) ?_; refine p10 ?_; exact ag rfl
 intro W x a1 hC hall ha hN1 hD1 bb1
 have e1:=le ha hall 2 10
 repeat first | apply lk | apply ll
 refine wp_ret ?_
 repeat (refine then_r ?_)
 exact bi (t:=2) rfl hD1 e1 ⟨rfl,bb1⟩
theorem Text_9b {w : World} {v1 : Value} {a : Rat} (HT : Hid (Tab w ∧ 2 ≤ w.heap.size)) (hz : a.den ≠ 1) (h1 : Pr w v1 9 (a.num) ((a.den : Int))) :
   Calls Tryz.prog 27 #[v1] w (fun e w'=>e = .returned (.string (((ztext (a.num)) ++ ({ data:=#[47] })) ++ (ztext ((a.den : Int))))) ∧ Below w.heap.size w w'):=by
 obtain ⟨y1,z1,y1',z1',rfl,H1⟩:=h1.op
 go_enter Tryz.func27,Tryz.ntmps27
 repeat apply wp_seq
 refine ls fun K HK=>?_
 go_wp2
 refine HK.out _ _ (then_n ?_)
 refine lp (G:=fun W=>Code.wp _ _ _ _ W) ?_
 intro W_0 bb_0 K0
 obtain ⟨f1_0,f1'_0⟩:=H1.out _ _ _ bb_0 K0
 clear K0
 refine lm (G:=fun a=>Code.wp _ _ _ a _) 6 ?_
 intro a_0 ha hN_0 hD_0
 have e1_0:=lj ha 1 w.heap.size
 repeat first | apply lk | apply ll
 refine ld bb_0 [kP 9 (a.num) ((a.den : Int)),kP 9 (a.num) ((a.den : Int)),kIs (.string (((ztext (a.num)) ++ ({ data:=#[47] })) ++ (ztext ((a.den : Int))))),kIs (.string (((ztext (a.num)) ++ ({ data:=#[47] })) ++ (ztext ((a.den : Int)))))] [[],[0],[1],[2]] [3,4,5,2] [] [] ?_ ?_
 ·
   refine aa rfl rfl (cf f1_0 f1'_0 e1_0 rfl) ?_; refine aa rfl rfl (ae rfl rfl fun hC h1=>tp (of_9 (pm h1))) ?_; refine aa rfl rfl (ae rfl rfl fun hC h1=>ti (decimal_9b (Lib.hid ⟨HT.out.1.below (bb_0.trans hC.below) HT.out.2,Nat.le_trans HT.out.2 (bb_0.trans hC.below).size⟩) hz (pm h1))) ?_; refine p10 ?_; exact ag rfl
 intro W x a1 hC hall ha hN1 hD1 bb1
 have e1:=le ha hall 2 3
 repeat first | apply lk | apply ll
 refine wp_ret ?_
 repeat (refine then_r ?_)
 exact bi (t:=2) rfl hD1 e1 ⟨rfl,bb1⟩
theorem res_four {S0 : Nat} {x : Nat → Value} {v : Value} {w : World} {g k : Nat} {z1 z2 : Int} (h : (kRes g k z1 z2).sem S0 x v w) : ∃ q1 q2 q3 q4,Holds_ w g #[q1,q2,q3,q4]:=by
 obtain ⟨cs,h2,A,l,c,A',l',c',rfl,_⟩:=h
 exact ⟨_,_,_,_,h2⟩
theorem in_block8 {id : Nat} {Q : Exit → Act → World → Prop} {a : Act} {w : World} (h : Q .normal a w) : Exit.inBlock id Q .normal a w:=h
theorem pe0 {S0 : Nat} {x : Nat → Value} {v : Value} {w : World} (h : (kP 9 0 1).sem S0 x v w) : Pr w v 9 (0 : Rat).num ((0 : Rat).den : Int):=h
theorem isNone_zero {w : World} {v : Value} {k : Nat} {z : Int} (h : Zr w v k z) (hz : z = 0) : Calls Tryz.prog 63 #[v] w fun e w'=>e = .returned (.bool true) ∧ Below w.heap.size w w':=by
 obtain ⟨A,l,c,rfl,h1,_⟩:=h
 have hk:=(rr_len h1).1
 have hl : l = 0:=hk.2 (by omega)
 subst hl
 obtain ⟨s,hs⟩ : ∃ s,s = decide (z < 0):=⟨_,rfl⟩
 rw [← hs]
 clear hs hk h1 hz
 go_enter Tryz.func63,Tryz.ntmps63
 go_wp2
 go_ret
 exact ⟨rfl,bal (Below.refl _ _) _⟩
theorem jx {x y : Int} (h : 0 < y) : 0 < ((zgcd [(x),(y)] : Nat) : Int):=by
 rw [kp]
 have : 0 < Int.gcd y x:=Nat.gcd_pos_of_pos_left _ (by omega)
 omega
theorem right_none_9 {w : World} {v1 : Value} {zx zy : Int} (hz : zy = 0) (h1 : Pr w v1 9 (zx) (zy)) :
   Calls Tryz.prog 19 #[v1] w (fun e w'=>e = .returned (.bool false) ∧ Below w.heap.size w w'):=by
 obtain ⟨y1,z1,y1',z1',rfl,H1⟩:=h1.op
 go_enter Tryz.func19,Tryz.ntmps19
 repeat apply wp_seq
 refine ls fun K HK=>?_
 go_wp2
 refine HK.out _ _ (then_n ?_)
 refine lp (G:=fun W=>Code.wp _ _ _ _ W) ?_
 intro W_0 bb_0 K0
 obtain ⟨f1_0,f1'_0⟩:=H1.out _ _ _ bb_0 K0
 clear K0
 refine lm (G:=fun a=>Code.wp _ _ _ a _) 32 ?_
 intro a_0 ha hN_0 hD_0
 have e1_0:=lj ha 1 w.heap.size
 repeat first | apply lk | apply ll
 refine ld bb_0 [lf w.heap.size 0,kZ 9 (zx),lg,lh,lh,lf w.heap.size 2,kZ 9 (zy),lg,lh,lh] [[],[0],[1],[2],[3],[],[5],[6],[7],[4,8]] [3,4,5,6,7,8,9,10,11,12] [(4,false)] [] ?_ ?_
 ·
   refine p01 e1_0 ?_; refine ak f1_0 ?_; refine aa rfl rfl (ae rfl rfl fun hC h1=>ti (z_right (rr h1))) ?_; refine p10 ?_; refine p10 ?_; refine p01 e1_0 ?_; refine ak f1'_0 ?_; refine aa rfl rfl (ae rfl rfl fun hC h1=>ti (z_right (rr h1))) ?_; refine p10 ?_; refine p20 ?_; exact ag rfl
 intro W_1 x a_1 hC hall ha hN_1 hD_1 bb_1
 have e1_1:=ab ha e1_0
 have f1'_1:=hC.at0 f1'_0
 have e12_1:=le ha hall 12 9
 repeat first | apply lk | apply ll
 refine wp_cond_false e12_1 ?_
 repeat first | apply lk | apply ll
 refine ld bb_1 [lf w.heap.size 2,kZ 9 (zy),lg,lh,lh,li,li,li,li,lh,lh,li,li,li,li,li,li,li,lh,lh] [[],[0],[1],[2],[3],[],[5],[6],[7],[4,8],[9],[],[11],[],[13],[12,14],[15],[16],[10,17],[18]] [13,14,15,16,17,18,19,20,21,22,23,24,25,26,27,28,29,30,31,2] [(4,false),(10,false)] [5,6,7,8,11,12,13,14,15,16,17] ?_ ?_
 ·
   refine p01 e1_1 ?_; refine ak f1'_1 ?_; refine aa rfl rfl (ae rfl rfl fun hC h1=>ti (isNone_zero (rr h1) hz)) ?_; refine p10 ?_; refine p10 ?_; refine ah rfl ?_; refine ah rfl ?_; refine ah rfl ?_; refine ah rfl ?_; refine p20 ?_; refine p10 ?_; refine ah rfl ?_; refine ah rfl ?_; refine ah rfl ?_; refine ah rfl ?_; refine ah rfl ?_; refine ah rfl ?_; refine ah rfl ?_; refine p20 ?_; refine p10 ?_; exact ag rfl
 intro W x a1 hC hall ha hN1 hD1 bb1
 have e1:=le ha hall 2 19
 repeat first | apply lk | apply ll
 refine wp_ret ?_
 repeat (refine then_r ?_)
 exact bi (t:=2) rfl hD1 e1 ⟨rfl,bb1⟩
theorem right_neg_9 {w : World} {v1 : Value} {zx zy : Int} (hz : zy ≠ 0) (hs : decide (zy < 0) = true) (h1 : Pr w v1 9 (zx) (zy)) :
   Calls Tryz.prog 19 #[v1] w (fun e w'=>e = .returned (.bool false) ∧ Below w.heap.size w w'):=by
 obtain ⟨y1,z1,y1',z1',rfl,H1⟩:=h1.op
 go_enter Tryz.func19,Tryz.ntmps19
 repeat apply wp_seq
 refine ls fun K HK=>?_
 go_wp2
 refine HK.out _ _ (then_n ?_)
 refine lp (G:=fun W=>Code.wp _ _ _ _ W) ?_
 intro W_0 bb_0 K0
 obtain ⟨f1_0,f1'_0⟩:=H1.out _ _ _ bb_0 K0
 clear K0
 refine lm (G:=fun a=>Code.wp _ _ _ a _) 32 ?_
 intro a_0 ha hN_0 hD_0
 have e1_0:=lj ha 1 w.heap.size
 repeat first | apply lk | apply ll
 refine ld bb_0 [lf w.heap.size 0,kZ 9 (zx),lg,lh,lh,lf w.heap.size 2,kZ 9 (zy),lg,lh,lh] [[],[0],[1],[2],[3],[],[5],[6],[7],[4,8]] [3,4,5,6,7,8,9,10,11,12] [(4,false)] [] ?_ ?_
 ·
   refine p01 e1_0 ?_; refine ak f1_0 ?_; refine aa rfl rfl (ae rfl rfl fun hC h1=>ti (z_right (rr h1))) ?_; refine p10 ?_; refine p10 ?_; refine p01 e1_0 ?_; refine ak f1'_0 ?_; refine aa rfl rfl (ae rfl rfl fun hC h1=>ti (z_right (rr h1))) ?_; refine p10 ?_; refine p20 ?_; exact ag rfl
 intro W_1 x a_1 hC hall ha hN_1 hD_1 bb_1
 have e1_1:=ab ha e1_0
 have f1'_1:=hC.at0 f1'_0
 have e12_1:=le ha hall 12 9
 repeat first | apply lk | apply ll
 refine wp_cond_false e12_1 ?_
 repeat first | apply lk | apply ll
 refine ld bb_1 [lf w.heap.size 2,kZ 9 (zy),lh,lg,lg,lf w.heap.size 2,lf w.heap.size 2,lg,lh,lh,lh,li,li,li,li,li,li,li,lh,lh] [[],[0],[1],[2],[3],[],[5],[6],[7],[4,8],[9],[],[11],[],[13],[12,14],[15],[16],[10,17],[18]] [13,14,15,16,17,18,19,20,21,22,23,24,25,26,27,28,29,30,31,2] [(4,true),(10,false)] [11,12,13,14,15,16,17] ?_ ?_
 ·
   refine p01 e1_1 ?_; refine ak f1'_1 ?_; refine aa rfl rfl (ae rfl rfl fun hC h1=>ti (isNone_z (rr h1) hz)) ?_; refine p10 ?_; refine p10 ?_; refine p01 e1_1 ?_; refine p10 ?_; refine aq (s:=true) f1'_1 hs ?_; refine p10 ?_; refine p20 ?_; refine p10 ?_; refine ah rfl ?_; refine ah rfl ?_; refine ah rfl ?_; refine ah rfl ?_; refine ah rfl ?_; refine ah rfl ?_; refine ah rfl ?_; refine p20 ?_; refine p10 ?_; exact ag rfl
 intro W x a1 hC hall ha hN1 hD1 bb1
 have e1:=le ha hall 2 19
 repeat first | apply lk | apply ll
 refine wp_ret ?_
 repeat (refine then_r ?_)
 exact bi (t:=2) rfl hD1 e1 ⟨rfl,bb1⟩
theorem right_gcd_9 {w : World} {v1 : Value} {zx zy : Int} (hz : zy ≠ 0) (hs : decide (zy < 0) = false) (hg : 1 < ((zgcd [(zx),(zy)] : Nat) : Int)) (h1 : Pr w v1 9 (zx) (zy)) :
   Calls Tryz.prog 19 #[v1] w (fun e w'=>e = .returned (.bool false) ∧ Below w.heap.size w w'):=by
 obtain ⟨y1,z1,y1',z1',rfl,H1⟩:=h1.op
 go_enter Tryz.func19,Tryz.ntmps19
 repeat apply wp_seq
 refine ls fun K HK=>?_
 go_wp2
 refine HK.out _ _ (then_n ?_)
 refine lp (G:=fun W=>Code.wp _ _ _ _ W) ?_
 intro W_0 bb_0 K0
 obtain ⟨f1_0,f1'_0⟩:=H1.out _ _ _ bb_0 K0
 clear K0
 refine lm (G:=fun a=>Code.wp _ _ _ a _) 32 ?_
 intro a_0 ha hN_0 hD_0
 have e1_0:=lj ha 1 w.heap.size
 repeat first | apply lk | apply ll
 refine ld bb_0 [lf w.heap.size 0,kZ 9 (zx),lg,lh,lh,lf w.heap.size 2,kZ 9 (zy),lg,lh,lh] [[],[0],[1],[2],[3],[],[5],[6],[7],[4,8]] [3,4,5,6,7,8,9,10,11,12] [(4,false)] [] ?_ ?_
 ·
   refine p01 e1_0 ?_; refine ak f1_0 ?_; refine aa rfl rfl (ae rfl rfl fun hC h1=>ti (z_right (rr h1))) ?_; refine p10 ?_; refine p10 ?_; refine p01 e1_0 ?_; refine ak f1'_0 ?_; refine aa rfl rfl (ae rfl rfl fun hC h1=>ti (z_right (rr h1))) ?_; refine p10 ?_; refine p20 ?_; exact ag rfl
 intro W_1 x a_1 hC hall ha hN_1 hD_1 bb_1
 have e1_1:=ab ha e1_0
 have f1_1:=hC.at0 f1_0
 have f1'_1:=hC.at0 f1'_0
 have e12_1:=le ha hall 12 9
 repeat first | apply lk | apply ll
 refine wp_cond_false e12_1 ?_
 repeat first | apply lk | apply ll
 refine ld bb_1 [lf w.heap.size 2,kZ 9 (zy),lh,lg,lg,lf w.heap.size 2,lf w.heap.size 2,lh,lg,lg,lg,lf w.heap.size 0,kZ 9 (zx),lf w.heap.size 2,kZ 9 (zy),kZs [(9,(zx)),(9,(zy))],kZ 9 (((zgcd [(zx),(zy)] : Nat) : Int)),lh,lh,lh] [[],[0],[1],[2],[3],[],[5],[6],[7],[4,8],[9],[],[11],[],[13],[12,14],[15],[16],[10,17],[18]] [13,14,15,16,17,18,19,20,21,22,23,24,25,26,27,28,29,30,31,2] [(4,true),(10,true)] [] ?_ ?_
 ·
   refine p01 e1_1 ?_; refine ak f1'_1 ?_; refine aa rfl rfl (ae rfl rfl fun hC h1=>ti (isNone_z (rr h1) hz)) ?_; refine p10 ?_; refine p10 ?_; refine p01 e1_1 ?_; refine p10 ?_; refine aq (s:=false) f1'_1 hs ?_; refine p10 ?_; refine p20 ?_; refine p10 ?_; refine p01 e1_1 ?_; refine ak f1_1 ?_; refine p01 e1_1 ?_; refine ak f1'_1 ?_; refine aa rfl rfl (fg asR asR rfl) ?_; refine aa rfl rfl (ae rfl rfl fun hC h1=>tz (l_gcd 9 (lz h1) (by kernel_rfl) (by decide) (by simp))) ?_; refine aa rfl rfl (ae rfl rfl fun hC h1=>ti (isOne_z0 hg ((rr h1).mono (by decide)))) ?_; refine p20 ?_; refine p10 ?_; exact ag rfl
 intro W x a1 hC hall ha hN1 hD1 bb1
 have e1:=le ha hall 2 19
 repeat first | apply lk | apply ll
 refine wp_ret ?_
 repeat (refine then_r ?_)
 exact bi (t:=2) rfl hD1 e1 ⟨rfl,bb1⟩
theorem right_no_9 {w : World} {v1 : Value} {zx zy : Int} (hno : ¬ (0 < zy ∧ ((zgcd [(zx),(zy)] : Nat) : Int) = 1)) (h1 : Pr w v1 9 (zx) (zy)) : Calls Tryz.prog 19 #[v1] w (fun e w'=>e = .returned (.bool false) ∧ Below w.heap.size w w'):=by
 rcases Int.lt_trichotomy zy 0 with h | h | h
 · exact right_neg_9 (Int.ne_of_lt h) (decide_eq_true h) h1
 · exact right_none_9 h h1
 · refine right_gcd_9 (Int.ne_of_gt h) (decide_eq_false (by omega)) ?_ h1; have:=jx h (x:=zx); have hn : ((zgcd [(zx),(zy)] : Nat) : Int) ≠ 1:=fun e=>hno ⟨h,e⟩; omega
theorem right_none_19 {w : World} {v1 : Value} {zx zy : Int} (hz : zy = 0) (h1 : Pr w v1 19 (zx) (zy)) :
   Calls Tryz.prog 19 #[v1] w (fun e w'=>e = .returned (.bool false) ∧ Below w.heap.size w w'):=by
 obtain ⟨y1,z1,y1',z1',rfl,H1⟩:=h1.op
 go_enter Tryz.func19,Tryz.ntmps19
 repeat apply wp_seq
 refine ls fun K HK=>?_
 go_wp2
 refine HK.out _ _ (then_n ?_)
 refine lp (G:=fun W=>Code.wp _ _ _ _ W) ?_
 intro W_0 bb_0 K0
 obtain ⟨f1_0,f1'_0⟩:=H1.out _ _ _ bb_0 K0
 clear K0
 refine lm (G:=fun a=>Code.wp _ _ _ a _) 32 ?_
 intro a_0 ha hN_0 hD_0
 have e1_0:=lj ha 1 w.heap.size
 repeat first | apply lk | apply ll
 refine ld bb_0 [lf w.heap.size 0,kZ 19 (zx),lg,lh,lh,lf w.heap.size 2,kZ 19 (zy),lg,lh,lh] [[],[0],[1],[2],[3],[],[5],[6],[7],[4,8]] [3,4,5,6,7,8,9,10,11,12] [(4,false)] [] ?_ ?_
 ·
   refine p01 e1_0 ?_; refine ak f1_0 ?_; refine aa rfl rfl (ae rfl rfl fun hC h1=>ti (z_right (rr h1))) ?_; refine p10 ?_; refine p10 ?_; refine p01 e1_0 ?_; refine ak f1'_0 ?_; refine aa rfl rfl (ae rfl rfl fun hC h1=>ti (z_right (rr h1))) ?_; refine p10 ?_; refine p20 ?_; exact ag rfl
 intro W_1 x a_1 hC hall ha hN_1 hD_1 bb_1
 have e1_1:=ab ha e1_0
 have f1'_1:=hC.at0 f1'_0
 have e12_1:=le ha hall 12 9
 repeat first | apply lk | apply ll
 refine wp_cond_false e12_1 ?_
 repeat first | apply lk | apply ll
 refine ld bb_1 [lf w.heap.size 2,kZ 19 (zy),lg,lh,lh,li,li,li,li,lh,lh,li,li,li,li,li,li,li,lh,lh] [[],[0],[1],[2],[3],[],[5],[6],[7],[4,8],[9],[],[11],[],[13],[12,14],[15],[16],[10,17],[18]] [13,14,15,16,17,18,19,20,21,22,23,24,25,26,27,28,29,30,31,2] [(4,false),(10,false)] [5,6,7,8,11,12,13,14,15,16,17] ?_ ?_
 ·
   refine p01 e1_1 ?_; refine ak f1'_1 ?_; refine aa rfl rfl (ae rfl rfl fun hC h1=>ti (isNone_zero (rr h1) hz)) ?_; refine p10 ?_; refine p10 ?_; refine ah rfl ?_; refine ah rfl ?_; refine ah rfl ?_; refine ah rfl ?_; refine p20 ?_; refine p10 ?_; refine ah rfl ?_; refine ah rfl ?_; refine ah rfl ?_; refine ah rfl ?_; refine ah rfl ?_; refine ah rfl ?_; refine ah rfl ?_; refine p20 ?_; refine p10 ?_; exact ag rfl
 intro W x a1 hC hall ha hN1 hD1 bb1
 have e1:=le ha hall 2 19
 repeat first | apply lk | apply ll
 refine wp_ret ?_
 repeat (refine then_r ?_)
 exact bi (t:=2) rfl hD1 e1 ⟨rfl,bb1⟩
theorem right_neg_19 {w : World} {v1 : Value} {zx zy : Int} (hz : zy ≠ 0) (hs : decide (zy < 0) = true) (h1 : Pr w v1 19 (zx) (zy)) :
   Calls Tryz.prog 19 #[v1] w (fun e w'=>e = .returned (.bool false) ∧ Below w.heap.size w w'):=by
 obtain ⟨y1,z1,y1',z1',rfl,H1⟩:=h1.op
 go_enter Tryz.func19,Tryz.ntmps19
 repeat apply wp_seq
 refine ls fun K HK=>?_
 go_wp2
 refine HK.out _ _ (then_n ?_)
 refine lp (G:=fun W=>Code.wp _ _ _ _ W) ?_
 intro W_0 bb_0 K0
 obtain ⟨f1_0,f1'_0⟩:=H1.out _ _ _ bb_0 K0
 clear K0
 refine lm (G:=fun a=>Code.wp _ _ _ a _) 32 ?_
 intro a_0 ha hN_0 hD_0
 have e1_0:=lj ha 1 w.heap.size
 repeat first | apply lk | apply ll
 refine ld bb_0 [lf w.heap.size 0,kZ 19 (zx),lg,lh,lh,lf w.heap.size 2,kZ 19 (zy),lg,lh,lh] [[],[0],[1],[2],[3],[],[5],[6],[7],[4,8]] [3,4,5,6,7,8,9,10,11,12] [(4,false)] [] ?_ ?_
 ·
   refine p01 e1_0 ?_; refine ak f1_0 ?_; refine aa rfl rfl (ae rfl rfl fun hC h1=>ti (z_right (rr h1))) ?_; refine p10 ?_; refine p10 ?_; refine p01 e1_0 ?_; refine ak f1'_0 ?_; refine aa rfl rfl (ae rfl rfl fun hC h1=>ti (z_right (rr h1))) ?_; refine p10 ?_; refine p20 ?_; exact ag rfl
 intro W_1 x a_1 hC hall ha hN_1 hD_1 bb_1
 have e1_1:=ab ha e1_0
 have f1'_1:=hC.at0 f1'_0
 have e12_1:=le ha hall 12 9
 repeat first | apply lk | apply ll
 refine wp_cond_false e12_1 ?_
 repeat first | apply lk | apply ll
 refine ld bb_1 [lf w.heap.size 2,kZ 19 (zy),lh,lg,lg,lf w.heap.size 2,lf w.heap.size 2,lg,lh,lh,lh,li,li,li,li,li,li,li,lh,lh] [[],[0],[1],[2],[3],[],[5],[6],[7],[4,8],[9],[],[11],[],[13],[12,14],[15],[16],[10,17],[18]] [13,14,15,16,17,18,19,20,21,22,23,24,25,26,27,28,29,30,31,2] [(4,true),(10,false)] [11,12,13,14,15,16,17] ?_ ?_
 ·
   refine p01 e1_1 ?_; refine ak f1'_1 ?_; refine aa rfl rfl (ae rfl rfl fun hC h1=>ti (isNone_z (rr h1) hz)) ?_; refine p10 ?_; refine p10 ?_; refine p01 e1_1 ?_; refine p10 ?_; refine aq (s:=true) f1'_1 hs ?_; refine p10 ?_; refine p20 ?_; refine p10 ?_; refine ah rfl ?_; refine ah rfl ?_; refine ah rfl ?_; refine ah rfl ?_; refine ah rfl ?_; refine ah rfl ?_; refine ah rfl ?_; refine p20 ?_; refine p10 ?_; exact ag rfl
 intro W x a1 hC hall ha hN1 hD1 bb1
 have e1:=le ha hall 2 19
 repeat first | apply lk | apply ll
 refine wp_ret ?_
 repeat (refine then_r ?_)
 exact bi (t:=2) rfl hD1 e1 ⟨rfl,bb1⟩
theorem right_gcd_19 {w : World} {v1 : Value} {zx zy : Int} (hz : zy ≠ 0) (hs : decide (zy < 0) = false) (hg : 1 < ((zgcd [(zx),(zy)] : Nat) : Int)) (h1 : Pr w v1 19 (zx) (zy)) :
   Calls Tryz.prog 19 #[v1] w (fun e w'=>e = .returned (.bool false) ∧ Below w.heap.size w w'):=by
 obtain ⟨y1,z1,y1',z1',rfl,H1⟩:=h1.op
 go_enter Tryz.func19,Tryz.ntmps19
 repeat apply wp_seq
 refine ls fun K HK=>?_
 go_wp2
 refine HK.out _ _ (then_n ?_)
 refine lp (G:=fun W=>Code.wp _ _ _ _ W) ?_
 intro W_0 bb_0 K0
 obtain ⟨f1_0,f1'_0⟩:=H1.out _ _ _ bb_0 K0
 clear K0
 refine lm (G:=fun a=>Code.wp _ _ _ a _) 32 ?_
 intro a_0 ha hN_0 hD_0
 have e1_0:=lj ha 1 w.heap.size
 repeat first | apply lk | apply ll
 refine ld bb_0 [lf w.heap.size 0,kZ 19 (zx),lg,lh,lh,lf w.heap.size 2,kZ 19 (zy),lg,lh,lh] [[],[0],[1],[2],[3],[],[5],[6],[7],[4,8]] [3,4,5,6,7,8,9,10,11,12] [(4,false)] [] ?_ ?_
 ·
   refine p01 e1_0 ?_; refine ak f1_0 ?_; refine aa rfl rfl (ae rfl rfl fun hC h1=>ti (z_right (rr h1))) ?_; refine p10 ?_; refine p10 ?_; refine p01 e1_0 ?_; refine ak f1'_0 ?_; refine aa rfl rfl (ae rfl rfl fun hC h1=>ti (z_right (rr h1))) ?_; refine p10 ?_; refine p20 ?_; exact ag rfl
 intro W_1 x a_1 hC hall ha hN_1 hD_1 bb_1
 have e1_1:=ab ha e1_0
 have f1_1:=hC.at0 f1_0
 have f1'_1:=hC.at0 f1'_0
 have e12_1:=le ha hall 12 9
 repeat first | apply lk | apply ll
 refine wp_cond_false e12_1 ?_
 repeat first | apply lk | apply ll
 refine ld bb_1 [lf w.heap.size 2,kZ 19 (zy),lh,lg,lg,lf w.heap.size 2,lf w.heap.size 2,lh,lg,lg,lg,lf w.heap.size 0,kZ 19 (zx),lf w.heap.size 2,kZ 19 (zy),kZs [(19,(zx)),(19,(zy))],kZ 19 (((zgcd [(zx),(zy)] : Nat) : Int)),lh,lh,lh] [[],[0],[1],[2],[3],[],[5],[6],[7],[4,8],[9],[],[11],[],[13],[12,14],[15],[16],[10,17],[18]] [13,14,15,16,17,18,19,20,21,22,23,24,25,26,27,28,29,30,31,2] [(4,true),(10,true)] [] ?_ ?_
 ·
   refine p01 e1_1 ?_; refine ak f1'_1 ?_; refine aa rfl rfl (ae rfl rfl fun hC h1=>ti (isNone_z (rr h1) hz)) ?_; refine p10 ?_; refine p10 ?_; refine p01 e1_1 ?_; refine p10 ?_; refine aq (s:=false) f1'_1 hs ?_; refine p10 ?_; refine p20 ?_; refine p10 ?_; refine p01 e1_1 ?_; refine ak f1_1 ?_; refine p01 e1_1 ?_; refine ak f1'_1 ?_; refine aa rfl rfl (fg asR asR rfl) ?_; refine aa rfl rfl (ae rfl rfl fun hC h1=>tz (l_gcd 19 (lz h1) (by kernel_rfl) (by decide) (by simp))) ?_; refine aa rfl rfl (ae rfl rfl fun hC h1=>ti (isOne_z0 hg ((rr h1).mono (by decide)))) ?_; refine p20 ?_; refine p10 ?_; exact ag rfl
 intro W x a1 hC hall ha hN1 hD1 bb1
 have e1:=le ha hall 2 19
 repeat first | apply lk | apply ll
 refine wp_ret ?_
 repeat (refine then_r ?_)
 exact bi (t:=2) rfl hD1 e1 ⟨rfl,bb1⟩
theorem right_no_19 {w : World} {v1 : Value} {zx zy : Int} (hno : ¬ (0 < zy ∧ ((zgcd [(zx),(zy)] : Nat) : Int) = 1)) (h1 : Pr w v1 19 (zx) (zy)) : Calls Tryz.prog 19 #[v1] w (fun e w'=>e = .returned (.bool false) ∧ Below w.heap.size w w'):=by
 rcases Int.lt_trichotomy zy 0 with h | h | h
 · exact right_neg_19 (Int.ne_of_lt h) (decide_eq_true h) h1
 · exact right_none_19 h h1
 · refine right_gcd_19 (Int.ne_of_gt h) (decide_eq_false (by omega)) ?_ h1; have:=jx h (x:=zx); have hn : ((zgcd [(zx),(zy)] : Nat) : Int) ≠ 1:=fun e=>hno ⟨h,e⟩; omega
theorem of_no_19 {w : World} {v1 : Value} {zx zy : Int} (hno : ¬ (0 < zy ∧ ((zgcd [(zx),(zy)] : Nat) : Int) = 1)) (h1 : Pr w v1 19 (zx) (zy)) :
   Calls Tryz.prog 62 #[v1] w (TellsP w 9 (0) (1)):=by
 obtain ⟨y1,z1,y1',z1',rfl,H1⟩:=h1.op
 go_enter Tryz.func62,Tryz.ntmps62
 repeat apply wp_seq
 refine ls fun K HK=>?_
 go_wp2
 refine HK.out _ _ (then_n ?_)
 refine lq (G:=fun W=>Code.wp _ _ _ _ W) ?_
 intro W_0 bb_0 K0 K1
 obtain ⟨f1_0,f1'_0⟩:=H1.out _ _ _ bb_0 K0
 have R_0:=kg K1
 clear K0 K1
 refine lm (G:=fun a=>Code.wp _ _ _ a _) 17 ?_
 intro a_0 ha hN_0 hD_0
 have e1_0:=lj ha 1 w.heap.size
 have e2_0:=lj ha 2 (w.heap.size + 1)
 repeat first | apply lk | apply ll
 refine ld bb_0 [kP 19 (zx) (zy),lh,lg] [[],[0],[1]] [3,4,5] [] [] ?_ ?_
 ·
   refine aa rfl rfl (cf f1_0 f1'_0 e1_0 rfl) ?_; refine aa rfl rfl (ae rfl rfl fun hC h1=>ti (right_no_19 hno (pm h1))) ?_; refine p10 ?_; exact ag rfl
 intro W_1 x a_1 hC hall ha hN_1 hD_1 bb_1
 have e2_1:=ab ha e2_0
 have R_1:=hC.holds R_0
 have e5_1:=le ha hall 5 2
 repeat first | apply lk | apply ll
 refine wp_cond_true e5_1 ?_
 repeat first | apply lk | apply ll
 refine lu bb_1 R_1 [kP 9 (0) (1),kRes (w.heap.size + 1) 9 (0) (1)] [[],[0]] [6,999] [] [] ?_ ?_
 ·
   refine aa rfl rfl (be [] rfl rfl fun hC=>tp none_9) ?_; refine aa rfl rfl (kt R_1 rfl e2_1 rfl rfl) ?_; exact ag rfl
 intro W x a1 hC hall ha hN1 hD1 bb1
 obtain ⟨cs,hg,hP⟩:=lr hall 1
 have e1:=ab (t:=2) ha e2_1
 repeat first | apply lk | apply ll
 refine wp_ret ?_
 repeat (refine then_r ?_)
 exact gr (t:=2) rfl hD1 e1 hg hP fun v hv=>⟨v,rfl,hv,bb1⟩
theorem Text_no_19 {w : World} {v1 : Value} {zx zy : Int} (hno : ¬ (0 < zy ∧ ((zgcd [(zx),(zy)] : Nat) : Int) = 1)) (HT : Hid (Tab w ∧ 2 ≤ w.heap.size)) (h1 : Pr w v1 19 (zx) (zy)) :
   Calls Tryz.prog 27 #[v1] w (fun e w'=>e = .returned (.string (ztext ((0 : Rat).num))) ∧ Below w.heap.size w w'):=by
 obtain ⟨y1,z1,y1',z1',rfl,H1⟩:=h1.op
 go_enter Tryz.func27,Tryz.ntmps27
 repeat apply wp_seq
 refine ls fun K HK=>?_
 go_wp2
 refine HK.out _ _ (then_n ?_)
 refine lp (G:=fun W=>Code.wp _ _ _ _ W) ?_
 intro W_0 bb_0 K0
 obtain ⟨f1_0,f1'_0⟩:=H1.out _ _ _ bb_0 K0
 clear K0
 refine lm (G:=fun a=>Code.wp _ _ _ a _) 6 ?_
 intro a_0 ha hN_0 hD_0
 have e1_0:=lj ha 1 w.heap.size
 repeat first | apply lk | apply ll
 refine ld bb_0 [kP 19 (zx) (zy),kP 9 (0) (1),kIs (.string (ztext ((0 : Rat).num))),kIs (.string (ztext ((0 : Rat).num)))] [[],[0],[1],[2]] [3,4,5,2] [] [] ?_ ?_
 ·
   refine aa rfl rfl (cf f1_0 f1'_0 e1_0 rfl) ?_; refine aa rfl rfl (ae rfl rfl fun hC h1=>tp (of_no_19 hno (pm h1))) ?_; refine aa rfl rfl (ae rfl rfl fun hC h1=>ti (decimal_9w (a:=(0 : Rat)) (Lib.hid ⟨HT.out.1.below (bb_0.trans hC.below) HT.out.2,Nat.le_trans HT.out.2 (bb_0.trans hC.below).size⟩) rfl (pe0 h1))) ?_; refine p10 ?_; exact ag rfl
 intro W x a1 hC hall ha hN1 hD1 bb1
 have e1:=le ha hall 2 3
 repeat first | apply lk | apply ll
 refine wp_ret ?_
 repeat (refine then_r ?_)
 exact bi (t:=2) rfl hD1 e1 ⟨rfl,bb1⟩
theorem numRight_no {w : World} {A : Option Addr} {c : Nat} {xs : List Nat} {b : Bool} (hr : Row w A (u32s xs)) (hd : small 4294967296 xs) (hl : xs.length ≤ 1000) (h : ¬ (right xs ∧ (xs = [] → b = false))) :
   Calls Tryz.prog 57 #[.agg #[.bool b,.slice A xs.length c]] w fun e w'=>e = .returned (.bool false) ∧ Below w.heap.size w w':=by
 have hR:=fun (W : World) (hW : Below w.heap.size w W)=>right_any (c:=c) (hr.below hW) hd (by omega)
 have HR:=Lib.hid hR
 clear hR hr hd hl
 by_cases h1 : right xs
 · have h2 : xs = [] ∧ b = true:=by
     refine Classical.byContradiction fun h3=>h ⟨h1,fun h4=>?_⟩
     cases b with
     | false=>rfl
     | true=>exact absurd ⟨h4,rfl⟩ h3
   obtain ⟨rfl,rfl⟩:=h2; have H1:=Lib.hid h1; clear h h1
   go_enter Tryz.func57,Tryz.ntmps57
   go_wp2_with fail
   refine (HR.out _ (bal (Below.refl _ _) _)).mono ?_; rintro e w1 ⟨he,rfl⟩
   obtain rfl : e = .returned (.bool true):=by
     rcases he with ⟨_,he⟩ | ⟨hn,_⟩
     · exact he
     · exact absurd H1.out hn
   clear he
   go_wp2
   go_ret
   exact ⟨rfl,bal (Below.refl _ _) _⟩
 · have H1:=Lib.hid h1; clear h h1
   go_enter Tryz.func57,Tryz.ntmps57
   go_wp2_with fail
   refine (HR.out _ (bal (Below.refl _ _) _)).mono ?_; rintro e w1 ⟨he,rfl⟩
   obtain rfl : e = .returned (.bool false):=by
     rcases he with ⟨hn,_⟩ | ⟨_,he⟩
     · exact absurd hn H1.out
     · exact he
   clear he
   go_wp2
   go_ret
   exact ⟨rfl,bal (Below.refl _ _) _⟩
def SaysB (w : World) (b : Bool) (e : Ending) (w' : World) : Prop:=e = .returned (.bool b) ∧ Below w.heap.size w w'
theorem rRight_no1 {w : World} {b1 b2 : Bool} {A1 A2 : Option Addr} {l1 c1 l2 c2 : Nat} (h : ∀ W,Below w.heap.size w W → Calls Tryz.prog 57 #[.agg #[.bool b1,.slice A1 l1 c1]] W (SaysB W false)) :
   Calls Tryz.prog 19 #[.agg #[.bool b1,.slice A1 l1 c1,.bool b2,.slice A2 l2 c2]] w (SaysB w false):=by
 have H:=Lib.hid h
 clear h
 go_enter Tryz.func19,Tryz.ntmps19
 go_wp2_with fail
 refine (H.out _ (bal (Below.refl _ _) _)).mono ?_
 rintro e w1 ⟨rfl,hb⟩
 have hb':=bstep (bal (Below.refl w.heap.size w) _) hb
 clear hb
 go_wp2
 go_ret
 exact ⟨rfl,hb'⟩
theorem rRight_no2 {w : World} {b1 b2 : Bool} {A1 A2 : Option Addr} {l1 c1 l2 c2 : Nat} (h1 : ∀ W,Below w.heap.size w W → Calls Tryz.prog 57 #[.agg #[.bool b1,.slice A1 l1 c1]] W (SaysB W true)) (h2 : ∀ W,Below w.heap.size w W → Calls Tryz.prog 57 #[.agg #[.bool b2,.slice A2 l2 c2]] W (SaysB W false)) :
   Calls Tryz.prog 19 #[.agg #[.bool b1,.slice A1 l1 c1,.bool b2,.slice A2 l2 c2]] w (SaysB w false):=by
 have H1:=Lib.hid h1
 have H2:=Lib.hid h2
 clear h1 h2
 go_enter Tryz.func19,Tryz.ntmps19
 go_wp2_with fail
 refine (H1.out _ (bal (Below.refl _ _) _)).mono ?_
 rintro e w1 ⟨rfl,hb⟩
 have K1:=(hb.block w.heap.size (by simp)).trans (heap_alloc_new w _)
 obtain ⟨m1,m2,m3,m4,_,_,_,_⟩:=bz K1
 have hb':=bstep (bal (Below.refl w.heap.size w) _) hb
 have HB:=Lib.hid hb'
 clear hb hb' K1
 go_wp2_with fail
 refine (H2.out _ HB.out).mono ?_
 rintro e w2 ⟨rfl,hb⟩
 have hb':=bstep HB.out hb
 clear hb
 go_wp2
 go_ret
 exact ⟨rfl,hb'⟩
theorem rat_of {x y : Int} (h : 0 < y ∧ ((zgcd [(x),(y)] : Nat) : Int) = 1) : ∃ a : Rat,a.num = x ∧ (a.den : Int) = y:=by
 obtain ⟨h1,h2⟩:=h
 rw [kp] at h2
 have h3 : Nat.gcd y.natAbs x.natAbs = 1:=by
   have : Int.gcd y x = 1:=by omega
   exact this
 exact ⟨⟨x,y.natAbs,by omega,by unfold Nat.Coprime; rw [Nat.gcd_comm]; exact h3⟩,rfl,by show (y.natAbs : Int) = y; omega⟩
def LensP (W : World) (g : Nat) (l : List (Nat × Nat)) : Prop:=∀ j q,l[j]? = some q → (∃ A c,W.cell? ⟨g,j * 4 + 1,none⟩ = some (.slice A q.1 c)) ∧ ∃ A c,W.cell? ⟨g,j * 4 + 3,none⟩ = some (.slice A q.2 c)
theorem LensP.below {W w' : World} {g : Nat} {l : List (Nat × Nat)} (h : LensP W g l) (hb : Below W.heap.size W w') : LensP w' g l:=fun j q hj=>by
 obtain ⟨⟨A,c,h1⟩,A',c',h2⟩:=h j q hj
 exact ⟨⟨A,c,(hb.cell (cell_lt h1)).trans h1⟩,A',c',(hb.cell (cell_lt h2)).trans h2⟩
def fewP (l : List (Nat × Nat)) : Bool:=l.all fun q=>decide (q.1 ≤ 8) && decide (q.2 ≤ 8)
def textQ (a : Rat) : ByteArray:=if a.den = 1 then ztext a.num else (ztext a.num ++ ⟨#[47]⟩) ++ ztext (a.den : Int)
theorem textQ_one {a : Rat} (h : a.den = 1) : textQ a = ztext a.num:=if_pos h
theorem textQ_more {a : Rat} (h : a.den ≠ 1) : textQ a = (ztext a.num ++ ⟨#[47]⟩) ++ ztext (a.den : Int):=if_neg h
def MaxL (w : World) : Prop:=∃ m : Int,w.cell? ⟨0,0,none⟩ = some (.int .i64 m)
theorem MaxL.below {W w' : World} (h : MaxL W) (hb : Below W.heap.size W w') : MaxL w':=by
 obtain ⟨m,h⟩:=h
 exact ⟨m,(hb.cell (cell_lt h)).trans h⟩
theorem called_at {P : Program} {F : FuncId} {v V : Value} {w : World} {c : PK} {S0 : Nat} {x : Nat → Value} (h : (kIs V).sem S0 x v w) (H : Calls P F #[V] w (Told c S0 x w)) : Calls P F #[v] w (Told c S0 x w):=by
 have e : v = V:=h
 subst e
 exact H
def CutIs (s A B : ByteArray) (b : Bool) : Prop:=∃ la lb,Lib.cut s.data.toList [47] = (la,lb,b) ∧ A = ⟨la.toArray⟩ ∧ B = ⟨lb.toArray⟩
theorem cut_told {s A B : ByteArray} {b : Bool} {w : World} {v : Value} (hc : CutIs s A B b) (hs : s.size ≤ 1000000) (h1 : v = .string s) (hm : MaxL w) : Calls Tryz.prog 118 #[v,.string ⟨#[47]⟩] w fun e w'=>e = .returned (.tuple #[.string A,.string B,.bool b]) ∧ Below w.heap.size w w':=by
 subst h1
 obtain ⟨m,hm⟩:=hm
 obtain ⟨la,lb,hc,rfl,rfl⟩:=hc
 refine (Tryz.strings_Cut s ⟨#[47]⟩ m w (by omega) hm).mono fun e w' h=>?_
 obtain ⟨h,n,hw⟩:=h
 rw [show (⟨#[47]⟩ : ByteArray).data.toList = [47] from rfl,hc] at h
 exact ⟨h,hw ▸ gf (Below.refl _ _) n⟩
section
variable {C : World → Prop} {S0 : Nat} {ks : List PK} {a0 : Act} {i : Nat} {N : Nat} {P : Program} {T : TypeId} {pos : String} {af : Array Edge} {gu : Option (Nat × Bool)} {ats : Array TypeId}
theorem st_callC {d F j1 t1 : Nat} {V : Value} {c1 c : PK}     (h1 : at_ ks j1 = c1) (hi : at_ ks i = c)
   (h : ∀ w x v1,C w → c1.sem S0 x v1 w → Calls P F #[v1,V] w (Told c S0 x w)) (hN : a0.tmps.size = N:=by assumption) (hd : decide (d < N) = true:=by kernel_rfl) (ht1 : decide (t1 < N) = true:=by kernel_rfl) (hF : enters P F = true:=by kernel_rfl) :
   PkStep P C S0 ks a0 i { dst:=some d,op:=.call { callee:=.value (.func F),args:=#[.tmp t1,.const V],argTypes:=ats },type:=T,pos:=pos,after:=af,guard:=gu } [(j1,some t1)] :=
 jo (ss:=[.dep j1,.val V]) hN (by simp [esIn]; exact of_decide_eq_true ht1) hd hF (by simp [src,slotAt]) fun w x hC hdeps=>by
   have g1:=hdeps (j1,some t1) (by simp); rw [h1] at g1; rw [hi]; exact h w x (x j1) hC g1
end
theorem parse_cut_no {w : World} {s A B t : ByteArray} {x y : Int} {okA okB : Bool} (hc : CutIs s A B true) (hs : s.size ≤ 1000000) (HM : Hid (∀ W, Below w.heap.size w W → MaxL W))
   (HA : Hid (∀ (W : World) {S0 : Nat} {x_ : Nat → Value},Calls Tryz.prog 56 #[.string A] W (Told (kZB 19 (x) okA) S0 x_ W))) (HB : Hid (∀ (W : World) {S0 : Nat} {x_ : Nat → Value},Calls Tryz.prog 56 #[.string (B)] W (Told (kZB 19 (y) okB) S0 x_ W)))
   (HX : Hid (∀ (W : World) (v : Value),Below w.heap.size w W → Pr W v 19 (x) (y) → Calls Tryz.prog 27 #[v] W fun e w'=>e = .returned (.string (t)) ∧ Below W.heap.size W w')) (hne : ((t).toList == (s).toList) = false) :
   Calls Tryz.prog 60 #[.string s] w fun e w'=>∃ v,e = .returned (.tuple #[v,.bool false]) ∧ Pr w' v 9 (0) (1) ∧ Below w.heap.size w w':=by
 have hm0:=HM.out w (Below.refl _ _)
 have hcell:=hm0
 go_enter Tryz.func60,Tryz.ntmps60
 repeat apply wp_seq
 refine ls fun K HK=>?_
 go_wp2
 refine HK.out _ _ (then_n ?_)
 refine lp (G:=fun W=>Code.wp _ _ _ _ W) ?_
 intro W_0 bb_0 K0
 have R_0:=kg K0
 clear K0 hcell
 refine lm (G:=fun a=>Code.wp _ _ _ a _) 35 ?_
 intro a_0 ha hN_0 hD_0
 have e0_0 : a_0.eval (.tmp 0) = .string s:=ln ha
 have e2_0:=lj ha 2 w.heap.size
 repeat first | apply lk | apply ll
 refine ld bb_0 [kIs (.string s),kIs (.tuple #[.string A,.string B,.bool true]),kIs (.tuple #[.string A,.string B,.bool true]),kIs (.string A),kIs (.string B),lg,kIs (.string A),kIs (.string B),lg] [[],[0],[1],[2],[2],[2],[3],[4],[5]] [9,10,8,11,12,13,4,5,6] [] [] ?_ ?_
 ·
   refine p01 e0_0 ?_; refine aa rfl rfl (st_callC rfl rfl fun w x v1 hC h1=>ti (cut_told hc hs h1 (HM.out _ (bb_0.trans hC.below)))) ?_; refine p10 ?_; refine p10 ?_; refine p10 ?_; refine p10 ?_; refine p10 ?_; refine p10 ?_; refine p10 ?_; exact ag rfl
 intro W_1 x_ a_1 hC hall ha hN_1 hD_1 bb_1
 have e0_1:=ab ha e0_0
 have e2_1:=ab ha e2_0
 have R_1:=hC.holds R_0
 have e4_1:=le ha hall 4 6
 have e5_1:=le ha hall 5 7
 have e6_1:=le ha hall 6 8
 repeat first | apply lk | apply ll
 refine ld bb_1 [lg,lh] [[],[0]] [14,15] [] [] ?_ ?_
 ·
   refine p01 e6_1 ?_; refine p10 ?_; exact ag rfl
 intro W_2 x_ a_2 hC hall ha hN_2 hD_2 bb_2
 have e0_2:=ab ha e0_1
 have e2_2:=ab ha e2_1
 have e4_2:=ab ha e4_1
 have e5_2:=ab ha e5_1
 have R_2:=hC.holds R_1
 have e15_2:=le ha hall 15 1
 refine wp_cond_false e15_2 ?_
 repeat first | apply lk | apply ll
 refine ld bb_2 [PK.fresh 4] [[]] [7] [] [] ?_ ?_
 · refine aa rfl rfl (ea rfl) ?_; exact ag rfl
 intro W_3 x_ a_3 hC hall ha hN_3 hD_3 bb_3
 have e0_3:=ab ha e0_2
 have e2_3:=ab ha e2_2
 have e4_3:=ab ha e4_2
 have e5_3:=ab ha e5_2
 have R_3:=hC.holds R_2
 obtain ⟨g7,cs,hx,hge,P_3,hsz⟩:=(show (PK.fresh 4).sem _ _ _ _ from hall 0 (of_decide_eq_true (by kernel_rfl)))
 obtain ⟨qa,qb,qc,qd,rfl⟩:=jh hsz
 have e7_3:=(an (t:=7) (i:=0) ha).trans hx
 have d7:=Nat.lt_of_lt_of_le R_2.lt hge
 clear hall hC ha hx hge hsz
 repeat first | apply lk | apply ll
 refine dm w.heap.size g7 P_3 (by omega) 6 [6] [kIs (.string A),kZB 19 (x) okA,kZB 19 (x) okA,kZ 19 (x),kIs (.bool okA),kIs (.pointer (some ⟨g7,0,none⟩)),kLo g7 19 (x) qc qd] [ [],[(0,some 17)],[(1,some 18)],[(2,some 16)],[(2,some 16)],[],[(5,some 21),(3,some 19)] ] [(0,some 17),(1,some 18),(2,some 16),(3,some 19),(4,some 20),(5,some 21),(6,none)] [] [] rfl bb_3.size ?_ ?_
 ·
   refine aj rfl rfl (br [] [(4,.string A)] (.string A) rfl (old1 e4_3)) ?_; refine aj rfl rfl (ae rfl rfl fun hC h1=>called_at h1 (HA.out _)) ?_; refine aj rfl rfl (cw rfl rfl) ?_; refine aj rfl rfl (jg rfl rfl ext_z) ?_; refine aj rfl rfl (jg rfl rfl ext_ok) ?_; refine aj rfl rfl (br [] [(7,.pointer (some ⟨g7,0,none⟩))] (.pointer (some ⟨g7,0,none⟩)) rfl (old1 e7_3)) ?_; refine cp rfl rfl rfl ?_ ?_
   · exact st_lo P_3 rfl rfl rfl
   exact fa rfl
 intro W_4 x_ hC hall
 refine then_n ?_
 obtain ⟨a_4,ha⟩ : ∃ a,a = putE x_ a_3 [(0,some 17),(1,some 18),(2,some 16),(3,some 19),(4,some 20),(5,some 21),(6,none)]:=⟨_,rfl⟩
 rw [← ha]
 have hN_4:=size_behind ha hN_3
 have hD_4:=defers_behind ha hD_3
 have bb_4:=bb_3.trans hC.below
 have e0_4:=ab ha e0_3
 have e2_4:=ab ha e2_3
 have e5_4:=ab ha e5_3
 have e7_4:=ab ha e7_3
 have R_4:=hC.holdsG (by simp only [List.mem_singleton]; omega) R_3
 obtain ⟨_,P_4,A5,l5,c5,rfl,Z_4⟩:=(show (kLo g7 19 (x) qc qd).sem _ _ _ _ from hall 6 (of_decide_eq_true (by kernel_rfl)))
 repeat first | apply lk | apply ll
 refine dm w.heap.size g7 P_4 (by omega) 6 [6] [kIs (.string B),kZB 19 (y) okB,kZB 19 (y) okB,kZ 19 (y),kIs (.bool okB),kIs (.pointer (some ⟨g7,2,none⟩)),kRes g7 19 (x) (y)] [ [],[(0,some 23)],[(1,some 24)],[(2,some 22)],[(2,some 22)],[],[(5,some 27),(3,some 25)] ] [(0,some 23),(1,some 24),(2,some 22),(3,some 25),(4,some 26),(5,some 27),(6,none)] [] [] rfl bb_4.size ?_ ?_
 ·
   refine aj rfl rfl (br [] [(5,.string B)] (.string B) rfl (old1 e5_4)) ?_; refine aj rfl rfl (ae rfl rfl fun hC h1=>called_at h1 (HB.out _)) ?_; refine aj rfl rfl (cw rfl rfl) ?_; refine aj rfl rfl (jg rfl rfl ext_z) ?_; refine aj rfl rfl (jg rfl rfl ext_ok) ?_; refine aj rfl rfl (br [] [(7,.pointer (some ⟨g7,0,none⟩))] (.pointer (some ⟨g7,2,none⟩)) rfl (old1 e7_4)) ?_; refine cp rfl rfl rfl ?_ ?_
   · exact st_hi P_4 Z_4 rfl rfl rfl
   exact fa rfl
 intro W_5 x_ hC hall
 refine then_n ?_
 obtain ⟨a_5,ha⟩ : ∃ a,a = putE x_ a_4 [(0,some 23),(1,some 24),(2,some 22),(3,some 25),(4,some 26),(5,some 27),(6,none)]:=⟨_,rfl⟩
 rw [← ha]
 have hN_5:=size_behind ha hN_4
 have hD_5:=defers_behind ha hD_4
 have bb_5:=bb_4.trans hC.below
 have e0_5:=ab ha e0_4
 have e2_5:=ab ha e2_4
 have e7_5:=ab ha e7_4
 have R_5:=hC.holdsG (by simp only [List.mem_singleton]; omega) R_4
 obtain ⟨f7_5,f7'_5⟩:=res_atP (lr hall 6)
 repeat first | apply lk | apply ll
 refine ld bb_5 [kP 19 (x) (y),kIs (.string (t)),kIs (.string s),lg] [[],[0],[],[1,2]] [28,29,30,31] [] [] ?_ ?_
 ·
   refine aa rfl rfl (cf f7_5 f7'_5 e7_5 rfl) ?_; refine aa rfl rfl (ae rfl rfl fun hC h1=>ti (HX.out _ _ (bb_5.trans hC.below) h1)) ?_; refine p01 e0_5 ?_; refine aa rfl rfl (ke [.string (t),.string s] [] (.bool (!((t).toList == (s).toList))) (.bool true) (congrArg Value.bool (by rw [hne]; rfl)) rfl old0) ?_; exact ag rfl
 intro W_6 x_ a_6 hC hall ha hN_6 hD_6 bb_6
 have e2_6:=ab ha e2_5
 have R_6:=hC.holds R_5
 have e31_6:=le ha hall 31 3
 refine wp_cond_true e31_6 ?_
 repeat first | apply lk | apply ll
 refine lu bb_6 R_6 [kP 9 (0) (1),kP 9 (0) (1),kRes (w.heap.size) 9 (0) (1),lh] [[],[0],[1],[]] [32,33,999,3] [] [] ?_ ?_
 ·
   refine aa rfl rfl (be [] rfl rfl fun hC=>tp none_9) ?_; refine aa rfl rfl (st_fieldF rfl rfl) ?_; refine aa rfl rfl (eu R_6 rfl e2_6 rfl rfl) ?_; refine p00 ?_; exact ag rfl
 intro W x_ a1 hC hall ha hN1 hD1 bb1
 obtain ⟨cs,hg,hP⟩:=lr hall 2
 have e1:=ab (t:=2) ha e2_6
 have e2:=le ha hall 3 3
 repeat first | apply lk | apply ll
 refine wp_ret ?_
 repeat (refine then_r ?_)
 exact im (t:=2) (u:=3) rfl hD1 e1 e2 hg hP fun v hv=>⟨v,rfl,hv,bb1⟩
def kPT (k : Nat) (x y : Int) (V : Value) : PK:=.p (fun v w=>∃ a,v = .tuple #[a,V] ∧ Pr w a k x y) (fun _ _ _ ⟨a,h1,h2⟩ hb=>⟨a,h1,h2.below hb⟩) (fun _ _ _ _ ⟨a,h1,h2⟩ hs=>⟨a,h1,h2.stored hs⟩)
theorem tpt {P : Program} {F : FuncId} {vs : Array Value} {w : World} {S0 : Nat} {x : Nat → Value} {k : Nat} {z1 z2 : Int} {V : Value} (h : Calls P F vs w fun e w'=>∃ v,e = .returned (.tuple #[v,V]) ∧ Pr w' v k z1 z2 ∧ Below w.heap.size w w') : Calls P F vs w (Told (kPT k z1 z2 V) S0 x w) :=
 h.mono fun _ _ ⟨v,e,h1,h2⟩=>⟨_,e,h2,v,rfl,h1⟩
theorem ext_p {S0 : Nat} {k : Nat} {z1 z2 : Int} {V : Value} : ∀ w x v,(kPT k z1 z2 V).sem S0 x v w → ∃ vs u,v = .tuple vs ∧ vs[0]? = some u ∧ (kP k z1 z2).move S0 x u w w ∧ (kP k z1 z2).sem S0 x u w:=fun _ _ _ ⟨a,h1,h2⟩=>⟨_,a,h1,rfl,Below.refl _ _,h2⟩
theorem ext_v {S0 : Nat} {k : Nat} {z1 z2 : Int} {V : Value} : ∀ w x v,(kPT k z1 z2 V).sem S0 x v w → ∃ vs u,v = .tuple vs ∧ vs[1]? = some u ∧ (kIs V).move S0 x u w w ∧ (kIs V).sem S0 x u w:=fun _ _ _ ⟨_,h1,_⟩=>⟨_,_,h1,rfl,Below.refl _ _,rfl⟩
theorem Text_9 {w : World} {v1 : Value} {a : Rat} (HT : Hid (Tab w ∧ 2 ≤ w.heap.size)) (h1 : Pr w v1 9 a.num (a.den : Int)) : Calls Tryz.prog 27 #[v1] w (fun e w'=>e = .returned (.string (textQ a)) ∧ Below w.heap.size w w'):=by
 by_cases h : a.den = 1
 · rw [textQ_one h]; exact Text_9w HT h h1
 · rw [textQ_more h]; exact Text_9b HT h h1
theorem parse_z (z : Int) (hz : z.natAbs < 1000000000 ^ 19) (W : World) {S0 : Nat} {x : Nat → Value} : Calls Tryz.prog 56 #[.string (ztext z)] W (Told (kZB 19 z true) S0 x W):=parse_told 19 rfl hz (by decide)
section
variable {G : List Nat} {S0 B : Nat} {ks : List PK} {a0 : Act} {i : Nat} {N : Nat} {W0 : World} {T : TypeId} {pos : String} {af : Array Edge} {gu : Option (Nat × Bool)}
end
def awQ : Rat:=Rat.divInt 6 (-4)
theorem awQ_num : awQ.num = -3:=by decide +kernel
theorem awQ_den : awQ.den = 2:=by decide +kernel
theorem awQ_text : (textQ awQ).toList = (⟨#[45,51,47,50]⟩ : ByteArray).toList:=by
 rw [textQ_more (by rw [awQ_den]; decide),awQ_num,awQ_den]; decide +kernel
theorem ztext_six : ztext 6 = ⟨#[54]⟩:=by decide +kernel
theorem ztext_four : ztext 4 = ⟨#[52]⟩:=by decide +kernel
theorem parse_six {w : World} (HT : Hid (Tab w ∧ 2 ≤ w.heap.size)) (hm : MaxL w) :
   Calls Tryz.prog 60 #[.string ⟨#[54,47,52]⟩] w fun e w'=>∃ v,e = .returned (.tuple #[v,.bool false]) ∧ Pr w' v 9 0 1 ∧ Below w.heap.size w w':=by
 have HM : Hid (∀ W,Below w.heap.size w W → MaxL W):=Lib.hid fun W hW=>hm.below hW
 have hno : ¬ (0 < (4 : Int) ∧ ((zgcd [((6 : Int)),((4 : Int))] : Nat) : Int) = 1):=by decide
 have HX : Hid (∀ (W : World) (v : Value),Below w.heap.size w W → Pr W v 19 6 4 → Calls Tryz.prog 27 #[v] W fun e w'=>e = .returned (.string (ztext ((0 : Rat).num))) ∧ Below W.heap.size W w') :=
   Lib.hid fun W v hW hv=>Text_no_19 hno (Lib.hid ⟨HT.out.1.below hW HT.out.2,Nat.le_trans HT.out.2 hW.size⟩) hv
 have HA : Hid (∀ (W : World) {S0 : Nat} {x : Nat → Value},Calls Tryz.prog 56 #[.string ⟨#[54]⟩] W (Told (kZB 19 6 true) S0 x W)):=Lib.hid fun W {S0} {x}=>ztext_six ▸ parse_z 6 (by decide) W
 have HB : Hid (∀ (W : World) {S0 : Nat} {x : Nat → Value},Calls Tryz.prog 56 #[.string ⟨#[52]⟩] W (Told (kZB 19 4 true) S0 x W)):=Lib.hid fun W {S0} {x}=>ztext_four ▸ parse_z 4 (by decide) W
 exact parse_cut_no (s:=⟨#[54,47,52]⟩) (A:=⟨#[54]⟩) (B:=⟨#[52]⟩) ⟨[54],[52],by decide +kernel,rfl,rfl⟩ (by decide) HM HA HB HX (by decide +kernel)
theorem awQ_floor : zq awQ.num (awQ.den : Int) = -2:=by rw [awQ_num,awQ_den]; decide +kernel
theorem told_of6 {w : World} {v1 v2 : Value} (h1 : Zr w v1 1 (6 : Int)) (h2 : Zr w v2 1 (-4 : Int)) : Calls Tryz.prog 14 #[v1,v2] w (fun e w'=>∃ v,e = .returned (.tuple #[v,.int .i64 (0)]) ∧ Pr w' v 9 (awQ.num) ((awQ.den : Int)) ∧ Below w.heap.size w w'):=Of_9 (by decide) (h1.mono (by decide)) (h2.mono (by decide))
def Zc (W : World) (v : Value) (k : Nat) (z : Int) : Prop:=∃ (b : Bool) (A : Option Addr) (c : Nat) (xs : List Nat),v = .agg #[.bool b,.slice A xs.length c] ∧ Row W A (u32s xs) ∧ small 4294967296 xs ∧ xs.length ≤ 1100 ∧ val xs < 1000000000 ^ k ∧ zOf (val xs) b = z
theorem Zc.below {W w' : World} {v : Value} {k : Nat} {z : Int} (h : Zc W v k z) (hb : Below W.heap.size W w') : Zc w' v k z:=by
 obtain ⟨b,A,c,xs,h1,h2,h3⟩:=h
 exact ⟨b,A,c,xs,h1,h2.below hb,h3⟩
theorem zOf_natAbs (z : Int) : zOf z.natAbs (decide (z < 0)) = z:=by
 unfold zOf
 by_cases h : z < 0
 · rw [decide_eq_true h,if_pos rfl]; omega
 · rw [decide_eq_false h,if_neg (by decide)]; omega
theorem Zr.zc {W : World} {v : Value} {k : Nat} {z : Int} (h : Zr W v k z) (hk : k ≤ 1100) : Zc W v k z:=by
 obtain ⟨A,l,c,rfl,h1,h2⟩:=h
 obtain ⟨xs,rfl,hr,hx,hv,hl⟩:=fw h1 h2
 exact ⟨_,A,c,xs,rfl,hr,fun d hd=>Nat.lt_trans (hx.1 d hd) (by decide),Nat.le_trans hl hk,by rw [hv]; exact h2,by rw [hv,zOf_natAbs]⟩
theorem r2_norm {w : World} {v : Value} {k : Nat} {z : Int} (h : Zc w v k z) (hk : k ≤ 2000) : Calls Tryz.prog 101 #[v] w (TellsZ w k z):=by
 obtain ⟨b,A,c,xs,rfl,hr,hs,hl,hv,rfl⟩:=h
 have hof:=fun (W : World) (hW : Below w.heap.size w W)=>ref2of_any (c:=c) b (hr.below hW) hs hl hv hk
 have HOF:=Lib.hid hof
 obtain ⟨n,hn⟩ : ∃ n,n = xs.length:=⟨_,rfl⟩
 obtain ⟨m,hm⟩ : ∃ m,m = val xs:=⟨_,rfl⟩
 rw [← hn] at HOF ⊢
 rw [← hm] at HOF ⊢
 have HM:=Lib.hid (show m < 1000000000 ^ k from hm ▸ hv)
 have hfin : ∀ (e : Ending) (w' : World),RetInt w m (sgn m b) e w' → TellsZ w k (zOf m b) e w':=fun e w' h=>ep (by rw [bg]; exact HM.out) (by rw [bg,dj]; exact h)
 have HFIN:=Lib.hid hfin
 clear hof hr hs hl hv hn hm hfin
 refine Calls.mono ?_ HFIN.out
 obtain ⟨s,hs⟩ : ∃ s,s = sgn m b:=⟨_,rfl⟩
 rw [← hs] at HOF ⊢
 clear hs HFIN HM
 go_enter Tryz.func101,Tryz.ntmps101
 go_wp2_with fail
 refine (HOF.out _ (bal (bal (Below.refl _ _) _) _)).mono ?_
 rintro e w1 ⟨A1,k1,c1,rfl,h1,h2,hb⟩
 have K1:=(hb.block (w.heap.size + 1) (by simp)).trans (new_at (by simp))
 obtain ⟨m1,m2,m3,m4⟩:=cell_of_two K1
 have hb1:=bstep (bal (bal (Below.refl w.heap.size w) _) _) hb
 have hts:=fun (b' : Bool)=>bk (a':=.bool b') (b':=.slice A1 k1 c1) K1 (fun d h=>by cases h) (fun d h=>by cases h) h1
 have HTS:=Lib.hid hts
 have H2:=Lib.hid h2
 clear hts hb h1 h2 K1
 go_wp2
 obtain ⟨n1,n2,n3⟩:=HTS.out s
 refine bodyPost_ret (v:=.agg #[.bool s,.slice A1 k1 c1]) (by simp [results,Tryz.results101,go_sem,n1,n2]) rfl ?_
 exact ⟨A1,k1,c1,rfl,n3,H2.out,(hb1.setCell (by simp) _).setCell (by simp) _⟩
theorem r2_right {w : World} {v : Value} {k : Nat} {z : Int} (h : Zr w v k z) : Calls Tryz.prog 70 #[v] w fun e w'=>e = .returned (.bool true) ∧ Below w.heap.size w w':=by
 obtain ⟨A,l,c,rfl,h1,h2⟩:=h
 obtain ⟨hlen,_⟩:=rr_len h1
 obtain ⟨xs,rfl,hr,hx,hv,hl⟩:=fw h1 h2
 have hrt:=fun (W : World) (hW : Below w.heap.size w W)=>(refRight (c:=c) (hr.below hW) (fun d hd=>Nat.lt_trans (hx.1 d hd) (by decide)) (by omega)).mono fun e w' h=>(show e = .returned (.bool true) ∧ W = w' from ⟨h.1.elim (fun a=>a.2) (fun a=>absurd hx a.1),h.2⟩)
 have HRT:=Lib.hid hrt
 obtain ⟨n,hn⟩ : ∃ n,n = xs.length:=⟨_,rfl⟩
 rw [← hn] at HRT ⊢
 obtain ⟨s,hs⟩ : ∃ s,s = decide (z < 0):=⟨_,rfl⟩
 rw [← hs]
 have hpos : s = true → decide ((0 : Int) < (n : Int)) = true:=fun e=>decide_eq_true (by
   rw [hs,decide_eq_true_eq] at e; have : xs.length ≠ 0:=fun h0=>by have:=hlen.1 h0; omega
   omega)
 have HPOS:=Lib.hid hpos
 clear hrt hr hx hv hl hn hs hlen h1 h2 hpos
 cases s
 · clear HPOS
   go_enter Tryz.func70,Tryz.ntmps70
   go_wp2_with fail
   refine (HRT.out _ (bal (Below.refl _ _) _)).mono ?_; rintro e w1 ⟨rfl,rfl⟩
   go_wp2
   go_ret
   exact ⟨rfl,bal (Below.refl _ _) _⟩
 · have hp:=HPOS.out rfl; clear HPOS
   go_enter Tryz.func70,Tryz.ntmps70
   go_wp2_with fail
   refine (HRT.out _ (bal (Below.refl _ _) _)).mono ?_; rintro e w1 ⟨rfl,rfl⟩
   go_wp2
   go_ret
   exact ⟨by have h0 : 0 < n := by simpa using hp
             simp [h0],bal (Below.refl _ _) _⟩
theorem vr_div {w : World} {A1 A2 : Option Addr} {k1 c1 k2 c2 n1 n2 N : Nat} (h1 : Rr w (.slice A1 k1 c1) n1) (h2 : Rr w (.slice A2 k2 c2) n2) (hn1 : n1 < 1000000000 ^ N) (hn2 : n2 < 1000000000 ^ N) (hN : N ≤ 1100) (h0 : 0 < n2) :
   Calls Tryz.prog 110 #[.slice A1 k1 c1,.slice A2 k2 c2] w (RetD w (n1 / n2) (n1 % n2)):=by
 obtain ⟨xs,rfl,r1,x1,rfl,l1⟩:=fw h1 hn1
 obtain ⟨ys,rfl,r2,x2,rfl,l2⟩:=fw h2 hn2
 exact refDiv_yes r1 r2 (fun d hd=>Nat.lt_trans (x1.1 d hd) (by decide)) (fun d hd=>Nat.lt_trans (x2.1 d hd) (by decide)) (by omega) (by omega) hn1 hn2 (by omega) h0
def IntsC (W : World) (g : Nat) (L : List (Nat × Bool)) : Prop:=∀ j p,L[j]? = some p → ∃ A c xs,W.cell? ⟨g,j * 2,none⟩ = some (.bool p.2) ∧ W.cell? ⟨g,j * 2 + 1,none⟩ = some (.slice A (List.length xs) c) ∧ Row W A (u32s xs) ∧ small 4294967296 xs ∧ xs.length ≤ 1100 ∧ val xs = p.1
theorem IntsC.below {W w' : World} {g : Nat} {L : List (Nat × Bool)} (h : IntsC W g L) (hb : Below W.heap.size W w') : IntsC w' g L:=fun j p hp=>by
 obtain ⟨A,c,xs,h1,h2,h3,h4⟩:=h j p hp
 exact ⟨A,c,xs,(hb.cell (cell_lt h1)).trans h1,(hb.cell (cell_lt h2)).trans h2,h3.below hb,h4⟩
theorem ref2Gcd_any {w : World} {g0 c0 N : Nat} {L : List (Nat × Bool)} (hL : IntsC w g0 L) (hLn : ∀ p ∈ L,p.1 < 1000000000 ^ N) (hN : N ≤ 1100) (hlen : L.length ≤ 100000) :
   Calls Tryz.prog 52 #[.slice (some ⟨g0,0,none⟩) L.length c0] w (RetInt w (gcds L 0) false):=by
 have HL:=Lib.hid hL
 have h0 : 0 < 1000000000 ^ N:=Nat.pow_pos (by decide)
 have HB:=Lib.hid (show (∀ p ∈ L,p.1 < 1000000000 ^ N) ∧ N ≤ 1100 ∧ 0 < 1000000000 ^ N from ⟨hLn,hN,h0⟩)
 obtain ⟨l,hl⟩ : ∃ l,l = L.length:=⟨_,rfl⟩
 rw [← hl] at hlen ⊢
 have HLL:=Lib.hid hl
 obtain ⟨G,hG⟩ : ∃ G,G = gcds L 0:=⟨_,rfl⟩
 rw [← hG]
 have HG:=Lib.hid hG
 clear hL hLn hN h0 hl hG
 go_enter Tryz.func52,Tryz.ntmps52
 go_wp2_with fail
 go_loopw [3,4] (fun gv iv wr=>∃ (k' : Nat) (A' : Option Addr) (j d : Nat),k' ≤ l ∧ iv = .int .i64 k' ∧ gv = .slice A' j d ∧ Hid (Rr wr (.slice A' j d) (gcds (L.take k') 0)) ∧ Below w.heap.size w wr ∧ Hid (wr.heap[w.heap.size]? = some (Obj.cells #[Value.bool false,Value.slice none 0 0] 24 (0,0)))) (fun _ iv _=>l - (intOf iv).toNat)
 case atStart=>exact ⟨0,none,0,0,Nat.zero_le _,rfl,rfl,rr_nil _,bal (Below.refl _ _) _,new_at rfl⟩
 case round =>
   obtain ⟨k',A',j,d,hk,rfl,rfl,HR1,hb1,HK1⟩:=hrel
   by_cases hlt2 : k' < l
   · have hkL : k' < L.length:=by rw [← HLL.out]; exact hlt2
     obtain ⟨⟨n1,b1⟩,hp⟩ : ∃ p,p = L[k']:=⟨_,rfl⟩
     obtain ⟨B,e,xs,hc1,hc2,hr,hs,hx,hv⟩:=(HL.out.below hb1) k' (n1,b1) (by rw [List.getElem?_eq_getElem hkL,hp]); have hv : val xs = n1:=hv; have hGS:=gcds_succ (n:=0) hkL; rw [← hp] at hGS; have HGS:=Lib.hid hGS; have HN1:=Lib.hid (HB.out.1 _ (hp ▸ List.getElem_mem hkL : (n1,b1) ∈ L)); have htr:=refTrim (c:=e) hr hs hx (k:=N) (by rw [hv]; exact HN1.out) (by have:=HB.out.2.1; omega); rw [hv] at htr
     obtain ⟨m,hm⟩ : ∃ m,m = xs.length:=⟨_,rfl⟩
     rw [← hm] at hc2 htr; have HTR:=Lib.hid htr; have hltg:=gcds_lt (L:=L.take k') HB.out.2.2 fun p hp=>HB.out.1 p (List.mem_of_mem_take hp); have HLG:=Lib.hid hltg; clear hr hs hx hv hm htr hGS hp hc1 hltg
     go_wp2_with fail
     refine HTR.out.mono ?_; rintro e w2 ⟨A3,k3,c3,rfl,hr3,hb3⟩; have hb3:=bstep hb1 hb3; have HR1:=Lib.hid (HR1.out.below (show Below wr.heap.size wr w2 by assumption)); have HK1:=Lib.hid (((show Below wr.heap.size wr w2 by assumption).block w.heap.size (lt_block HK1.out)).trans HK1.out); have HR3:=Lib.hid hr3
     go_wp2_with fail
     go_loopw [3,5] (fun gv xv wr=>∃ (A : Option Addr) (k c : Nat) (B : Option Addr) (j d a b : Nat),gv = .slice A k c ∧ xv = .slice B j d ∧ Hid (Rr wr (.slice A k c) a) ∧ Hid (Rr wr (.slice B j d) b) ∧ Hid (Nat.gcd a b = gcds (L.take (k' + 1)) 0 ∧ a < 1000000000 ^ N ∧ b < 1000000000 ^ N) ∧ Below w.heap.size w wr ∧ Hid (wr.heap[w.heap.size]? = some (Obj.cells #[Value.bool false,Value.slice none 0 0] 24 (0,0)))) (fun _ xv wr=>valOf wr xv)
     case atStart=>exact ⟨_,_,_,_,_,_,_,n1,rfl,rfl,HR1,HR3,⟨by rw [HGS.out,Nat.gcd_comm],HLG.out,HN1.out⟩,hb3,HK1⟩
     case round =>
       obtain ⟨A,k,c,B,j,d,a,b,rfl,rfl,HA,HBB,HGC,hb,HK⟩:=hrel; have hj:=(rr_len HBB.out).1
       by_cases h0 : b = 0
       · obtain rfl : j = 0:=hj.2 h0; have hG : a = gcds (L.take (k' + 1)) 0:=by rw [← HGC.out.1,h0,Nat.gcd_zero_right]
         have HGG:=Lib.hid hG; clear hj h0 hG
         go_wp2_with fail
         go_roundw
         case rel=>exact ⟨k' + 1,_,_,_,by omega,by go_num,rfl,by show Rr _ _ _; rw [← HGG.out]; exact HA.out,hb,HK⟩
         case measure=>simp [intOf]; omega
       · have hk0 : 0 < j:=by have : j ≠ 0:=fun e=>h0 (hj.1 e); omega
         have hdv:=vr_div HA.out HBB.out HGC.out.2.1 HGC.out.2.2 HB.out.2.1 (by omega); have HDV:=Lib.hid hdv; have H0:=Lib.hid h0; clear hj h0 hdv
         go_wp2_with fail
         refine HDV.out.mono ?_; rintro e w3 ⟨Aq,kq,cq,Ar,kr,cr,rfl,_,hrr,hb4⟩; have HK4:=Lib.hid ((hb4.block w.heap.size (lt_block HK.out)).trans HK.out); have HBB2:=Lib.hid (HBB.out.below hb4); have HR:=Lib.hid hrr; have hb5:=bstep hb hb4; clear hb4 hrr HDV
         go_wp2_with fail
         go_roundw
         case rel =>
           refine ⟨_,_,_,_,_,_,b,a % b,rfl,rfl,HBB2,HR,⟨?_,HGC.out.2.2,?_⟩,hb5,HK4⟩
           · rw [← HGC.out.1,Nat.gcd_comm a b,Nat.gcd_rec b a,Nat.gcd_comm]
           · exact Nat.lt_of_lt_of_le (Nat.mod_lt _ (Nat.pos_of_ne_zero H0.out)) (Nat.le_of_lt HGC.out.2.2)
         case measure =>
           rw [kd HBB.out,kd HR.out]; exact Nat.mod_lt _ (Nat.pos_of_ne_zero H0.out)
   · have hk' : k' = l:=by omega
     obtain ⟨ys,rfl,r1,x1,v1,l1⟩:=fw HR1.out (gcds_lt (L:=L.take k') HB.out.2.2 fun p hp=>HB.out.1 p (List.mem_of_mem_take hp)); have e1 : gcds (L.take k') 0 = G:=by rw [HG.out,hk',HLL.out,List.take_length]
     rw [e1] at v1; have hof:=fun (W : World) (hW : Below wr.heap.size wr W)=>ref2of_any (c:=d) (N:=N) false (r1.below hW) (fun d hd=>Nat.lt_trans (x1.1 d hd) (by decide)) (by have:=HB.out.2.1; omega) (by rw [v1,HG.out]; exact gcds_lt HB.out.2.2 HB.out.1) (by have:=HB.out.2.1; omega); rw [v1] at hof; have HOF:=Lib.hid hof
     obtain ⟨n,hn⟩ : ∃ n,n = ys.length:=⟨_,rfl⟩
     rw [← hn] at HOF ⊢; have hlt3:=lt_block HK1.out; clear hof r1 x1 v1 l1 hn hk' e1 HR1
     go_wp2_with fail
     refine (HOF.out _ (Below.refl _ _)).mono ?_; rintro e w1 ⟨A1,k1,c1,rfl,h1,h2,hb⟩; have K1:=(hb.block w.heap.size hlt3).trans HK1.out; obtain ⟨m1,m2,m3,m4⟩:=cell_of_two K1; have hb2:=bstep hb1 hb; obtain ⟨n1,n2,n3⟩:=bk (a':=.bool (sgn G false)) (b':=.slice A1 k1 c1) K1 (fun d h=>by cases h) (fun d h=>by cases h) h1; clear hb h1 K1
     go_wp2
     refine bodyPost_ret (v:=.agg #[.bool (sgn G false),.slice A1 k1 c1]) (by simp [results,Tryz.results52,go_sem,n1,n2]) rfl ?_; exact ⟨A1,k1,c1,by simp [sgn],n3,fun _=>rfl,(hb2.setCell (Nat.le_refl _) _).setCell (Nat.le_refl _) _⟩
theorem ints_of_zrs {W : World} {g : Nat} {l : List (Nat × Int)} (h : ZRs W g l) (hk : ∀ q ∈ l,q.1 ≤ 1100) : IntsC W g (l.map fun q=>(q.2.natAbs,decide (q.2 < 0))):=fun j p hp=>by
 rw [List.getElem?_map] at hp
 obtain ⟨q,hq,rfl⟩:=Option.map_eq_some_iff.1 hp
 obtain ⟨A,n,c,h1,h2,A',n',c',e,h3,h4⟩:=h j q hq
 injection e with e; injection e with e; injection e with _ e; injection e with e _
 injection e with e1 e2 e3
 subst e1; subst e2; subst e3
 obtain ⟨xs,rfl,hr,hx,hv,hl⟩:=fw h3 h4
 exact ⟨A,c,xs,h1,h2,hr,fun d hd=>Nat.lt_trans (hx.1 d hd) (by decide),Nat.le_trans hl (hk q (List.mem_of_getElem? hq)),hv⟩
theorem r2_gcd {w : World} {v : Value} (k : Nat) {l : List (Nat × Int)} {S0 : Nat} {x : Nat → Value} (h : (kZRs l).sem S0 x v w) (hk : (l.all fun q=>decide (q.1 ≤ k)) = true) (hk2 : k ≤ 1100) (hl : l.length ≤ 100000) : Calls Tryz.prog 52 #[v] w (TellsZ w k (zgcd (l.map (·.2)) : Nat)):=by
 obtain ⟨g,rfl,_,_,hz⟩:=h
 have hk' : ∀ q ∈ l,q.1 ≤ k:=fun q hq=>of_decide_eq_true (List.all_eq_true.1 hk q hq)
 have hb : ∀ q ∈ l,q.2.natAbs < 1000000000 ^ k:=fun q hq=>by
   obtain ⟨j,hj⟩:=List.getElem?_of_mem hq; obtain ⟨_,_,_,_,_,hr⟩:=hz j q hj; exact Nat.lt_of_lt_of_le hr.lt (pow_le (hk' q hq))
 have hL:=ints_of_zrs hz fun q hq=>Nat.le_trans (hk' q hq) hk2
 have hLn : ∀ p ∈ l.map (fun q=>(q.2.natAbs,decide (q.2 < 0))),p.1 < 1000000000 ^ k:=fun p hp=>by
   obtain ⟨q,hq,rfl⟩:=List.mem_map.1 hp; exact hb q hq
 have hg:=ref2Gcd_any (c0:=l.length) hL hLn hk2 (by rw [List.length_map]; exact hl)
 rw [List.length_map] at hg
 have e : gcds (l.map fun q=>(q.2.natAbs,decide (q.2 < 0))) 0 = zgcd (l.map (·.2)):=by
   rw [gcds_map,List.map_map]; congr 1; exact List.map_congr_left fun q _=>zOf_natAbs q.2
 have hlt : zgcd (l.map (·.2)) < 1000000000 ^ k:=by
   rw [← e]; exact gcds_lt (Nat.pow_pos (by decide)) hLn
 rw [e] at hg
 exact hg.mono fun _ _ h=>tellsZ_nat hlt h
theorem vr_cmp {w : World} {v1 v2 : Value} {n1 n2 N : Nat} (h1 : Rr w v1 n1) (h2 : Rr w v2 n2) (hn1 : n1 < 1000000000 ^ N) (hn2 : n2 < 1000000000 ^ N) (hN : N ≤ 1100) :
   Calls Tryz.prog 121 #[v1,v2] w fun e w'=>e = .returned (.int .i64 (ordI (n1 : Int) (n2 : Int))) ∧ Below w.heap.size w w':=by
 obtain ⟨A1,k1,c1,rfl⟩:=h1.shape
 obtain ⟨A2,k2,c2,rfl⟩:=h2.shape
 obtain ⟨xs,rfl,r1,x1,rfl,l1⟩:=fw h1 hn1
 obtain ⟨ys,rfl,r2,x2,rfl,l2⟩:=fw h2 hn2
 exact refCmp r1 r2 (fun d hd=>Nat.lt_trans (x1.1 d hd) (by decide)) (fun d hd=>Nat.lt_trans (x2.1 d hd) (by decide)) (by omega) (by omega) hn1 (by omega)
theorem gt {id : Nat} {Q : Exit → Act → World → Prop} {a : Act} {w : World} (h : Q .ret a w) : Exit.inBlock id Q .ret a w:=h
def kRow (z : Int) : PK:=.p (fun v w=>Rr w v z.natAbs) (fun _ _ _ h hb=>h.below hb) (fun _ _ _ _ h hs=>hs.rr h)
theorem run_loadRow {w : World} {g o : Nat} {A : Option Addr} {l c : Nat} (h0 : w.cell? ⟨g,o,none⟩ = some (.slice A l c)) : (Instr.loadAt 22 (.pointer (some ⟨g,o,none⟩))).run Tryz.prog w = .ok (.slice A l c) w:=by go_simp
section
variable {G : List Nat} {S0 B : Nat} {ks : List PK} {a0 : Act} {i : Nat} {N : Nat} {W0 : World} {T : TypeId} {pos : String} {af : Array Edge} {gu : Option (Nat × Bool)}
theorem ar {d t j g o k : Nat} {z : Int} (hl : AtR W0 g o k z)     (hj : at_ ks j = kIs (.pointer (some ⟨g,o + 1,none⟩))) (hi : at_ ks i = kRow z) (hG : g ∉ G:=by simp) (hN : a0.tmps.size = N:=by assumption) (hd : decide (d < N) = true:=by kernel_rfl) (ht : decide (t < N) = true:=by kernel_rfl) :
   PkStep Tryz.prog (Reg B W0 G) S0 ks a0 i { dst:=some d,op:=.load 22 (.tmp t),type:=T,pos:=pos,after:=af,guard:=gu } [(j,some t)]:=by
 intro w x hC
 refine aw _ fun hdeps K hK=>?_
 have g1:=hdeps (j,some t) (by simp)
 rw [hj] at g1
 have g2 : x j = .pointer (some ⟨g,o + 1,none⟩):=g1
 have e1 : (putE x a0 [(j,some t)]).eval (.tmp t) = x j:=putE_new _ _ (by rw [hN]; exact of_decide_eq_true ht) (by simp [slotAt])
 obtain ⟨A,m,c,_,h2,A',m',c',e,h3,_⟩:=hC.atR hG hl
 injection e with e; injection e with e; injection e with _ e; injection e with e _
 injection e with q1 q2 q3
 subst q1; subst q2; subst q3
 refine bj (v:=.slice A m c) (w':=w) rfl (by rw [ax,hN]) hd (ex_load (e1.trans g2) (run_loadRow h2)) (hK _ _ ?_ ?_)
 · rw [hi]; exact Below.refl _ _
 · rw [hi]; exact h3
theorem eb {d j1 t1 k1 j2 t2 k2 : Nat} {z1 z2 : Int}       (h1 : at_ ks j1 = kZ k1 z1) (h2 : at_ ks j2 = kZ k2 z2) (hi : at_ ks i = kZRs [(k1,z1),(k2,z2)]) (hN : a0.tmps.size = N:=by assumption) (hd : decide (d < N) = true:=by kernel_rfl) (ht1 : decide (t1 < N) = true:=by kernel_rfl) (ht2 : decide (t2 < N) = true:=by kernel_rfl) (hne : decide (t1 = t2) = false:=by kernel_rfl) (hS : S0 ≤ W0.heap.size:=by exact Nat.le_refl _) :
   PkStep Tryz.prog (Reg B W0 G) S0 ks a0 i { dst:=some d,op:=.buildSlice 53 2 #[(0,.tmp t1),(1,.tmp t2)],type:=T,pos:=pos,after:=af,guard:=gu } [(j1,some t1),(j2,some t2)]:=by
 intro w x hC
 refine aw _ fun hdeps K hK=>?_
 have g1:=hdeps (j1,some t1) (by simp)
 have g2:=hdeps (j2,some t2) (by simp)
 rw [h1] at g1
 rw [h2] at g2
 have hne' : t1 ≠ t2:=of_decide_eq_false hne
 have e1 : (putE x a0 [(j1,some t1),(j2,some t2)]).eval (.tmp t1) = x j1:=putE_new _ _ (by rw [hN]; exact of_decide_eq_true ht1) (by simp [slotAt,Ne.symm hne'])
 have e2 : (putE x a0 [(j1,some t1),(j2,some t2)]).eval (.tmp t2) = x j2:=putE_new _ _ (by rw [hN]; exact of_decide_eq_true ht2) (by simp [slotAt])
 obtain ⟨A1,l1,c1,hx,q1⟩:=(show Zr w (x j1) k1 z1 from g1)
 obtain ⟨A2,l2,c2,hy,q2⟩:=(show Zr w (x j2) k2 z2 from g2)
 have hsz:=hC.below.size
 refine bj rfl (by rw [ax,hN]) hd (ex_slice2 (e1.trans hx) (e2.trans hy) run_list2) (hK _ _ ?_ ?_)
 · rw [hi]; exact ⟨(Below.refl _ _).alloc (Nat.le_refl _) _,_,rfl,Nat.le_refl _⟩
 · rw [hi]; have ba:=fun (o : Obj)=>(Below.refl w.heap.size w).alloc (Nat.le_refl _) o; refine ⟨_,rfl,Nat.le_trans hS hsz,lt_alloc _ _,fun j q hj=>?_⟩
   match j,hj with
   | 0,hj=>simp at hj; subst hj; exact ⟨A1,l1,c1,by simp,by simp,A1,l1,c1,rfl,q1.1.below (ba _),q1.2⟩
   | 1,hj=>simp at hj; subst hj; exact ⟨A2,l2,c2,by simp,by simp,A2,l2,c2,rfl,q2.1.below (ba _),q2.2⟩
end
theorem r2_of {w : World} (n : Int) (h1 : -9223372036854775808 ≤ n) (h2 : n ≤ 9223372036854775807) (hn : n.natAbs < 1000000000 ^ 1) : Calls Tryz.prog 99 #[.int .i64 n] w (TellsZ w 1 n) :=
 (ref2Of_any n n.natAbs h1 h2 rfl).mono fun _ _ h=>ep hn h
theorem r2_cmp_np {w : World} {v1 v2 : Value} {zx zy : Int} (hx : decide (zx < 0) = true) (hy : decide (zy < 0) = false) (h1 : Zr w v1 39 (zx)) (h2 : Zr w v2 39 (zy)) :
   Calls Tryz.prog 72 #[v1,v2] w (fun e w'=>e = .returned (.int .i64 (-1)) ∧ Below w.heap.size w w'):=by
 obtain ⟨y1,z1,rfl,H1⟩:=h1.op
 obtain ⟨y2,z2,rfl,H2⟩:=h2.op
 go_enter Tryz.func72,Tryz.ntmps72
 repeat apply wp_seq
 refine ls fun K HK=>?_
 go_wp2
 refine HK.out _ _ (then_n ?_)
 refine lq (G:=fun W=>Code.wp _ _ _ _ W) ?_
 intro W_0 bb_0 K0 K1
 have f1_0:=H1.out _ _ _ bb_0 K0
 have f2_0:=H2.out _ _ _ bb_0 K1
 clear K0 K1
 refine lm (G:=fun a=>Code.wp _ _ _ a _) 40 ?_
 intro a_0 ha hN_0 hD_0
 have e2_0:=lj ha 2 w.heap.size
 have e3_0:=lj ha 3 (w.heap.size + 1)
 repeat first | apply lk | apply ll
 refine ld bb_0 [kZ 39 (zx),kZ 39 (zx),kZ 39 (zy),kZ 39 (zy),PK.fresh 2,PK.fresh 2,kPutZ 4 39 (zx),kPutZ 5 39 (zy)] [[],[0],[],[2],[],[],[4,1],[5,3]] [7,8,9,10,5,6,999,999] [] [] ?_ ?_
 ·
   refine ai f1_0 e2_0 ?_; refine aa rfl rfl (ae rfl rfl fun hC h1=>tz (r2_norm ((rr h1).zc (by decide)) (by decide))) ?_; refine ai f2_0 e3_0 ?_; refine aa rfl rfl (ae rfl rfl fun hC h1=>tz (r2_norm ((rr h1).zc (by decide)) (by decide))) ?_; refine au ?_; refine au ?_; refine bc ?_; refine bc ?_; exact ag rfl
 intro W_1 x a_1 hC hall ha hN_1 hD_1 bb_1
 obtain ⟨g5,hx,l5_1⟩:=dl (lr hall 6)
 have e5_1:=(an (t:=5) (i:=4) ha).trans hx
 clear hx
 obtain ⟨g6,hx,l6_1⟩:=dl (lr hall 7)
 have e6_1:=(an (t:=6) (i:=5) ha).trans hx
 clear hx
 have q5_1:=l5_1.atR
 clear l5_1
 have q6_1:=l6_1.atR
 clear l6_1
 repeat first | apply lk | apply ll
 refine wp_block ?_
 repeat first | apply lk | apply ll
 refine ld bb_1 [lf g5 0,lg,lg,lf g6 0,lh,lg,lg,lg] [[],[0],[1],[],[3],[4],[2,5],[6]] [12,13,14,15,16,17,18,11] [(2,true)] [] ?_ ?_
 ·
   refine p01 e5_1 ?_; refine aq (s:=true) q5_1 hx ?_; refine p10 ?_; refine p01 e6_1 ?_; refine aq (s:=false) q6_1 hy ?_; refine p10 ?_; refine p20 ?_; refine p10 ?_; exact ag rfl
 intro W_2 x a_2 hC hall ha hN_2 hD_2 bb_2
 have e11_2:=le ha hall 11 7
 repeat first | apply lk | apply ll
 refine wp_cond_true e11_2 ?_
 repeat first | apply lk | apply ll
 refine ld bb_2 [kIs (.int .i64 (-1))] [[]] [4] [] [] ?_ ?_
 ·
   refine p00 ?_; exact ag rfl
 intro W x a1 hC hall ha hN1 hD1 bb1
 have e1:=le ha hall 4 0
 repeat first | apply lk | apply ll
 refine wp_ret ?_
 repeat (first | refine then_r ?_ | refine gt ?_)
 exact bi (t:=4) rfl hD1 e1 ⟨rfl,bb1⟩
theorem r2_cmp_pn {w : World} {v1 v2 : Value} {zx zy : Int} (hx : decide (zx < 0) = false) (hy : decide (zy < 0) = true) (h1 : Zr w v1 39 (zx)) (h2 : Zr w v2 39 (zy)) :
   Calls Tryz.prog 72 #[v1,v2] w (fun e w'=>e = .returned (.int .i64 (1)) ∧ Below w.heap.size w w'):=by
 obtain ⟨y1,z1,rfl,H1⟩:=h1.op
 obtain ⟨y2,z2,rfl,H2⟩:=h2.op
 go_enter Tryz.func72,Tryz.ntmps72
 repeat apply wp_seq
 refine ls fun K HK=>?_
 go_wp2
 refine HK.out _ _ (then_n ?_)
 refine lq (G:=fun W=>Code.wp _ _ _ _ W) ?_
 intro W_0 bb_0 K0 K1
 have f1_0:=H1.out _ _ _ bb_0 K0
 have f2_0:=H2.out _ _ _ bb_0 K1
 clear K0 K1
 refine lm (G:=fun a=>Code.wp _ _ _ a _) 40 ?_
 intro a_0 ha hN_0 hD_0
 have e2_0:=lj ha 2 w.heap.size
 have e3_0:=lj ha 3 (w.heap.size + 1)
 repeat first | apply lk | apply ll
 refine ld bb_0 [kZ 39 (zx),kZ 39 (zx),kZ 39 (zy),kZ 39 (zy),PK.fresh 2,PK.fresh 2,kPutZ 4 39 (zx),kPutZ 5 39 (zy)] [[],[0],[],[2],[],[],[4,1],[5,3]] [7,8,9,10,5,6,999,999] [] [] ?_ ?_
 ·
   refine ai f1_0 e2_0 ?_; refine aa rfl rfl (ae rfl rfl fun hC h1=>tz (r2_norm ((rr h1).zc (by decide)) (by decide))) ?_; refine ai f2_0 e3_0 ?_; refine aa rfl rfl (ae rfl rfl fun hC h1=>tz (r2_norm ((rr h1).zc (by decide)) (by decide))) ?_; refine au ?_; refine au ?_; refine bc ?_; refine bc ?_; exact ag rfl
 intro W_1 x a_1 hC hall ha hN_1 hD_1 bb_1
 obtain ⟨g5,hx,l5_1⟩:=dl (lr hall 6)
 have e5_1:=(an (t:=5) (i:=4) ha).trans hx
 clear hx
 obtain ⟨g6,hx,l6_1⟩:=dl (lr hall 7)
 have e6_1:=(an (t:=6) (i:=5) ha).trans hx
 clear hx
 have q5_1:=l5_1.atR
 clear l5_1
 have q6_1:=l6_1.atR
 clear l6_1
 repeat first | apply lk | apply ll
 refine wp_block ?_
 repeat first | apply lk | apply ll
 refine ld bb_1 [lf g5 0,lh,lh,li,li,li,lh,lh] [[],[0],[1],[],[3],[4],[2,5],[6]] [12,13,14,15,16,17,18,11] [(2,false)] [3,4,5] ?_ ?_
 ·
   refine p01 e5_1 ?_; refine aq (s:=false) q5_1 hx ?_; refine p10 ?_; refine ah rfl ?_; refine ah rfl ?_; refine ah rfl ?_; refine p20 ?_; refine p10 ?_; exact ag rfl
 intro W_2 x a_2 hC hall ha hN_2 hD_2 bb_2
 have e5_2:=ab ha e5_1
 have e6_2:=ab ha e6_1
 have q5_2:=hC.at0 q5_1
 have q6_2:=hC.at0 q6_1
 have e11_2:=le ha hall 11 7
 repeat first | apply lk | apply ll
 refine wp_cond_false e11_2 ?_
 repeat first | apply lk | apply ll
 refine ld bb_2 [lf g5 0,lh,lg,lg,lf g6 0,lg,lg,lg] [[],[0],[1],[2],[],[4],[3,5],[6]] [20,21,22,23,24,25,26,19] [(3,true)] [] ?_ ?_
 ·
   refine p01 e5_2 ?_; refine aq (s:=false) q5_2 hx ?_; refine p10 ?_; refine p10 ?_; refine p01 e6_2 ?_; refine aq (s:=true) q6_2 hy ?_; refine p20 ?_; refine p10 ?_; exact ag rfl
 intro W_3 x a_3 hC hall ha hN_3 hD_3 bb_3
 have e19_3:=le ha hall 19 7
 repeat first | apply lk | apply ll
 refine wp_cond_true e19_3 ?_
 repeat first | apply lk | apply ll
 refine ld bb_3 [kIs (.int .i64 (1))] [[]] [4] [] [] ?_ ?_
 ·
   refine p00 ?_; exact ag rfl
 intro W x a1 hC hall ha hN1 hD1 bb1
 have e1:=le ha hall 4 0
 repeat first | apply lk | apply ll
 refine wp_ret ?_
 repeat (first | refine then_r ?_ | refine gt ?_)
 exact bi (t:=4) rfl hD1 e1 ⟨rfl,bb1⟩
theorem r2_cmp_nn {w : World} {v1 v2 : Value} {zx zy : Int} (hx : decide (zx < 0) = true) (hy : decide (zy < 0) = true) (h1 : Zr w v1 39 (zx)) (h2 : Zr w v2 39 (zy)) :
   Calls Tryz.prog 72 #[v1,v2] w (fun e w'=>e = .returned (.int .i64 (ordI ((zy).natAbs : Int) ((zx).natAbs : Int))) ∧ Below w.heap.size w w'):=by
 have U1:=Lib.hid h1.lt
 obtain ⟨y1,z1,rfl,H1⟩:=h1.op
 have U2:=Lib.hid h2.lt
 obtain ⟨y2,z2,rfl,H2⟩:=h2.op
 go_enter Tryz.func72,Tryz.ntmps72
 repeat apply wp_seq
 refine ls fun K HK=>?_
 go_wp2
 refine HK.out _ _ (then_n ?_)
 refine lq (G:=fun W=>Code.wp _ _ _ _ W) ?_
 intro W_0 bb_0 K0 K1
 have f1_0:=H1.out _ _ _ bb_0 K0
 have f2_0:=H2.out _ _ _ bb_0 K1
 clear K0 K1
 refine lm (G:=fun a=>Code.wp _ _ _ a _) 40 ?_
 intro a_0 ha hN_0 hD_0
 have e2_0:=lj ha 2 w.heap.size
 have e3_0:=lj ha 3 (w.heap.size + 1)
 repeat first | apply lk | apply ll
 refine ld bb_0 [kZ 39 (zx),kZ 39 (zx),kZ 39 (zy),kZ 39 (zy),PK.fresh 2,PK.fresh 2,kPutZ 4 39 (zx),kPutZ 5 39 (zy)] [[],[0],[],[2],[],[],[4,1],[5,3]] [7,8,9,10,5,6,999,999] [] [] ?_ ?_
 ·
   refine ai f1_0 e2_0 ?_; refine aa rfl rfl (ae rfl rfl fun hC h1=>tz (r2_norm ((rr h1).zc (by decide)) (by decide))) ?_; refine ai f2_0 e3_0 ?_; refine aa rfl rfl (ae rfl rfl fun hC h1=>tz (r2_norm ((rr h1).zc (by decide)) (by decide))) ?_; refine au ?_; refine au ?_; refine bc ?_; refine bc ?_; exact ag rfl
 intro W_1 x a_1 hC hall ha hN_1 hD_1 bb_1
 obtain ⟨g5,hx,l5_1⟩:=dl (lr hall 6)
 have e5_1:=(an (t:=5) (i:=4) ha).trans hx
 clear hx
 obtain ⟨g6,hx,l6_1⟩:=dl (lr hall 7)
 have e6_1:=(an (t:=6) (i:=5) ha).trans hx
 clear hx
 have q5_1:=l5_1.atR
 clear l5_1
 have q6_1:=l6_1.atR
 clear l6_1
 repeat first | apply lk | apply ll
 refine wp_block ?_
 repeat first | apply lk | apply ll
 refine ld bb_1 [lf g5 0,lg,lg,lf g6 0,lg,lh,lh,lh] [[],[0],[1],[],[3],[4],[2,5],[6]] [12,13,14,15,16,17,18,11] [(2,true)] [] ?_ ?_
 ·
   refine p01 e5_1 ?_; refine aq (s:=true) q5_1 hx ?_; refine p10 ?_; refine p01 e6_1 ?_; refine aq (s:=true) q6_1 hy ?_; refine p10 ?_; refine p20 ?_; refine p10 ?_; exact ag rfl
 intro W_2 x a_2 hC hall ha hN_2 hD_2 bb_2
 have e5_2:=ab ha e5_1
 have e6_2:=ab ha e6_1
 have q5_2:=hC.at0 q5_1
 have q6_2:=hC.at0 q6_1
 have e11_2:=le ha hall 11 7
 repeat first | apply lk | apply ll
 refine wp_cond_false e11_2 ?_
 repeat first | apply lk | apply ll
 refine ld bb_2 [lf g5 0,lg,lh,lh,li,li,lh,lh] [[],[0],[1],[2],[],[4],[3,5],[6]] [20,21,22,23,24,25,26,19] [(3,false)] [4,5] ?_ ?_
 ·
   refine p01 e5_2 ?_; refine aq (s:=true) q5_2 hx ?_; refine p10 ?_; refine p10 ?_; refine ah rfl ?_; refine ah rfl ?_; refine p20 ?_; refine p10 ?_; exact ag rfl
 intro W_3 x a_3 hC hall ha hN_3 hD_3 bb_3
 have e5_3:=ab ha e5_2
 have e6_3:=ab ha e6_2
 have q5_3:=hC.at0 q5_2
 have q6_3:=hC.at0 q6_2
 have e19_3:=le ha hall 19 7
 repeat first | apply lk | apply ll
 refine wp_cond_false e19_3 ?_
 repeat first | apply lk | apply ll
 refine ld bb_3 [lf g5 0,lg,lg] [[],[0],[1]] [28,29,27] [] [] ?_ ?_
 ·
   refine p01 e5_3 ?_; refine aq (s:=true) q5_3 hx ?_; refine p10 ?_; exact ag rfl
 intro W_4 x a_4 hC hall ha hN_4 hD_4 bb_4
 have e5_4:=ab ha e5_3
 have e6_4:=ab ha e6_3
 have q5_4:=hC.at0 q5_3
 have q6_4:=hC.at0 q6_3
 have e27_4:=le ha hall 27 2
 repeat first | apply lk | apply ll
 refine wp_cond_true e27_4 ?_
 repeat first | apply lk | apply ll
 refine ld bb_4 [lf g6 1,kRow (zy),lf g5 1,kRow (zx),kIs (.int .i64 (ordI ((zy).natAbs : Int) ((zx).natAbs : Int))),kIs (.int .i64 (ordI ((zy).natAbs : Int) ((zx).natAbs : Int)))] [[],[0],[],[2],[1,3],[4]] [30,31,32,33,34,4] [] [] ?_ ?_
 ·
   refine p01 e6_4 ?_; refine aa rfl rfl (ar q6_4 rfl rfl) ?_; refine p01 e5_4 ?_; refine aa rfl rfl (ar q5_4 rfl rfl) ?_; refine aa rfl rfl (ap rfl rfl rfl fun hC h1 h2=>ti (vr_cmp (N:=39) h1 h2 U2.out U1.out (by decide))) ?_; refine p10 ?_; exact ag rfl
 intro W x a1 hC hall ha hN1 hD1 bb1
 have e1:=le ha hall 4 5
 repeat first | apply lk | apply ll
 refine wp_ret ?_
 repeat (first | refine then_r ?_ | refine gt ?_)
 exact bi (t:=4) rfl hD1 e1 ⟨rfl,bb1⟩
theorem r2_cmp_pp {w : World} {v1 v2 : Value} {zx zy : Int} (hx : decide (zx < 0) = false) (hy : decide (zy < 0) = false) (h1 : Zr w v1 39 (zx)) (h2 : Zr w v2 39 (zy)) :
   Calls Tryz.prog 72 #[v1,v2] w (fun e w'=>e = .returned (.int .i64 (ordI ((zx).natAbs : Int) ((zy).natAbs : Int))) ∧ Below w.heap.size w w'):=by
 have U1:=Lib.hid h1.lt
 obtain ⟨y1,z1,rfl,H1⟩:=h1.op
 have U2:=Lib.hid h2.lt
 obtain ⟨y2,z2,rfl,H2⟩:=h2.op
 go_enter Tryz.func72,Tryz.ntmps72
 repeat apply wp_seq
 refine ls fun K HK=>?_
 go_wp2
 refine HK.out _ _ (then_n ?_)
 refine lq (G:=fun W=>Code.wp _ _ _ _ W) ?_
 intro W_0 bb_0 K0 K1
 have f1_0:=H1.out _ _ _ bb_0 K0
 have f2_0:=H2.out _ _ _ bb_0 K1
 clear K0 K1
 refine lm (G:=fun a=>Code.wp _ _ _ a _) 40 ?_
 intro a_0 ha hN_0 hD_0
 have e2_0:=lj ha 2 w.heap.size
 have e3_0:=lj ha 3 (w.heap.size + 1)
 repeat first | apply lk | apply ll
 refine ld bb_0 [kZ 39 (zx),kZ 39 (zx),kZ 39 (zy),kZ 39 (zy),PK.fresh 2,PK.fresh 2,kPutZ 4 39 (zx),kPutZ 5 39 (zy)] [[],[0],[],[2],[],[],[4,1],[5,3]] [7,8,9,10,5,6,999,999] [] [] ?_ ?_
 ·
   refine ai f1_0 e2_0 ?_; refine aa rfl rfl (ae rfl rfl fun hC h1=>tz (r2_norm ((rr h1).zc (by decide)) (by decide))) ?_; refine ai f2_0 e3_0 ?_; refine aa rfl rfl (ae rfl rfl fun hC h1=>tz (r2_norm ((rr h1).zc (by decide)) (by decide))) ?_; refine au ?_; refine au ?_; refine bc ?_; refine bc ?_; exact ag rfl
 intro W_1 x a_1 hC hall ha hN_1 hD_1 bb_1
 obtain ⟨g5,hx,l5_1⟩:=dl (lr hall 6)
 have e5_1:=(an (t:=5) (i:=4) ha).trans hx
 clear hx
 obtain ⟨g6,hx,l6_1⟩:=dl (lr hall 7)
 have e6_1:=(an (t:=6) (i:=5) ha).trans hx
 clear hx
 have q5_1:=l5_1.atR
 clear l5_1
 have q6_1:=l6_1.atR
 clear l6_1
 repeat first | apply lk | apply ll
 refine wp_block ?_
 repeat first | apply lk | apply ll
 refine ld bb_1 [lf g5 0,lh,lh,li,li,li,lh,lh] [[],[0],[1],[],[3],[4],[2,5],[6]] [12,13,14,15,16,17,18,11] [(2,false)] [3,4,5] ?_ ?_
 ·
   refine p01 e5_1 ?_; refine aq (s:=false) q5_1 hx ?_; refine p10 ?_; refine ah rfl ?_; refine ah rfl ?_; refine ah rfl ?_; refine p20 ?_; refine p10 ?_; exact ag rfl
 intro W_2 x a_2 hC hall ha hN_2 hD_2 bb_2
 have e5_2:=ab ha e5_1
 have e6_2:=ab ha e6_1
 have q5_2:=hC.at0 q5_1
 have q6_2:=hC.at0 q6_1
 have e11_2:=le ha hall 11 7
 repeat first | apply lk | apply ll
 refine wp_cond_false e11_2 ?_
 repeat first | apply lk | apply ll
 refine ld bb_2 [lf g5 0,lh,lg,lg,lf g6 0,lh,lh,lh] [[],[0],[1],[2],[],[4],[3,5],[6]] [20,21,22,23,24,25,26,19] [(3,true)] [] ?_ ?_
 ·
   refine p01 e5_2 ?_; refine aq (s:=false) q5_2 hx ?_; refine p10 ?_; refine p10 ?_; refine p01 e6_2 ?_; refine aq (s:=false) q6_2 hy ?_; refine p20 ?_; refine p10 ?_; exact ag rfl
 intro W_3 x a_3 hC hall ha hN_3 hD_3 bb_3
 have e5_3:=ab ha e5_2
 have e6_3:=ab ha e6_2
 have q5_3:=hC.at0 q5_2
 have q6_3:=hC.at0 q6_2
 have e19_3:=le ha hall 19 7
 repeat first | apply lk | apply ll
 refine wp_cond_false e19_3 ?_
 repeat first | apply lk | apply ll
 refine ld bb_3 [lf g5 0,lh,lh] [[],[0],[1]] [28,29,27] [] [] ?_ ?_
 ·
   refine p01 e5_3 ?_; refine aq (s:=false) q5_3 hx ?_; refine p10 ?_; exact ag rfl
 intro W_4 x a_4 hC hall ha hN_4 hD_4 bb_4
 have e5_4:=ab ha e5_3
 have e6_4:=ab ha e6_3
 have q5_4:=hC.at0 q5_3
 have q6_4:=hC.at0 q6_3
 have e27_4:=le ha hall 27 2
 repeat first | apply lk | apply ll
 refine wp_cond_false e27_4 ?_
 repeat first | apply lk | apply ll
 refine wp_skip ?_
 refine in_block8 ?_
 refine then_n ?_
 repeat first | apply lk | apply ll
 refine ld bb_4 [lf g5 1,kRow (zx),lf g6 1,kRow (zy),kIs (.int .i64 (ordI ((zx).natAbs : Int) ((zy).natAbs : Int))),kIs (.int .i64 (ordI ((zx).natAbs : Int) ((zy).natAbs : Int)))] [[],[0],[],[2],[1,3],[4]] [35,36,37,38,39,4] [] [] ?_ ?_
 ·
   refine p01 e5_4 ?_; refine aa rfl rfl (ar q5_4 rfl rfl) ?_; refine p01 e6_4 ?_; refine aa rfl rfl (ar q6_4 rfl rfl) ?_; refine aa rfl rfl (ap rfl rfl rfl fun hC h1 h2=>ti (vr_cmp (N:=39) h1 h2 U1.out U2.out (by decide))) ?_; refine p10 ?_; exact ag rfl
 intro W x a1 hC hall ha hN1 hD1 bb1
 have e1:=le ha hall 4 5
 repeat first | apply lk | apply ll
 refine wp_ret ?_
 repeat (first | refine then_r ?_ | refine gt ?_)
 exact bi (t:=4) rfl hD1 e1 ⟨rfl,bb1⟩
theorem r2_cmp {w : World} {v1 v2 : Value} {x y : Int} (h1 : Zr w v1 39 x) (h2 : Zr w v2 39 y) : Calls Tryz.prog 72 #[v1,v2] w fun e w'=>e = .returned (.int .i64 (ordI x y)) ∧ Below w.heap.size w w':=by
 by_cases hx : x < 0 <;> by_cases hy : y < 0
 · have e : ordI ((y).natAbs : Int) ((x).natAbs : Int) = ordI x y:=by unfold ordI; split <;> split <;> (try split) <;> (try split) <;> omega
   rw [← e]; exact r2_cmp_nn (decide_eq_true hx) (decide_eq_true hy) h1 h2
 · rw [ord_lt (show x < y by omega)]; exact r2_cmp_np (decide_eq_true hx) (decide_eq_false hy) h1 h2
 · rw [ord_gt (show y < x by omega)]; exact r2_cmp_pn (decide_eq_false hx) (decide_eq_true hy) h1 h2
 · have e : ordI ((x).natAbs : Int) ((y).natAbs : Int) = ordI x y:=by unfold ordI; split <;> split <;> (try split) <;> (try split) <;> omega
   rw [← e]; exact r2_cmp_pp (decide_eq_false hx) (decide_eq_false hy) h1 h2
theorem fh {w : World}    :
   Calls Tryz.prog 73 #[] w (TellsZ w 1 (0)):=by
 go_enter Tryz.func73,Tryz.ntmps73
 repeat apply wp_seq
 refine ls fun K HK=>?_
 go_wp2
 refine HK.out _ _ (then_n ?_)
 refine lp (G:=fun W=>Code.wp _ _ _ _ W) ?_
 intro W_0 bb_0 K0
 have R_0:=lc K0
 clear K0
 refine lm (G:=fun a=>Code.wp _ _ _ a _) 2 ?_
 intro a_0 ha hN_0 hD_0
 have e0_0:=lj ha 0 w.heap.size
 repeat first | apply lk | apply ll
 refine lu bb_0 R_0 [kZ 1 (0),kResZ (w.heap.size) 1 (0)] [[],[0]] [1,999] [] [] ?_ ?_
 ·
   refine aa rfl rfl (be [.int .i64 (0)] rfl rfl fun hC=>tz (r2_of (0) (by decide) (by decide) (by decide))) ?_; refine aa rfl rfl (ce R_0 e0_0 rfl rfl) ?_; exact ag rfl
 intro W x a1 hC hall ha hN1 hD1 bb1
 obtain ⟨cs,hg,hP⟩:=lr hall 1
 have e1:=ab (t:=0) ha e0_0
 repeat first | apply lk | apply ll
 refine wp_ret ?_
 repeat (refine then_r ?_)
 exact ci (t:=0) rfl hD1 e1 hg hP fun v hv=>⟨v,rfl,hv,bb1⟩
theorem ku {w : World}    :
   Calls Tryz.prog 79 #[] w (TellsZ w 1 (1)):=by
 go_enter Tryz.func79,Tryz.ntmps79
 repeat apply wp_seq
 refine ls fun K HK=>?_
 go_wp2
 refine HK.out _ _ (then_n ?_)
 refine lp (G:=fun W=>Code.wp _ _ _ _ W) ?_
 intro W_0 bb_0 K0
 have R_0:=lc K0
 clear K0
 refine lm (G:=fun a=>Code.wp _ _ _ a _) 2 ?_
 intro a_0 ha hN_0 hD_0
 have e0_0:=lj ha 0 w.heap.size
 repeat first | apply lk | apply ll
 refine lu bb_0 R_0 [kZ 1 (1),kResZ (w.heap.size) 1 (1)] [[],[0]] [1,999] [] [] ?_ ?_
 ·
   refine aa rfl rfl (be [.int .i64 (1)] rfl rfl fun hC=>tz (r2_of (1) (by decide) (by decide) (by decide))) ?_; refine aa rfl rfl (ce R_0 e0_0 rfl rfl) ?_; exact ag rfl
 intro W x a1 hC hall ha hN1 hD1 bb1
 obtain ⟨cs,hg,hP⟩:=lr hall 1
 have e1:=ab (t:=0) ha e0_0
 repeat first | apply lk | apply ll
 refine wp_ret ?_
 repeat (refine then_r ?_)
 exact ci (t:=0) rfl hD1 e1 hg hP fun v hv=>⟨v,rfl,hv,bb1⟩
theorem ref_nought {w : World}    :
   Calls Tryz.prog 71 #[] w (TellsP w 1 (0) (1)):=by
 go_enter Tryz.func71,Tryz.ntmps71
 repeat apply wp_seq
 refine ls fun K HK=>?_
 go_wp2
 refine HK.out _ _ (then_n ?_)
 refine lp (G:=fun W=>Code.wp _ _ _ _ W) ?_
 intro W_0 bb_0 K0
 have R_0:=kg K0
 clear K0
 refine lm (G:=fun a=>Code.wp _ _ _ a _) 4 ?_
 intro a_0 ha hN_0 hD_0
 have e0_0:=lj ha 0 w.heap.size
 repeat first | apply lk | apply ll
 refine lu bb_0 R_0 [kZ 1 (0),kZ 1 (1),kP 1 (0) (1),kRes (w.heap.size) 1 (0) (1)] [[],[],[0,1],[2]] [1,2,3,999] [] [] ?_ ?_
 ·
   refine aa rfl rfl (be [] rfl rfl fun hC=>tz fh) ?_; refine aa rfl rfl (be [] rfl rfl fun hC=>tz ku) ?_; refine aa rfl rfl (fx (k:=1) rfl rfl rfl) ?_; refine aa rfl rfl (eu R_0 rfl e0_0 rfl rfl) ?_; exact ag rfl
 intro W x a1 hC hall ha hN1 hD1 bb1
 obtain ⟨cs,hg,hP⟩:=lr hall 3
 have e1:=ab (t:=0) ha e0_0
 repeat first | apply lk | apply ll
 refine wp_ret ?_
 repeat (refine then_r ?_)
 exact fy (t:=0) rfl hD1 e1 hg hP fun v hv=>⟨v,rfl,hv,bb1⟩
theorem refRight_yes {w : World} {v1 : Value} {a : Rat} (h1 : Pr w v1 19 (a.num) ((a.den : Int))) :
   Calls Tryz.prog 20 #[v1] w (fun e w'=>e = .returned (.bool true) ∧ Below w.heap.size w w'):=by
 obtain ⟨y1,z1,y1',z1',rfl,H1⟩:=h1.op
 go_enter Tryz.func20,Tryz.ntmps20
 repeat apply wp_seq
 refine ls fun K HK=>?_
 go_wp2
 refine HK.out _ _ (then_n ?_)
 refine lp (G:=fun W=>Code.wp _ _ _ _ W) ?_
 intro W_0 bb_0 K0
 obtain ⟨f1_0,f1'_0⟩:=H1.out _ _ _ bb_0 K0
 clear K0
 refine lm (G:=fun a=>Code.wp _ _ _ a _) 29 ?_
 intro a_0 ha hN_0 hD_0
 have e1_0:=lj ha 1 w.heap.size
 repeat first | apply lk | apply ll
 refine ld bb_0 [lf w.heap.size 0,kZ 19 (a.num),lg,lg,lf w.heap.size 2,kZ 19 ((a.den : Int)),lg,lg,lg,lf w.heap.size 2,kZ 19 ((a.den : Int)),kZ 1 (0),kIs (.int .i64 (1)),lg,lg,lg,lf w.heap.size 0,kZ 19 (a.num),lf w.heap.size 2,kZ 19 ((a.den : Int)),kZRs [(19,a.num),(19,(a.den : Int))],kZ 19 (((zgcd [a.num,(a.den : Int)] : Nat) : Int)),kZ 1 (1),kIs (.int .i64 (0)),lg,lg,lg] [[],[0],[1],[2],[],[4],[5],[3,6],[7],[],[9],[],[10,11],[12],[8,13],[14],[],[16],[],[18],[17,19],[20],[],[21,22],[23],[15,24],[25]] [3,4,5,6,7,8,9,10,11,12,13,14,15,16,17,18,19,20,21,22,23,24,25,26,27,28,2] [(3,true),(8,true),(15,true)] [] ?_ ?_
 ·
   refine p01 e1_0 ?_; refine ak f1_0 ?_; refine aa rfl rfl (ae rfl rfl fun hC h1=>ti (r2_right (rr h1))) ?_; refine p10 ?_; refine p01 e1_0 ?_; refine ak f1'_0 ?_; refine aa rfl rfl (ae rfl rfl fun hC h1=>ti (r2_right (rr h1))) ?_; refine p20 ?_; refine p10 ?_; refine p01 e1_0 ?_; refine ak f1'_0 ?_; refine aa rfl rfl (be [] rfl rfl fun hC=>tz fh) ?_; refine aa rfl rfl (ap rfl rfl rfl fun hC h1 h2=>ti (cmp_is (ord_gt (den_pos a)) (r2_cmp ((rr h1).mono (by decide)) ((rr h2).mono (by decide))))) ?_; refine p10 ?_; refine p20 ?_; refine p10 ?_; refine p01 e1_0 ?_; refine ak f1_0 ?_; refine p01 e1_0 ?_; refine ak f1'_0 ?_; refine aa rfl rfl (eb rfl rfl rfl) ?_; refine aa rfl rfl (ae rfl rfl fun hC h1=>tz (r2_gcd 19 h1 (by kernel_rfl) (by decide) (by simp))) ?_; refine aa rfl rfl (be [] rfl rfl fun hC=>tz ku) ?_; refine aa rfl rfl (ap rfl rfl rfl fun hC h1 h2=>ti (cmp_is (ord_eq (gcd_one a)) (r2_cmp ((rr h1).mono (by decide)) ((rr h2).mono (by decide))))) ?_; refine p10 ?_; refine p20 ?_; refine p10 ?_; exact ag rfl
 intro W x a1 hC hall ha hN1 hD1 bb1
 have e1:=le ha hall 2 26
 repeat first | apply lk | apply ll
 refine wp_ret ?_
 repeat (refine then_r ?_)
 exact bi (t:=2) rfl hD1 e1 ⟨rfl,bb1⟩
theorem refRight_none {w : World} {v1 : Value} {zx zy : Int} (hz : zy = 0) (h1 : Pr w v1 19 (zx) (zy)) :
   Calls Tryz.prog 20 #[v1] w (fun e w'=>e = .returned (.bool false) ∧ Below w.heap.size w w'):=by
 obtain ⟨y1,z1,y1',z1',rfl,H1⟩:=h1.op
 go_enter Tryz.func20,Tryz.ntmps20
 repeat apply wp_seq
 refine ls fun K HK=>?_
 go_wp2
 refine HK.out _ _ (then_n ?_)
 refine lp (G:=fun W=>Code.wp _ _ _ _ W) ?_
 intro W_0 bb_0 K0
 obtain ⟨f1_0,f1'_0⟩:=H1.out _ _ _ bb_0 K0
 clear K0
 refine lm (G:=fun a=>Code.wp _ _ _ a _) 29 ?_
 intro a_0 ha hN_0 hD_0
 have e1_0:=lj ha 1 w.heap.size
 repeat first | apply lk | apply ll
 refine ld bb_0 [lf w.heap.size 0,kZ 19 (zx),lg,lg,lf w.heap.size 2,kZ 19 (zy),lg,lg,lg,lf w.heap.size 2,kZ 19 (zy),kZ 1 (0),kIs (.int .i64 (0)),lh,lh,lh,li,li,li,li,li,li,li,li,li,lh,lh] [[],[0],[1],[2],[],[4],[5],[3,6],[7],[],[9],[],[10,11],[12],[8,13],[14],[],[16],[],[18],[17,19],[20],[],[21,22],[23],[15,24],[25]] [3,4,5,6,7,8,9,10,11,12,13,14,15,16,17,18,19,20,21,22,23,24,25,26,27,28,2] [(3,true),(8,true),(15,false)] [16,17,18,19,20,21,22,23,24] ?_ ?_
 ·
   refine p01 e1_0 ?_; refine ak f1_0 ?_; refine aa rfl rfl (ae rfl rfl fun hC h1=>ti (r2_right (rr h1))) ?_; refine p10 ?_; refine p01 e1_0 ?_; refine ak f1'_0 ?_; refine aa rfl rfl (ae rfl rfl fun hC h1=>ti (r2_right (rr h1))) ?_; refine p20 ?_; refine p10 ?_; refine p01 e1_0 ?_; refine ak f1'_0 ?_; refine aa rfl rfl (be [] rfl rfl fun hC=>tz fh) ?_; refine aa rfl rfl (ap rfl rfl rfl fun hC h1 h2=>ti (cmp_is (ord_eq hz) (r2_cmp ((rr h1).mono (by decide)) ((rr h2).mono (by decide))))) ?_; refine p10 ?_; refine p20 ?_; refine p10 ?_; refine ah rfl ?_; refine ah rfl ?_; refine ah rfl ?_; refine ah rfl ?_; refine ah rfl ?_; refine ah rfl ?_; refine ah rfl ?_; refine ah rfl ?_; refine ah rfl ?_; refine p20 ?_; refine p10 ?_; exact ag rfl
 intro W x a1 hC hall ha hN1 hD1 bb1
 have e1:=le ha hall 2 26
 repeat first | apply lk | apply ll
 refine wp_ret ?_
 repeat (refine then_r ?_)
 exact bi (t:=2) rfl hD1 e1 ⟨rfl,bb1⟩
theorem refRight_neg {w : World} {v1 : Value} {zx zy : Int} (hz : zy < 0) (h1 : Pr w v1 19 (zx) (zy)) :
   Calls Tryz.prog 20 #[v1] w (fun e w'=>e = .returned (.bool false) ∧ Below w.heap.size w w'):=by
 obtain ⟨y1,z1,y1',z1',rfl,H1⟩:=h1.op
 go_enter Tryz.func20,Tryz.ntmps20
 repeat apply wp_seq
 refine ls fun K HK=>?_
 go_wp2
 refine HK.out _ _ (then_n ?_)
 refine lp (G:=fun W=>Code.wp _ _ _ _ W) ?_
 intro W_0 bb_0 K0
 obtain ⟨f1_0,f1'_0⟩:=H1.out _ _ _ bb_0 K0
 clear K0
 refine lm (G:=fun a=>Code.wp _ _ _ a _) 29 ?_
 intro a_0 ha hN_0 hD_0
 have e1_0:=lj ha 1 w.heap.size
 repeat first | apply lk | apply ll
 refine ld bb_0 [lf w.heap.size 0,kZ 19 (zx),lg,lg,lf w.heap.size 2,kZ 19 (zy),lg,lg,lg,lf w.heap.size 2,kZ 19 (zy),kZ 1 (0),kIs (.int .i64 (-1)),lh,lh,lh,li,li,li,li,li,li,li,li,li,lh,lh] [[],[0],[1],[2],[],[4],[5],[3,6],[7],[],[9],[],[10,11],[12],[8,13],[14],[],[16],[],[18],[17,19],[20],[],[21,22],[23],[15,24],[25]] [3,4,5,6,7,8,9,10,11,12,13,14,15,16,17,18,19,20,21,22,23,24,25,26,27,28,2] [(3,true),(8,true),(15,false)] [16,17,18,19,20,21,22,23,24] ?_ ?_
 ·
   refine p01 e1_0 ?_; refine ak f1_0 ?_; refine aa rfl rfl (ae rfl rfl fun hC h1=>ti (r2_right (rr h1))) ?_; refine p10 ?_; refine p01 e1_0 ?_; refine ak f1'_0 ?_; refine aa rfl rfl (ae rfl rfl fun hC h1=>ti (r2_right (rr h1))) ?_; refine p20 ?_; refine p10 ?_; refine p01 e1_0 ?_; refine ak f1'_0 ?_; refine aa rfl rfl (be [] rfl rfl fun hC=>tz fh) ?_; refine aa rfl rfl (ap rfl rfl rfl fun hC h1 h2=>ti (cmp_is (ord_lt hz) (r2_cmp ((rr h1).mono (by decide)) ((rr h2).mono (by decide))))) ?_; refine p10 ?_; refine p20 ?_; refine p10 ?_; refine ah rfl ?_; refine ah rfl ?_; refine ah rfl ?_; refine ah rfl ?_; refine ah rfl ?_; refine ah rfl ?_; refine ah rfl ?_; refine ah rfl ?_; refine ah rfl ?_; refine p20 ?_; refine p10 ?_; exact ag rfl
 intro W x a1 hC hall ha hN1 hD1 bb1
 have e1:=le ha hall 2 26
 repeat first | apply lk | apply ll
 refine wp_ret ?_
 repeat (refine then_r ?_)
 exact bi (t:=2) rfl hD1 e1 ⟨rfl,bb1⟩
theorem refRight_gcd {w : World} {v1 : Value} {zx zy : Int} (hz : 0 < zy) (hg : 1 < ((zgcd [(zx),(zy)] : Nat) : Int)) (h1 : Pr w v1 19 (zx) (zy)) :
   Calls Tryz.prog 20 #[v1] w (fun e w'=>e = .returned (.bool false) ∧ Below w.heap.size w w'):=by
 obtain ⟨y1,z1,y1',z1',rfl,H1⟩:=h1.op
 go_enter Tryz.func20,Tryz.ntmps20
 repeat apply wp_seq
 refine ls fun K HK=>?_
 go_wp2
 refine HK.out _ _ (then_n ?_)
 refine lp (G:=fun W=>Code.wp _ _ _ _ W) ?_
 intro W_0 bb_0 K0
 obtain ⟨f1_0,f1'_0⟩:=H1.out _ _ _ bb_0 K0
 clear K0
 refine lm (G:=fun a=>Code.wp _ _ _ a _) 29 ?_
 intro a_0 ha hN_0 hD_0
 have e1_0:=lj ha 1 w.heap.size
 repeat first | apply lk | apply ll
 refine ld bb_0 [lf w.heap.size 0,kZ 19 (zx),lg,lg,lf w.heap.size 2,kZ 19 (zy),lg,lg,lg,lf w.heap.size 2,kZ 19 (zy),kZ 1 (0),kIs (.int .i64 (1)),lg,lg,lg,lf w.heap.size 0,kZ 19 (zx),lf w.heap.size 2,kZ 19 (zy),kZRs [(19,zx),(19,zy)],kZ 19 (((zgcd [zx,zy] : Nat) : Int)),kZ 1 (1),kIs (.int .i64 (1)),lh,lh,lh] [[],[0],[1],[2],[],[4],[5],[3,6],[7],[],[9],[],[10,11],[12],[8,13],[14],[],[16],[],[18],[17,19],[20],[],[21,22],[23],[15,24],[25]] [3,4,5,6,7,8,9,10,11,12,13,14,15,16,17,18,19,20,21,22,23,24,25,26,27,28,2] [(3,true),(8,true),(15,true)] [] ?_ ?_
 ·
   refine p01 e1_0 ?_; refine ak f1_0 ?_; refine aa rfl rfl (ae rfl rfl fun hC h1=>ti (r2_right (rr h1))) ?_; refine p10 ?_; refine p01 e1_0 ?_; refine ak f1'_0 ?_; refine aa rfl rfl (ae rfl rfl fun hC h1=>ti (r2_right (rr h1))) ?_; refine p20 ?_; refine p10 ?_; refine p01 e1_0 ?_; refine ak f1'_0 ?_; refine aa rfl rfl (be [] rfl rfl fun hC=>tz fh) ?_; refine aa rfl rfl (ap rfl rfl rfl fun hC h1 h2=>ti (cmp_is (ord_gt hz) (r2_cmp ((rr h1).mono (by decide)) ((rr h2).mono (by decide))))) ?_; refine p10 ?_; refine p20 ?_; refine p10 ?_; refine p01 e1_0 ?_; refine ak f1_0 ?_; refine p01 e1_0 ?_; refine ak f1'_0 ?_; refine aa rfl rfl (eb rfl rfl rfl) ?_; refine aa rfl rfl (ae rfl rfl fun hC h1=>tz (r2_gcd 19 h1 (by kernel_rfl) (by decide) (by simp))) ?_; refine aa rfl rfl (be [] rfl rfl fun hC=>tz ku) ?_; refine aa rfl rfl (ap rfl rfl rfl fun hC h1 h2=>ti (cmp_is (ord_gt hg) (r2_cmp ((rr h1).mono (by decide)) ((rr h2).mono (by decide))))) ?_; refine p10 ?_; refine p20 ?_; refine p10 ?_; exact ag rfl
 intro W x a1 hC hall ha hN1 hD1 bb1
 have e1:=le ha hall 2 26
 repeat first | apply lk | apply ll
 refine wp_ret ?_
 repeat (refine then_r ?_)
 exact bi (t:=2) rfl hD1 e1 ⟨rfl,bb1⟩
theorem refRight_no {w : World} {v1 : Value} {zx zy : Int} (hno : ¬ (0 < zy ∧ ((zgcd [(zx),(zy)] : Nat) : Int) = 1)) (h1 : Pr w v1 19 (zx) (zy)) : Calls Tryz.prog 20 #[v1] w (fun e w'=>e = .returned (.bool false) ∧ Below w.heap.size w w'):=by
 rcases Int.lt_trichotomy zy 0 with h | h | h
 · exact refRight_neg h h1
 · exact refRight_none h h1
 · refine refRight_gcd h ?_ h1; have:=jx h (x:=zx); have hn : ((zgcd [(zx),(zy)] : Nat) : Int) ≠ 1:=fun e=>hno ⟨h,e⟩; omega
theorem refTake_yes {w : World} {v1 : Value} {a : Rat} (h1 : Pr w v1 19 (a.num) ((a.den : Int))) :
   Calls Tryz.prog 67 #[v1] w (TellsP w 19 (a.num) ((a.den : Int))):=by
 obtain ⟨y1,z1,y1',z1',rfl,H1⟩:=h1.op
 go_enter Tryz.func67,Tryz.ntmps67
 repeat apply wp_seq
 refine ls fun K HK=>?_
 go_wp2
 refine HK.out _ _ (then_n ?_)
 refine lq (G:=fun W=>Code.wp _ _ _ _ W) ?_
 intro W_0 bb_0 K0 K1
 obtain ⟨f1_0,f1'_0⟩:=H1.out _ _ _ bb_0 K0
 have R_0:=kg K1
 clear K0 K1
 refine lm (G:=fun a=>Code.wp _ _ _ a _) 7 ?_
 intro a_0 ha hN_0 hD_0
 have e1_0:=lj ha 1 w.heap.size
 have e2_0:=lj ha 2 (w.heap.size + 1)
 repeat first | apply lk | apply ll
 refine ld bb_0 [kP 19 (a.num) ((a.den : Int)),lg] [[],[0]] [3,4] [] [] ?_ ?_
 ·
   refine aa rfl rfl (cf f1_0 f1'_0 e1_0 rfl) ?_; refine aa rfl rfl (ae rfl rfl fun hC h1=>ti (refRight_yes (pm h1))) ?_; exact ag rfl
 intro W_1 x a_1 hC hall ha hN_1 hD_1 bb_1
 have e1_1:=ab ha e1_0
 have e2_1:=ab ha e2_0
 have f1_1:=hC.at0 f1_0
 have f1'_1:=hC.at0 f1'_0
 have R_1:=hC.holds R_0
 have e4_1:=le ha hall 4 1
 repeat first | apply lk | apply ll
 refine wp_cond_true e4_1 ?_
 repeat first | apply lk | apply ll
 refine lu bb_1 R_1 [kP 19 (a.num) ((a.den : Int)),kRes (w.heap.size + 1) 19 (a.num) ((a.den : Int))] [[],[0]] [5,999] [] [] ?_ ?_
 ·
   refine aa rfl rfl (cf (hG:=(by simp only [List.mem_singleton]; omega)) f1_1 f1'_1 e1_1 rfl) ?_; refine aa rfl rfl (eu R_1 rfl e2_1 rfl rfl) ?_; exact ag rfl
 intro W x a1 hC hall ha hN1 hD1 bb1
 obtain ⟨cs,hg,hP⟩:=lr hall 1
 have e1:=ab (t:=2) ha e2_1
 repeat first | apply lk | apply ll
 refine wp_ret ?_
 repeat (refine then_r ?_)
 exact fy (t:=2) rfl hD1 e1 hg hP fun v hv=>⟨v,rfl,hv,bb1⟩
theorem refWhole {w : World} {v1 : Value} {z : Int} (h1 : Zr w v1 19 (z)) :
   Calls Tryz.prog 26 #[v1] w (TellsP w 19 (z) (1)):=by
 obtain ⟨y1,z1,rfl,H1⟩:=h1.op
 go_enter Tryz.func26,Tryz.ntmps26
 repeat apply wp_seq
 refine ls fun K HK=>?_
 go_wp2
 refine HK.out _ _ (then_n ?_)
 refine lq (G:=fun W=>Code.wp _ _ _ _ W) ?_
 intro W_0 bb_0 K0 K1
 have f1_0:=H1.out _ _ _ bb_0 K0
 have R_0:=kg K1
 clear K0 K1
 refine lm (G:=fun a=>Code.wp _ _ _ a _) 10 ?_
 intro a_0 ha hN_0 hD_0
 have e1_0:=lj ha 1 w.heap.size
 have e2_0:=lj ha 2 (w.heap.size + 1)
 repeat first | apply lk | apply ll
 refine ld bb_0 [kZ 19 (z),lg,lh] [[],[0],[1]] [3,4,5] [] [] ?_ ?_
 ·
   refine ai f1_0 e1_0 ?_; refine aa rfl rfl (ae rfl rfl fun hC h1=>ti (r2_right (rr h1))) ?_; refine p10 ?_; exact ag rfl
 intro W_1 x a_1 hC hall ha hN_1 hD_1 bb_1
 have e1_1:=ab ha e1_0
 have e2_1:=ab ha e2_0
 have f1_1:=hC.at0 f1_0
 have R_1:=hC.holds R_0
 have e5_1:=le ha hall 5 2
 repeat first | apply lk | apply ll
 refine wp_cond_false e5_1 ?_
 repeat first | apply lk | apply ll
 refine lu bb_1 R_1 [kZ 19 (z),kZ 1 (1),kP 19 (z) (1),kRes (w.heap.size + 1) 19 (z) (1)] [[],[],[0,1],[2]] [7,8,9,999] [] [] ?_ ?_
 ·
   refine ai (hG:=(by simp only [List.mem_singleton]; omega)) f1_1 e1_1 ?_; refine aa rfl rfl (be [] rfl rfl fun hC=>tz ku) ?_; refine aa rfl rfl (fx (k:=19) rfl rfl rfl) ?_; refine aa rfl rfl (eu R_1 rfl e2_1 rfl rfl) ?_; exact ag rfl
 intro W x a1 hC hall ha hN1 hD1 bb1
 obtain ⟨cs,hg,hP⟩:=lr hall 3
 have e1:=ab (t:=2) ha e2_1
 repeat first | apply lk | apply ll
 refine wp_ret ?_
 repeat (refine then_r ?_)
 exact fy (t:=2) rfl hD1 e1 hg hP fun v hv=>⟨v,rfl,hv,bb1⟩
theorem vals_take_succ {L : List Arow} {k : Nat} (hk : k < L.length) : (vals L).take (k + 1) = (vals L).take k ++ [val L[k].2.2]:=by
 rw [List.take_add_one,List.getElem?_eq_getElem (by simpa [vals] using hk)]
 simp only [vals,List.getElem_map,Option.toList_some]
theorem dval_bound {ds : List Nat} (h : dright ds) {N : Nat} (hv : dval ds < 1000000000 ^ N) : ds.length ≤ 9 * N:=by
 refine dright_length h ?_
 rw [Nat.pow_mul]; exact hv
theorem refAdd {w : World} {N : Nat} {A : Option Addr} {c : Nat} {L : List Arow} (hL : ka w A L) (hrow : ∀ r ∈ L,r.2.2.length ≤ 1100) (hacc : ∀ k,k ≤ L.length → ((vals L).take k).foldl (fun a b=>a + b) 0 < 1000000000 ^ N) (hN : N ≤ 10000) (hlen : L.length ≤ 100000) :
   Calls Tryz.prog 132 #[.slice A L.length c] w (RetNat w ((vals L).foldl (fun a b=>a + b) 0)):=by
 have HAcc:=Lib.hid hacc
 have HRow:=Lib.hid hrow
 clear hacc hrow
 obtain ⟨n,hn⟩ : ∃ n : Nat,n = L.length:=⟨_,rfl⟩
 have hn1 : n ≤ 100000:=by omega
 rw [← hn]
 have HN:=Lib.hid hn
 clear hn hlen
 go_enter Tryz.func132,Tryz.ntmps132
 go_wp2
 go_loopw [3, 4] (fun v iv wr => ∃ (k : Nat) (A' : Option Addr) (c' : Nat) (os : List Nat), k ≤ n ∧ iv = .int .i64 (k : Int) ∧ v = .slice A' os.length c' ∧ Row wr A' (u8s os) ∧ dright os ∧ Hid (dval os = ((vals L).take k).foldl (fun a b => a + b) 0) ∧ Below w.heap.size w wr)
   (fun _ iv _=>n - (intOf iv).toNat)
 case atStart=>exact ⟨0,none,0,[],Nat.zero_le _,rfl,rfl,Row.nil _ _,⟨bl _,.inl rfl⟩,by simp [Hid,dval],Below.refl _ _⟩
 case round =>
   obtain ⟨k,A',c',os,hk,rfl,rfl,hro,hos,HO,hb⟩:=hrel; have hsz:=hb.size; have hol : os.length ≤ 90000:=Nat.le_trans (dval_bound hos (by rw [HO.out]; exact HAcc.out k (by rw [← HN.out]; exact hk))) (by omega)
   by_cases hlt : k < n
   · have hkL : k < L.length:=by rw [← HN.out]; exact hlt
     obtain ⟨ad,rfl,hce⟩:=(hL.1.below hb).at_ (k:=k) (by rw [List.length_map]; exact hkL); rw [List.getElem_map] at hce; have hT:=vals_take_succ hkL
     obtain ⟨r,hr⟩ : ∃ r,r = L[k]:=⟨_,rfl⟩
     rw [← hr] at hce hT; have hrm : r ∈ L:=by rw [hr]; exact List.getElem_mem _
     have hrl:=HRow.out r hrm; obtain ⟨hrd0,hdsm,_⟩:=hL.2 _ hrm; obtain ⟨Ar,cr,ds⟩:=r; have hce' : wr.cell? (ad.add k) = some (.slice Ar ds.length cr):=hce; have hrd : Row wr Ar (u32s ds):=Row.below hrd0 hb; have hrl' : ds.length ≤ 1100:=hrl; have hread:=refRead (c:=cr) hrd hdsm hrl'; have HRD:=Lib.hid hread; have HT:=Lib.hid hT
     obtain ⟨M,hM1,hM2⟩ : ∃ M,M ≤ 1101 ∧ 1101 ≤ M:=⟨1101,Nat.le_refl _,Nat.le_refl _⟩
     have hdl : val ds < 1000000000 ^ M:=Nat.lt_of_lt_of_le (val_lt32 hdsm) (Nat.pow_le_pow_right (by decide) (by omega)); have HDL:=Lib.hid hdl; clear hr hce hrm hrl hread hT hkL hrd0 hdl
     go_wp2_with fail
     refine HRD.out.mono ?_; rintro e w2 ⟨A2,c2,es,rfl,hr2,hlc2,hes,hv2,hb2⟩; have hel : es.length ≤ 9 * M:=dval_bound hes (by rw [hv2]; exact HDL.out); have hpl:=refPlus (c1:=c') (c2:=c2) (hro.below hb2) hr2 hos.1 hes.1 (by omega) (by omega); have HPL:=Lib.hid hpl; have hb2':=hb.trans (hb2.mono hsz); have HV2:=Lib.hid hv2; clear hpl hb2 hb hv2 hrd hdsm
     go_wp2_with fail
     refine HPL.out.mono ?_; rintro e w3 ⟨A3,c3,fs,rfl,hr3,hlc3,hfs,hv3,hb3⟩; have hb3':=hb2'.trans (hb3.mono hb2'.size); have HV3:=Lib.hid hv3; clear hb3 hb2' hv3
     go_wp2
     go_roundw
     case rel=>exact ⟨k + 1,A3,c3,fs,by omega,by go_num,rfl,hr3,hfs,by
       show _ = _
       rw [HT.out,List.foldl_append,← HO.out,HV3.out,HV2.out]; rfl,hb3'⟩
     case measure=>simp [intOf]; omega
   · have hwr:=refWrite (c:=c') hro hos (by omega); have HW:=Lib.hid hwr; have hk' : k = n:=by omega
     have HV : Hid (dval os = (vals L).foldl (fun a b=>a + b) 0):=by
       show _ = _
       rw [HO.out,hk',HN.out,List.take_of_length_le (by simp [vals])]
     clear hwr
     go_wp2_with fail
     refine HW.out.mono ?_; rintro e w4 ⟨v,rfl,⟨rs,h1,h2,h3⟩,hb4⟩
     go_wp2
     go_ret
     exact ⟨_,rfl,⟨rs,h1,by rw [h2]; exact HV.out,h3.mono hsz⟩,hb.trans (hb4.mono hsz)⟩
def i64s (ds : List Nat) : List Value:=ds.map fun (d : Nat)=>Value.int .i64 (d : Int)
theorem i64s_length (ds : List Nat) : (i64s ds).length = ds.length:=by simp [i64s]
theorem info_int : (Tryz.prog.info? 3).map (fun i=>(i.zero,i.size,i.bytes)) = some (some (.int .i64 0),1,8):=by kernel_rfl
theorem own_zeros64 {w : World} {B n : Nat} {v : Value} (h : w.ownsRow B 3 1 v n (madeCells #[Value.int .i64 0] n).toList) : Own w B 3 v (i64s (List.replicate n 0)):=by
 rw [toList_madeCells_one,show List.replicate n (Value.int .i64 0) = i64s (List.replicate n 0) from by simp [i64s]] at h
 exact Own.mk_ h
theorem own_set64 {w : World} {B g n c : Nat} {ds : List Nat} (h : Own w B 3 (.slice (some ⟨g,0,none⟩) n c) (i64s ds)) (k d : Nat) :
   Own (w.setCell ⟨g,k,none⟩ (.int .i64 (d : Int))) B 3 (.slice (some ⟨g,0,none⟩) n c) (i64s (ds.set k d)):=by
 have hn:=h.lt.1
 have hh : w.ownsRow B 3 1 (.slice (some ⟨g,0,none⟩) n c) n (i64s ds):=by rw [hn]; rw [hn] at h; exact h
 have:=(hh.stored k (.int .i64 (d : Int))).1
 rw [show (i64s ds).set k (.int .i64 (d : Int)) = i64s (ds.set k d) from by simp [i64s,List.map_set]] at this
 exact Own.mk_ this
theorem own_cell64 {w : World} {B T g n c : Nat} {ds : List Nat} (h : Own w B T (.slice (some ⟨g,0,none⟩) n c) (i64s ds)) {k : Nat} (hk : k < ds.length) : w.cell? ⟨g,k,none⟩ = some (.int .i64 ((ds.getD k 0 : Nat) : Int)) ∧ w.frozen? ⟨g,k,none⟩ = false:=by
 obtain ⟨h1,h2⟩:=own_cell h (k:=k) (by rw [i64s_length]; exact hk)
 refine ⟨?_,h2⟩
 rw [h1]
 simp [i64s,List.getD_eq_getElem?_getD,List.getElem?_eq_getElem hk]
theorem dval_set {ps : List Nat} {k : Nat} (hk : k < ps.length) (d : Nat) : dval (ps.set k d) + 10 ^ k * ps.getD k 0 = dval ps + 10 ^ k * d:=by
 induction ps generalizing k with
 | nil=>simp at hk
 | cons p ps ih =>
   cases k with
   | zero=>simp [dval]; omega
   | succ k =>
     have:=ih (k:=k) (by simpa using hk); simp only [List.set_cons_succ,dval,List.getD_cons_succ,Nat.pow_succ]; rw [Nat.mul_comm (10 ^ k) 10,Nat.mul_assoc,Nat.mul_assoc]; omega
theorem dval_replicate (n : Nat) : dval (List.replicate n 0) = 0:=by
 induction n with
 | zero=>rfl
 | succ k ih=>rw [List.replicate_succ,dval,ih]
theorem dmul_step {ps ys : List Nat} {i j p x y V : Nat} (hk : i + j < ps.length) (hp : p = ps.getD (i + j) 0) (hy : ys.getD j 0 = y) (h : dval ps = V + x * 10 ^ i * dval (ys.take j)) :
   dval (ps.set (i + j) (p + x * y)) = V + x * 10 ^ i * dval (ys.take (j + 1)):=by
 have h1:=dval_set hk (p + x * y)
 rw [← hp,Nat.mul_add,h] at h1
 rw [co,hy,Nat.mul_add (x * 10 ^ i),show x * 10 ^ i * (10 ^ j * y) = 10 ^ (i + j) * (x * y) from by rw [Nat.pow_add]; ac_rfl]
 omega
theorem take_set_succ {os : List Nat} {k d : Nat} (h : k < os.length) : (os.set k d).take (k + 1) = os.take k ++ [d]:=by
 rw [List.take_add_one,List.getElem?_set_self h,List.take_set_of_le (Nat.le_refl _)]; rfl
theorem dcarry_step {os ps : List Nat} {k cy s : Nat} (hk : k < os.length) (hs : ps.getD k 0 = s) (h : dval (os.take k) + 10 ^ k * cy = dval (ps.take k)) :
   dval ((os.set k ((cy + s) % 10)).take (k + 1)) + 10 ^ (k + 1) * ((cy + s) / 10) = dval (ps.take (k + 1)):=by
 rw [take_set_succ hk,cn,co,hs,List.length_take,Nat.min_eq_left (by omega),Nat.pow_succ,Nat.mul_assoc]
 simp only [dval,Nat.mul_zero,Nat.add_zero]
 have h2:=Nat.mod_add_div (cy + s) 10
 have h3 : 10 ^ k * (cy + s) = 10 ^ k * ((cy + s) % 10) + 10 ^ k * (10 * ((cy + s) / 10)):=by rw [← Nat.mul_add,h2]
 rw [Nat.mul_add] at h3
 omega
theorem getD_set_same {ps : List Nat} {k d : Nat} (hk : k < ps.length) : (ps.set k d).getD k 0 = d:=by
 rw [List.getD_eq_getElem?_getD,List.getElem?_set_self hk]; rfl
theorem getD_set_le {ps : List Nat} {k d M : Nat} (h : ∀ t,ps.getD t 0 ≤ M) (hd : d ≤ M) (t : Nat) : (ps.set k d).getD t 0 ≤ M:=by
 by_cases ht : t = k
 · subst ht; rcases Nat.lt_or_ge t ps.length with hl | hl
   · rw [getD_set_same hl]; exact hd
   · rw [List.set_eq_of_length_le hl]; exact h t
 · rw [ek _ (by omega)]; exact h t
theorem xy_le {x y : Nat} (hx : x < 10) (hy : y < 10) : x * y ≤ 81:=Nat.mul_le_mul (show x ≤ 9 by omega) (show y ≤ 9 by omega)
theorem refTimes {w : World} {A1 A2 : Option Addr} {c1 c2 : Nat} {xs ys : List Nat} (hr1 : Row w A1 (u8s xs)) (hr2 : Row w A2 (u8s ys)) (hx : small 10 xs) (hy : small 10 ys) (hl1 : xs.length ≤ 100000) (hl2 : ys.length ≤ 100000) :
   Calls Tryz.prog 135 #[.slice A1 xs.length c1,.slice A2 ys.length c2] w (RetDec w (dval xs * dval ys)):=by
 obtain ⟨i0,hi,hz0,hz1,hz2⟩:=info_parts info_int
 obtain ⟨j0,hj,hy0,hy1,hy2⟩:=info_parts ko
 obtain ⟨n,hn⟩ : ∃ n : Nat,n = xs.length:=⟨_,rfl⟩
 obtain ⟨m,hm⟩ : ∃ m : Nat,m = ys.length:=⟨_,rfl⟩
 have hn1 : n ≤ 100000:=by omega
 have hm1 : m ≤ 100000:=by omega
 rw [← hn,← hm]
 have HN:=Lib.hid hn
 have HM:=Lib.hid hm
 clear hn hm
 rcases Nat.eq_zero_or_pos n with rfl | hn0
 · go_enter Tryz.func135,Tryz.ntmps135
   go_wp2
   all_goals
     go_ret
     exact ⟨none,0,[],rfl,Row.nil _ _,Nat.le_refl _,⟨bl _,.inl rfl⟩,by rw [List.eq_nil_of_length_eq_zero HN.out.symm]; simp [dval],Below.refl _ _⟩
 rcases Nat.eq_zero_or_pos m with rfl | hm0
 · have hnz : ((n : Int) == 0) = false:=by rw [beq_eq_false_iff_ne]; omega
   go_enter Tryz.func135,Tryz.ntmps135
   go_wp2
   all_goals
     go_ret
     exact ⟨none,0,[],rfl,Row.nil _ _,Nat.le_refl _,⟨bl _,.inl rfl⟩,by rw [List.eq_nil_of_length_eq_zero (l:=ys) HM.out.symm]; simp [dval],Below.refl _ _⟩
 have hnz : ((n : Int) == 0) = false:=by rw [beq_eq_false_iff_ne]; omega
 have hmz : ((m : Int) == 0) = false:=by rw [beq_eq_false_iff_ne]; omega
 go_enter Tryz.func135,Tryz.ntmps135
 go_wp2_with (at_make; refine wpList_make_full _ rfl _ _ 140 rfl w.heap.size 3 i0 (.int .i64 0) 1 Tryz.underlying140 hi hz0 hz1 .i64 .i64 ((n : Int) + (m : Int)) ((n : Int) + (m : Int)) (n + m) rfl rfl (by omega) (by omega) (by rw [hz2]; omega) (by unfold maxLen; omega) (by simp) ?_)
 intro w1 hown hgrow
 have ho1:=own_zeros64 hown
 have hb1 : Below w.heap.size w w1:=(Below.refl _ _).grown hgrow (Nat.le_refl _) (fun k h=>by cases h)
 clear hown hgrow
 go_wp2_with fail
 go_loopw [6] (fun iv wr => ∃ (i : Nat) (ps : List Nat), i ≤ n ∧ iv = .int .i64 (i : Int) ∧ Own wr w.heap.size 3 (.slice (some ⟨w.heap.size, 0, none⟩) (n + m) (n + m)) (i64s ps) ∧ Hid (ps.length = n + m ∧ dval ps = dval (xs.take i) * dval ys ∧ ∀ t, ps.getD t 0 ≤ 81 * i) ∧ Below w.heap.size w wr)
   (fun iv _=>n - (intOf iv).toNat)
 case atStart=>exact ⟨0,List.replicate (n + m) 0,Nat.zero_le _,rfl,ho1,⟨by simp,by rw [dval_replicate]; simp [dval],fun t=>by
   rw [List.getD_eq_getElem?_getD,List.getElem?_replicate]
   split <;> simp⟩,hb1⟩
 case round =>
   obtain ⟨i,ps,hi1,rfl,hp,HO,hb⟩:=hrel; have hsz:=hb.size
   by_cases hlt : i < n
   · obtain ⟨ad1,x,rfl,hxc,hxx,hxm⟩:=(hr1.below hb).byte (k:=i) (by rw [← HN.out]; exact hlt); have hx10:=hx x hxm; clear hxm
     go_wp2_with fail
     obtain ⟨V,hV⟩ : ∃ V,V = dval ps:=⟨_,rfl⟩
     have HV:=Lib.hid hV
     obtain ⟨wo,hwo⟩ : ∃ wo : World,wo = wr:=⟨_,rfl⟩
     have hb0 : Below w.heap.size w wo:=hwo ▸ hb; have hp0 : Own wo w.heap.size 3 (.slice (some ⟨w.heap.size,0,none⟩) (n + m) (n + m)) (i64s ps):=hwo ▸ hp; rw [← hwo]; clear hwo hb hp hsz hxc hV
     go_loopw [7] (fun jv wr => ∃ (j : Nat) (qs : List Nat), j ≤ m ∧ jv = .int .i64 (j : Int) ∧ Own wr w.heap.size 3 (.slice (some ⟨w.heap.size, 0, none⟩) (n + m) (n + m)) (i64s qs) ∧ Hid (qs.length = n + m ∧ dval qs = V + x * 10 ^ i * dval (ys.take j) ∧ (∀ t, qs.getD t 0 ≤ 81 * i + 81) ∧ ∀ t, i + j ≤ t → qs.getD t 0 ≤ 81 * i) ∧ Below w.heap.size w wr)
       (fun jv _=>m - (intOf jv).toNat)
     case atStart=>exact ⟨0,ps,Nat.zero_le _,rfl,hp0,⟨HO.out.1,by rw [HV.out]; simp [dval],fun t=>Nat.le_trans (HO.out.2.2 t) (by omega),fun t _=>HO.out.2.2 t⟩,hb0⟩
     case round =>
       obtain ⟨j,qs,hj1,rfl,hq,HQ,hbq⟩:=hrel; have hszq:=hbq.size
       by_cases hjm : j < m
       · obtain ⟨ad2,y,rfl,hyc,hyy,hym⟩:=(hr2.below hbq).byte (k:=j) (by rw [← HM.out]; exact hjm); have hy10:=hy y hym; obtain ⟨ad1',x',e1,hxc,hxx',_⟩:=(hr1.below hbq).byte (k:=i) (by rw [← HN.out]; exact hlt); injection e1 with e1; subst e1; obtain rfl : x' = x:=hxx'.out.symm.trans hxx.out; obtain ⟨hqc,hqf⟩:=own_cell64 hq (k:=i + j) (by rw [HQ.out.1]; omega)
         obtain ⟨p,hpe⟩ : ∃ p,p = qs.getD (i + j) 0:=⟨_,rfl⟩
         have hpb : p ≤ 81 * i:=by rw [hpe]; exact HQ.out.2.2.2 _ (Nat.le_refl _)
         rw [← hpe] at hqc; have hzb:=xy_le hx10 hy10; have hst:=dmul_step (ps:=qs) (ys:=ys) (i:=i) (j:=j) (p:=p) (x:=x') (y:=y) (V:=V) (by rw [HQ.out.1]; omega) hpe hyy.out HQ.out.2.1
         obtain ⟨z,hz⟩ : ∃ z,z = x' * y:=⟨_,rfl⟩
         have hzi : (x' : Int) * (y : Int) = (z : Int):=by rw [hz]; simp
         rw [← hz] at hzb hst; have HST:=Lib.hid hst; have hij : (i : Int) + (j : Int) < (n : Int) + (m : Int):=by omega
         have hij0 : 0 ≤ (i : Int) + (j : Int):=by omega
         clear hst hpe hz hym hxx'
         go_wp2
         go_region
         all_goals
           go_wp2
           go_roundw
           case rel=>exact ⟨j + 1,qs.set (i + j) (p + z),by omega,by go_num,by
             have:=own_set64 hq (i + j) (p + z); rw [show ((p + z : Nat) : Int) = (p : Int) + (z : Int) from by omega] at this
             exact this,⟨by rw [List.length_set]; exact HQ.out.1,HST.out,getD_set_le HQ.out.2.2.1 (by omega),fun t ht=>by rw [ek _ (by omega)]; exact HQ.out.2.2.2 t (by omega)⟩,Below.drew (hbq.setCell (Nat.le_refl _) _)⟩
           case measure=>first | (simp [intOf]; done) | (simp [intOf]; omega)
       · have hjm' : j = m:=by omega
         have HJ:=Lib.hid hjm'; clear hjm'
         go_wp2
         go_roundw
         case rel=>exact ⟨i + 1,qs,by omega,by go_num,hq,⟨HQ.out.1,by
           rw [HQ.out.2.1,HJ.out,HM.out,List.take_length,HV.out,HO.out.2.1,co,hxx.out,Nat.add_mul,Nat.mul_comm x],fun t=>Nat.le_trans (HQ.out.2.2.1 t) (by omega)⟩,hbq⟩
         case measure=>first | (simp [intOf]; done) | (simp [intOf]; omega)
   · have hin : i = n:=by omega
     have hPv : dval ps = dval xs * dval ys:=by rw [HO.out.2.1,hin,HN.out,List.take_length]
     have hPb : ∀ t,ps.getD t 0 ≤ 81 * n:=by rw [← hin]; exact HO.out.2.2
     have hPl:=HO.out.1; have HPV:=Lib.hid hPv; have HPB:=Lib.hid hPb; have HPL:=Lib.hid hPl; clear hin hPv hPb hPl
     go_wp2_with (at_make; refine wpList_make_full _ rfl _ _ 124 rfl wr.heap.size 5 j0 (.int .u8 0) 1 Tryz.underlying124 hj hy0 hy1 .i64 .i64 ((n : Int) + (m : Int)) ((n : Int) + (m : Int)) (n + m) rfl rfl (by omega) (by omega) (by rw [hy2]; omega) (by unfold maxLen; omega) (by simp) ?_)
     intro w4 hown4 hgrow4; have ho4:=jm hown4; have hb4 : Below wr.heap.size wr w4:=(Below.refl _ _).grown hgrow4 (Nat.le_refl _) (fun k h=>by cases h); clear hown4 hgrow4
     obtain ⟨W2,hW2⟩ : ∃ W2,W2 = wr:=⟨_,rfl⟩
     rw [← hW2] at hp hb hsz hb4 ho4 ⊢; clear hW2
     obtain ⟨g2,hg2⟩ : ∃ g2,g2 = W2.heap.size:=⟨_,rfl⟩
     rw [← hg2] at hsz hb4 ho4 ⊢; have HG:=Lib.hid hg2; clear hg2
     go_wp2_with fail
     go_loopw [9, 10] (fun cv kv wr => ∃ (k cy : Nat) (os : List Nat), k ≤ n + m ∧ kv = .int .i64 (k : Int) ∧ cv = .int .i64 (cy : Int) ∧ cy ≤ 81 * n ∧ Own wr g2 5 (.slice (some ⟨g2, 0, none⟩) (n + m) (n + m)) (u8s os) ∧ Hid (os.length = n + m ∧ small 10 os ∧ dval (os.take k) + 10 ^ k * cy = dval (ps.take k)) ∧ Below g2 W2 wr)
       (fun _ kv _=>n + m - (intOf kv).toNat)
     case atStart=>exact ⟨0,0,List.replicate (n + m) 0,Nat.zero_le _,rfl,rfl,Nat.zero_le _,ho4,⟨by simp,df _ _ (by decide),by simp [dval]⟩,hb4⟩
     case round =>
       obtain ⟨k,cy,os,hk,rfl,rfl,hcy,ho,HQ,hbk⟩:=hrel
       by_cases hkm : k < n + m
       · obtain ⟨hqc,hqf⟩:=own_cell64 (hp.below (hbk.mono (Nat.le_of_eq HG.out.symm))) (k:=k) (by rw [HPL.out]; omega)
         obtain ⟨s,hse⟩ : ∃ s,s = ps.getD k 0:=⟨_,rfl⟩
         have hsb : s ≤ 81 * n:=by rw [hse]; exact HPB.out _
         rw [← hse] at hqc; obtain ⟨hoc,hof⟩:=own_cell ho (k:=k) (by rw [av,HQ.out.1]; omega); have hst:=dcarry_step (os:=os) (ps:=ps) (k:=k) (cy:=cy) (s:=s) (by rw [HQ.out.1]; omega) hse.symm HQ.out.2.2; have HST:=Lib.hid hst; have hkm2 : (k : Int) < (n : Int) + (m : Int):=by omega
         clear hst hse
         go_wp2
         go_roundw
         case rel=>exact ⟨k + 1,(cy + s) / 10,os.set k ((cy + s) % 10),by omega,by go_num,by go_num,by omega,own_set8 ho k ((cy + s) % 10),⟨by rw [List.length_set]; exact HQ.out.1,fm HQ.out.2.1 _ (Nat.mod_lt _ (by decide)),HST.out⟩,hbk.setCell (Nat.le_refl _) _⟩
         case measure=>first | (simp [intOf]; done) | (simp [intOf]; omega)
       · have hkn : k = n + m:=by omega
         have hV : dval os = dval xs * dval ys:=by
           have h:=HQ.out.2.2; rw [hkn,List.take_of_length_le (by rw [HQ.out.1]; exact Nat.le_refl _),List.take_of_length_le (by rw [HPL.out]; exact Nat.le_refl _),HPV.out] at h
           have h2 : dval xs * dval ys < 10 ^ (n + m):=by
             rw [Nat.pow_add,HN.out,HM.out]; exact Nat.mul_lt_mul'' (dval_lt hx) (dval_lt hy)
           rcases Nat.eq_zero_or_pos cy with h3 | h3
           · rw [h3] at h; simpa using h
           · have h4 : 10 ^ (n + m) * 1 ≤ 10 ^ (n + m) * cy:=Nat.mul_le_mul_left _ h3; omega
         have HV:=Lib.hid hV; have hol : os.length ≤ 1000000:=by rw [HQ.out.1]; omega
         have htr:=jd (c:=n + m) ho.row8 hol (by rw [HQ.out.1]; exact Nat.le_refl _); rw [HQ.out.1] at htr; have HTR:=Lib.hid htr; have hsl : (strip os).length ≤ n + m:=by rw [← HQ.out.1]; exact strip_length os
         have hbF : Below w.heap.size w wr:=hb.trans (hbk.mono (by rw [HG.out]; exact hb.size)); clear htr hV hkn
         go_wp2_with fail
         refine HTR.out.mono ?_; rintro e w' ⟨⟨rfl,hrt⟩,rfl⟩
         go_wp2
         go_ret
         exact ⟨_,_,_,rfl,hrt,hsl,eo HQ.out.2.1,by rw [fu]; exact HV.out,hbF⟩
theorem dright_one : dright [1]:=⟨fun x hx=>by rw [List.mem_singleton.1 hx]; decide,.inr (by simp)⟩
theorem refMul {w : World} {N : Nat} {A : Option Addr} {c : Nat} {L : List Arow} (hL : ka w A L) (hrow : ∀ r ∈ L,r.2.2.length ≤ 1100) (hacc : ∀ k,k ≤ L.length → ((vals L).take k).foldl (fun a b=>a * b) 1 < 1000000000 ^ N) (hN : N ≤ 10000) (hlen : L.length ≤ 100000) :
   Calls Tryz.prog 106 #[.slice A L.length c] w (RetNat w ((vals L).foldl (fun a b=>a * b) 1)):=by
 have HAcc:=Lib.hid hacc
 have HRow:=Lib.hid hrow
 clear hacc hrow
 obtain ⟨n,hn⟩ : ∃ n : Nat,n = L.length:=⟨_,rfl⟩
 have hn1 : n ≤ 100000:=by omega
 rw [← hn]
 have HN:=Lib.hid hn
 clear hn hlen
 go_enter Tryz.func106,Tryz.ntmps106
 go_wp2
 go_loopw [3, 4] (fun v iv wr => ∃ (k : Nat) (A' : Option Addr) (c' : Nat) (os : List Nat), k ≤ n ∧ iv = .int .i64 (k : Int) ∧ v = .slice A' os.length c' ∧ Row wr A' (u8s os) ∧ dright os ∧ Hid (dval os = ((vals L).take k).foldl (fun a b => a * b) 1) ∧ Below w.heap.size w wr)
   (fun _ iv _=>n - (intOf iv).toNat)
 case atStart=>exact ⟨0,some ⟨w.heap.size,0,none⟩,1,[1],Nat.zero_le _,rfl,rfl,(own_lit8 w 1 (Nat.le_refl _)).row8,dright_one,by simp [Hid,dval],(Below.refl _ _).alloc (Nat.le_refl _) _⟩
 case round =>
   obtain ⟨k,A',c',os,hk,rfl,rfl,hro,hos,HO,hb⟩:=hrel; have hsz:=hb.size; have hol : os.length ≤ 90000:=Nat.le_trans (dval_bound hos (by rw [HO.out]; exact HAcc.out k (by rw [← HN.out]; exact hk))) (by omega)
   by_cases hlt : k < n
   · have hkL : k < L.length:=by rw [← HN.out]; exact hlt
     obtain ⟨ad,rfl,hce⟩:=(hL.1.below hb).at_ (k:=k) (by rw [List.length_map]; exact hkL); rw [List.getElem_map] at hce; have hT:=vals_take_succ hkL
     obtain ⟨r,hr⟩ : ∃ r,r = L[k]:=⟨_,rfl⟩
     rw [← hr] at hce hT; have hrm : r ∈ L:=by rw [hr]; exact List.getElem_mem _
     have hrl:=HRow.out r hrm; obtain ⟨hrd0,hdsm,_⟩:=hL.2 _ hrm; obtain ⟨Ar,cr,ds⟩:=r; have hce' : wr.cell? (ad.add k) = some (.slice Ar ds.length cr):=hce; have hrd : Row wr Ar (u32s ds):=Row.below hrd0 hb; have hrl' : ds.length ≤ 1100:=hrl; have hread:=refRead (c:=cr) hrd hdsm hrl'; have HRD:=Lib.hid hread; have HT:=Lib.hid hT
     obtain ⟨M,hM1,hM2⟩ : ∃ M,M ≤ 1101 ∧ 1101 ≤ M:=⟨1101,Nat.le_refl _,Nat.le_refl _⟩
     have hdl : val ds < 1000000000 ^ M:=Nat.lt_of_lt_of_le (val_lt32 hdsm) (Nat.pow_le_pow_right (by decide) (by omega)); have HDL:=Lib.hid hdl; clear hr hce hrm hrl hread hT hkL hrd0 hdl
     go_wp2_with fail
     refine HRD.out.mono ?_; rintro e w2 ⟨A2,c2,es,rfl,hr2,hlc2,hes,hv2,hb2⟩; have hel : es.length ≤ 9 * M:=dval_bound hes (by rw [hv2]; exact HDL.out); have hpl:=refTimes (c1:=c') (c2:=c2) (hro.below hb2) hr2 hos.1 hes.1 (by omega) (by omega); have HPL:=Lib.hid hpl; have hb2':=hb.trans (hb2.mono hsz); have HV2:=Lib.hid hv2; clear hpl hb2 hb hv2 hrd hdsm
     go_wp2_with fail
     refine HPL.out.mono ?_; rintro e w3 ⟨A3,c3,fs,rfl,hr3,hlc3,hfs,hv3,hb3⟩; have hb3':=hb2'.trans (hb3.mono hb2'.size); have HV3:=Lib.hid hv3; clear hb3 hb2' hv3
     go_wp2
     go_roundw
     case rel=>exact ⟨k + 1,A3,c3,fs,by omega,by go_num,rfl,hr3,hfs,by
       show _ = _
       rw [HT.out,List.foldl_append,← HO.out,HV3.out,HV2.out]; rfl,hb3'⟩
     case measure=>simp [intOf]; omega
   · have hwr:=refWrite (c:=c') hro hos (by omega); have HW:=Lib.hid hwr; have hk' : k = n:=by omega
     have HV : Hid (dval os = (vals L).foldl (fun a b=>a * b) 1):=by
       show _ = _
       rw [HO.out,hk',HN.out,List.take_of_length_le (by simp [vals])]
     clear hwr
     go_wp2_with fail
     refine HW.out.mono ?_; rintro e w4 ⟨v,rfl,⟨rs,h1,h2,h3⟩,hb4⟩
     go_wp2
     go_ret
     exact ⟨_,rfl,⟨rs,h1,by rw [h2]; exact HV.out,h3.mono hsz⟩,hb.trans (hb4.mono hsz)⟩
end Go.Proofs.YtifgcjpgelbelaaGreatDoor

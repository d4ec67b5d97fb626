/- A region that draws its order of evaluation, whose operations call, make and write memory: Contract of nat.DivMod: Contract of nat.number.times: Contracts of nat.fold with times, and of nat.Mul: Plain numbers: Contract of math/bits.Div64: Plain numbers: Contracts of nat.isDecimal, nat.read, nat.Of, and of whetstoneref01.Of: -/
import Derived.WalkKit
import Derived.Test.YtnbhihhjgpddcaaGreatDoorPR1
import Derived.Deep.DeepCutAuto
import Derived.Laws.Bits64b
import Derived.Lib.BitFns
import Derived.Deep.QuietTactic
import Derived.BigQuiet
import Derived.Deep.CutBlock
import Derived.Lib.MinMax
import Derived.Lib.ItoaMem
set_option maxRecDepth 100000
set_option maxHeartbeats 16000000
set_option linter.unusedVariables false
set_option linter.unusedSimpArgs false
namespace Go.Proofs.YtnbhihhjgpddcaaGreatDoor
open Go
def dstOf (ops : Array Oper) (i : Nat) : Option Tmp:=(ops[i]?).bind (·.dst)
def upd {α : Type} (f : Nat → α) (i : Nat) (v : α) : Nat → α:=fun j=>if j = i then v else f j
theorem dm {α : Type} (f : Nat → α) (i : Nat) (v : α) : upd f i v i = v:=if_pos rfl
theorem ct {α : Type} (f : Nat → α) {i j : Nat} (v : α) (h : j ≠ i) : upd f i v j = f j:=if_neg h
def putAll (dst : Nat → Option Tmp) (L : Nat → Bool) (x : Nat → Value) : Act → List Nat → Act
 | a,[]=>a
 | a,i :: is=>putAll dst L x (if L i = true then a.put (dst i) (x i) else a) is
section
variable {dst : Nat → Option Tmp}
theorem putAll_skip {L : Nat → Bool} {x : Nat → Value} {i : Nat} {v : Value} : ∀ (is : List Nat) (a : Act), i ∉ is → putAll dst (upd L i true) (upd x i v) a is = putAll dst L x a is
 | [],_,_=>rfl
 | j :: is,a,h=>by
   have hj : j ≠ i:=fun e=>h (e ▸ List.mem_cons_self); simp only [putAll,ct _ _ hj]; exact putAll_skip is _ fun h'=>h (List.mem_cons_of_mem _ h')
theorem iz {L : Nat → Bool} {x : Nat → Value} {d : Option Tmp} {v : Value} : ∀ (is : List Nat) (a : Act), (∀ j ∈ is, ∀ t, dst j = some t → d ≠ some t) → putAll dst L x (a.put d v) is = (putAll dst L x a is).put d v
 | [],_,_=>rfl
 | j :: is,a,h=>by
   simp only [putAll]; split
   · rw [Act.put_comm a v (x j) (x:=d) (y:=dst j) fun t ht hj=>h j List.mem_cons_self t hj ht]; exact iz is _ fun k hk=>h k (List.mem_cons_of_mem _ hk)
   · exact iz is _ fun k hk=>h k (List.mem_cons_of_mem _ hk)
theorem putAll_put {L : Nat → Bool} {x : Nat → Value} {i : Nat} {v : Value} (hd : ∀ i j t, dst i = some t → dst j = some t → i = j) (hL : L i = false) : ∀ (is : List Nat) (a : Act), i ∈ is → is.Nodup →
   putAll dst (upd L i true) (upd x i v) a is = (putAll dst L x a is).put (dst i) v
 | [],_,h,_=>by cases h
 | j :: is,a,h,hn=>by
   have hn':=List.nodup_cons.1 hn
   by_cases hj : j = i
   · subst hj; simp only [putAll,dm,if_true,hL]; rw [putAll_skip is _ hn'.1]; simp only [Bool.false_eq_true,if_false]; exact iz is a fun k hk t ht hjt=>hn'.1 (hd j k t hjt ht ▸ hk)
   · simp only [putAll,ct _ _ hj]; exact putAll_put hd hL is _ ((List.mem_cons.1 h).resolve_left fun e=>hj e.symm) hn'.2
theorem ja {L : Nat → Bool} {x : Nat → Value} : ∀ (is : List Nat) (a : Act), (putAll dst L x a is).tmps.size = a.tmps.size
 | [],_=>rfl
 | j :: is,a=>by
   simp only [putAll]; rw [ja is]; split
   · cases dst j <;> simp [Act.put]
   · rfl
theorem ik {L : Nat → Bool} {x : Nat → Value} {t : Nat} : ∀ (is : List Nat) (a : Act), (∀ j ∈ is, dst j ≠ some t) → (putAll dst L x a is).eval (.tmp t) = a.eval (.tmp t)
 | [],_,_=>rfl
 | j :: is,a,h=>by
   simp only [putAll]; rw [ik is _ fun k hk=>h k (List.mem_cons_of_mem _ hk)]; split
   · exact Act.eval_put fun d hd e=>h j List.mem_cons_self (by injection e with e; rw [hd,e])
   · rfl
theorem fh (a : Act) (d : Nat) (v : Value) (h : d < a.tmps.size) : (a.put (some d) v).eval (.tmp d) = v:=by
 simp [Act.eval,Act.put,h]
theorem jj {L : Nat → Bool} {x : Nat → Value} {t e : Nat} (hd : ∀ i j t, dst i = some t → dst j = some t → i = j) (hL : L e = true) (he : dst e = some t) : ∀ (is : List Nat) (a : Act), e ∈ is → t < a.tmps.size → (putAll dst L x a is).eval (.tmp t) = x e
 | [],_,h,_=>by cases h
 | j :: is,a,h,ht=>by
   simp only [putAll]
   have hs : t < (if L j = true then a.put (dst j) (x j) else a).tmps.size:=by
     split
     · cases dst j <;> simpa [Act.put] using ht
     · exact ht
   by_cases hm : e ∈ is
   · exact jj hd hL he is _ hm hs
   · have hje : e = j:=(List.mem_cons.1 h).resolve_right hm; subst hje; rw [ik is _ fun k hk hk'=>hm (hd e k t he hk' ▸ hk),if_pos hL,he]; exact fh a t (x e) ht
theorem jb {L : Nat → Bool} {x : Nat → Value} : ∀ (is : List Nat) (a : Act), (∀ i ∈ is, L i = true) → putAll dst L x a is = putAll dst (fun _ => true) x a is
 | [],_,_=>rfl
 | j :: is,a,h=>by
   simp only [putAll,h j List.mem_cons_self,if_true]; exact jb is _ fun k hk=>h k (List.mem_cons_of_mem _ hk)
end
def putE (x : Nat → Value) : Act → List (Nat × Option Tmp) → Act
 | a,[]=>a
 | a,p :: r=>putE x (a.put p.2 (x p.1)) r
theorem ld {dst : Nat → Option Tmp} {x : Nat → Value} : ∀ (es : List (Nat × Option Tmp)) (a : Act), (∀ p ∈ es, dst p.1 = p.2) → putE x a es = putAll dst (fun _ => true) x a (es.map (·.1))
 | [],_,_=>rfl
 | p :: r,a,h=>by
   simp only [putE,List.map_cons,putAll,if_true,h p List.mem_cons_self]; exact ld r _ fun q hq=>h q (List.mem_cons_of_mem _ hq)
def growOK (ops : Array Oper) (W : Nat → Bool) (es : List (List (Nat × Option Tmp))) (all : List (Nat × Option Tmp)) (sz : Nat) : Bool :=
 decide (((List.range ops.size).map fun i=>(i,dstOf ops i)) = all) && decide ((all.filterMap (·.2)).Nodup) && all.all (fun p=>match p.2 with | some d=>decide (d < sz) | none=>true) &&
 (List.range ops.size).all fun i => match ops[i]? with
   | none=>true
   | some o => (match o.guard with | none => W i | some g => (dstOf ops g.1).isSome && decide (g.1 < ops.size) && o.after.any (fun e => Region.binds .any e && e.on == g.1)) && (match o.op with | .select _ _ => false | _ => true) && o.after.all (fun e => !Region.binds .any e || decide (e.on < i)) &&
     (es.getD i []).all (fun p=>decide (dstOf ops p.1 = p.2) && decide (p.1 < ops.size) && o.after.any (fun e=>Region.binds .any e && e.on == p.1)) &&
     o.op.operands.all (fun x=>match x with | .tmp t=>(es.getD i []).any (fun p=>decide (p.2 = some t)) || all.all (fun p=>decide (p.2 ≠ some t)) | _=>true)
theorem nodup_dst {ops : Array Oper} (h : ((((List.range ops.size).map fun i=>(i,dstOf ops i))).filterMap (·.2)).Nodup) (i j : Nat) (t : Tmp) (hi : dstOf ops i = some t) (hj : dstOf ops j = some t) : i = j:=by
 have lt : ∀ k,dstOf ops k = some t → k < ops.size:=fun k hk=>by
   rcases Nat.lt_or_ge k ops.size with h | h
   · exact h
   · simp [dstOf,Array.getElem?_eq_none h] at hk
 have hli:=lt i hi
 have hlj:=lt j hj
 rw [List.filterMap_map] at h
 generalize ops.size = n at *
 have key : ∀ (l : List Nat),(l.filterMap ((fun p : Nat × Option Tmp=>p.2) ∘ fun i=>(i,dstOf ops i))).Nodup → i ∈ l → j ∈ l → i = j:=by
   intro l
   induction l with
   | nil=>intro _ h; cases h
   | cons k l ih =>
     intro hn h1 h2; simp only [List.filterMap_cons,Function.comp] at hn; rcases List.mem_cons.1 h1 with e1 | e1 <;> rcases List.mem_cons.1 h2 with e2 | e2
     · rw [e1,e2]
     · subst e1; rw [hi] at hn; exact absurd (List.mem_filterMap.2 ⟨j,e2,hj⟩) (List.nodup_cons.1 hn).1
     · subst e2; rw [hj] at hn; exact absurd (List.mem_filterMap.2 ⟨i,e1,hi⟩) (List.nodup_cons.1 hn).1
     · refine ih ?_ e1 e2
       revert hn
       cases dstOf ops k with
       | none=>exact id
       | some d=>exact fun hn=>(List.nodup_cons.1 hn).2
 exact key _ h (List.mem_range.2 hli) (List.mem_range.2 hlj)
def retOf (dst : Option Tmp) (a : Act) : Value := match dst with
 | some d=>a.eval (.tmp d)
 | none=>undef
theorem put_ret (dst : Option Tmp) (a a1 : Act) (v : Value) (h : ∀ d,dst = some d → d < a1.tmps.size) : a.put dst (retOf dst (a1.put dst v)) = a.put dst v:=by
 cases dst with
 | none=>rfl
 | some d =>
   show a.put (some d) ((a1.put (some d) v).eval (.tmp d)) = _
   rw [fh a1 d v (h d rfl)]
section
variable {P : Program}
theorem wp_transfer {o : Oper} {a a1 : Act} {w : World} {K : Value → World → Prop} {next : Act → World → Prop} {Q : Exit → Act → World → Prop} (he : execOp a.eval o = execOp a1.eval o) (hdst : ∀ d, o.dst = some d → d < a1.tmps.size)
   (hn : ∀ v w',K v w' → next (a.put o.dst v) w') (h : o.wp P a1 w (fun a' w'=>a'.defers = a1.defers ∧ K (retOf o.dst a') w') (fun _ _ _=>False)) : o.wp P a w next Q:=by
 unfold Oper.wp at *
 rw [he]
 have key : ∀ v w',(a1.put o.dst v).defers = a1.defers ∧ K (retOf o.dst (a1.put o.dst v)) w' → next (a.put o.dst v) w':=fun v w' hk=>by
   have:=hn _ _ hk.2
   rwa [put_ret o.dst a a1 v hdst] at this
 generalize (execOp a1.eval o).run P w = r at *
 cases r with
 | ok n w' =>
   cases n <;> simp only [Oper.upon] at h ⊢
   case value v=>exact key _ _ h
   case skip=>exact key _ _ h
   case defer d =>
     have h1:=congrArg List.length h.1; have h2 : (({ a1 with defers:=d :: a1.defers } : Act).put o.dst undef).defers = d :: a1.defers:=by cases o.dst <;> rfl
     rw [h2,List.length_cons] at h1; omega
   case enter f args =>
     refine Calls.mono h fun e w'' hh=>?_
     cases e with
     | returned v=>exact key _ _ hh
     | panicked c=>exact hh.elim
     | outgrown=>exact hh.elim fun _ hh=>hh.elim fun _ hh=>hh.elim
   case row row args=>exact Rows.mono h fun v w'' hh=>key _ _ hh
 | halt x w'=>cases x <;> simp only [Oper.upon] at h
def GrowStep (P : Program) (Inv : (Nat → Bool) → (Nat → Value) → World → Prop) (a0 : Act) (i : Nat) (o : Oper) (es : List (Nat × Option Tmp)) : Prop :=
 ∀ L x w, Inv L x w → L i = false → (∀ p ∈ es, L p.1 = true) → ∀ K : Value → World → Prop, (∀ v w', Inv (upd L i true) (upd x i v) w' → K v w') →
   o.wp P (putE x a0 es) w (fun a' w'=>a'.defers = (putE x a0 es).defers ∧ K (retOf o.dst a') w') (fun _ _ _=>False)
theorem count_one {p q : Nat → Bool} {i : Nat} (hp : p i = true) (hq : q i = false) (h : ∀ j, j ≠ i → q j = p j) : ∀ l : List Nat, l.Nodup → i ∈ l → l.countP q + 1 = l.countP p
 | [],_,h=>by cases h
 | j :: l,hn,hm=>by
   have hn':=List.nodup_cons.1 hn
   by_cases hj : j = i
   · subst hj
     have : l.countP q = l.countP p:=List.countP_congr fun k hk=>by
       rw [h k fun e=>hn'.1 (e ▸ hk)]
     rw [List.countP_cons,List.countP_cons,hp,hq,this]; simp
   · have:=count_one hp hq h l hn'.2 ((List.mem_cons.1 hm).resolve_left fun e=>hj e.symm); rw [List.countP_cons,List.countP_cons,h j hj]; omega
theorem wpAny_grow {ops : Array Oper} {Q : Exit → Act → World → Prop} {a0 : Act} (Inv : (Nat → Bool) → (Nat → Value) → World → Prop) (W : Nat → Bool) (es : List (List (Nat × Option Tmp))) (all : List (Nat × Option Tmp)) (hchk : growOK ops W es all a0.tmps.size = true)
   (hg : ∀ i o g,ops[i]? = some o → o.guard = some g → ∀ L x w,Inv L x w → L g.1 = true → (∃ c,x g.1 = .bool c ∧ (c == g.2) = W i) ∨ (x g.1 = undef ∧ W i = false))
   (hskip : ∀ i,i < ops.size → W i = false → ∀ L x w,Inv L x w → L i = false → Inv (upd L i true) (upd x i undef) w)
   (hs : ∀ i o,ops[i]? = some o → W i = true → GrowStep P Inv a0 i o (es.getD i [])) (hend : ∀ L x w',(∀ i,i < ops.size → L i = true) → Inv L x w' → Q .normal (putE x a0 all) w') :
   ∀ (fuel : Nat) (listed : Array Bool) (x : Nat → Value) (w : World), listed.size = ops.size → (List.range ops.size).countP (fun i => !listed.getD i true) ≤ fuel → Inv (fun i => listed.getD i true) x w →
     wpAny P .any ops Q fuel listed (putAll (dstOf ops) (fun i=>listed.getD i true) x a0 (List.range ops.size)) w:=by
 unfold growOK at hchk
 simp only [Bool.and_eq_true,decide_eq_true_eq] at hchk
 obtain ⟨⟨⟨hall,hnd⟩,hsz⟩,hops⟩:=hchk
 have hdd:=nodup_dst (ops:=ops) (by rw [hall]; exact hnd)
 have hpair : ∀ p ∈ all,dstOf ops p.1 = p.2:=fun p hp=>by
   rw [← hall] at hp; obtain ⟨i,_,rfl⟩:=List.mem_map.1 hp; rfl
 have hmap : all.map (·.1) = List.range ops.size:=by
   rw [← hall,List.map_map]; exact List.map_id _
 have hdst : ∀ i d,dstOf ops i = some d → d < a0.tmps.size:=fun i d hi=>by
   have hl : i < ops.size:=by
     rcases Nat.lt_or_ge i ops.size with h | h
     · exact h
     · simp [dstOf,Array.getElem?_eq_none h] at hi
   have:=List.all_eq_true.1 hsz (i,dstOf ops i) (by rw [← hall]; exact List.mem_map.2 ⟨i,List.mem_range.2 hl,rfl⟩)
   simpa [hi] using this
 have hop : ∀ i o, ops[i]? = some o → i < ops.size ∧ ((o.guard = none ∧ W i = true) ∨ ∃ g d, o.guard = some g ∧ dstOf ops g.1 = some d ∧ g.1 < ops.size ∧ ∃ e ∈ o.after.toList, Region.binds .any e = true ∧ e.on = g.1) ∧ (∀ cs b, o.op ≠ .select cs b) ∧ (∀ e ∈ o.after.toList, Region.binds .any e = true → e.on < i) ∧
     (∀ p ∈ es.getD i [],dstOf ops p.1 = p.2 ∧ p.1 < ops.size ∧ ∃ e ∈ o.after.toList,Region.binds .any e = true ∧ e.on = p.1) ∧
     (∀ t,.tmp t ∈ o.op.operands → (∃ p ∈ es.getD i [],p.2 = some t) ∨ ∀ j,dstOf ops j ≠ some t):=fun i o ho=>by
   have hl : i < ops.size:=(Array.getElem?_eq_some_iff.1 ho).1; have h:=List.all_eq_true.1 hops i (List.mem_range.2 hl); rw [ho] at h; simp only [Bool.and_eq_true] at h; obtain ⟨⟨⟨⟨h1,h2⟩,h3⟩,h4⟩,h5⟩:=h; refine ⟨hl,?_,fun cs b e=>by rw [e] at h2; simp at h2,fun e he hb=>?_,fun p hp=>?_,fun t ht=>?_⟩
   · cases hgd : o.guard with
     | none=>rw [hgd] at h1; exact .inl ⟨rfl,h1⟩
     | some g =>
       rw [hgd] at h1; simp only [Bool.and_eq_true,decide_eq_true_eq] at h1; obtain ⟨⟨q1,q2⟩,q3⟩:=h1; obtain ⟨d,hd⟩:=Option.isSome_iff_exists.1 q1; obtain ⟨e,he,hh⟩:=Array.any_eq_true'.1 q3; simp only [Bool.and_eq_true,beq_iff_eq] at hh; exact .inr ⟨g,d,rfl,hd,q2,e,Array.mem_toList_iff.2 he,hh⟩
   · have:=Array.all_eq_true'.1 h3 e (Array.mem_toList_iff.1 he)
     simpa [hb] using this
   · have:=List.all_eq_true.1 h4 p hp; simp only [Bool.and_eq_true,decide_eq_true_eq] at this; refine ⟨this.1.1,this.1.2,?_⟩; obtain ⟨e,he,hh⟩:=Array.any_eq_true'.1 this.2; simp only [Bool.and_eq_true,beq_iff_eq] at hh; exact ⟨e,Array.mem_toList_iff.2 he,hh⟩
   · have:=Array.all_eq_true'.1 h5 _ ht; simp only [Bool.or_eq_true] at this; rcases this with h | h
     · left; obtain ⟨p,hp,hh⟩:=List.any_eq_true.1 h; exact ⟨p,hp,by simpa using hh⟩
     · right; intro j hj
       have hlj : j < ops.size:=by
         rcases Nat.lt_or_ge j ops.size with h | h
         · exact h
         · simp [dstOf,Array.getElem?_eq_none h] at hj
       have:=List.all_eq_true.1 h (j,dstOf ops j) (by rw [← hall]; exact List.mem_map.2 ⟨j,List.mem_range.2 hlj,rfl⟩); simp [hj] at this
 intro fuel
 induction fuel with
 | zero =>
   intro listed x w hl hc hI
   have hL : ∀ i,i < ops.size → listed.getD i true = true:=fun i hi=>by
     have:=List.countP_eq_zero.1 (Nat.le_zero.1 hc) i (List.mem_range.2 hi)
     simpa using this
   refine ⟨List.filter_eq_nil_iff.2 fun i hi=>by simp [hL i (List.mem_range.1 hi)],?_⟩; rw [jb _ _ fun i hi=>hL i (List.mem_range.1 hi),← hmap,← ld all a0 hpair]; exact hend _ _ _ hL hI
 | succ fuel ih =>
   intro listed x w hl hc hI; refine ⟨fun hr=>?_,fun i hi=>?_⟩
   · have hL : ∀ i,i < ops.size → listed.getD i true = true:=by
       intro i
       induction i using Nat.strongRecOn with
       | _ i ihi =>
         intro hi; have hn:=List.filter_eq_nil_iff.1 hr i (List.mem_range.2 hi); have ho : ops[i]? = some ops[i]:=Array.getElem?_eq_getElem hi; obtain ⟨_,_,_,h4,_⟩:=hop i _ ho
         cases hb : listed.getD i true with
         | true=>rfl
         | false =>
           refine absurd ?_ hn; rw [ho,hb]; simp only [Bool.not_false,Bool.true_and,Option.map_some,Option.getD_some]; refine Array.all_eq_true'.2 fun e he=>?_
           cases hbe : Region.binds .any e with
           | false=>rfl
           | true =>
             have h5:=h4 e (Array.mem_toList_iff.2 he) hbe; have h6:=ihi _ h5 (by omega)
             have h7 : listed.getD e.on false = listed.getD e.on true:=by
               have : e.on < listed.size:=by omega
               simp [Array.getD,this]
             rw [h7,h6]; rfl
     rw [jb _ _ fun i hi=>hL i (List.mem_range.1 hi),← hmap,← ld all a0 hpair]; exact hend _ _ _ hL hI
   · obtain ⟨hir,hi2⟩:=List.mem_filter.1 hi; have hil : i < ops.size:=List.mem_range.1 hir; have ho : ops[i]? = some ops[i]:=Array.getElem?_eq_getElem hil; obtain ⟨_,hg0,hsel,h4,h5,h6⟩:=hop i _ ho
     generalize ops[i] = o at *
     rw [ho] at hi2; simp only [Bool.and_eq_true,Bool.not_eq_true',Option.map_some,Option.getD_some] at hi2
     have hdep : ∀ p ∈ es.getD i [],listed.getD p.1 true = true:=fun p hp=>by
       obtain ⟨_,q2,e,he,hb,hon⟩:=h5 p hp; have:=Array.all_eq_true'.1 hi2.2 e (Array.mem_toList_iff.1 he); rw [hb,hon] at this; have hlt : p.1 < listed.size:=by omega
       simpa [Array.getD,hlt] using this
     have hnext : ∀ v w',Inv (upd (fun j=>listed.getD j true) i true) (upd x i v) w' → wpAny P .any ops Q fuel (listed.setIfInBounds i true) ((putAll (dstOf ops) (fun i=>listed.getD i true) x a0 (List.range ops.size)).put o.dst v) w':=fun v w' hI'=>by
       have hLL : (fun j=>(listed.setIfInBounds i true).getD j true) = upd (fun j=>listed.getD j true) i true:=by
         funext j
         unfold upd
         by_cases hj : j = i
         · subst hj; have : j < listed.size:=by omega
           simp [Array.getD,this]
         · rw [if_neg hj]; simp only [Array.getD_eq_getD_getElem?]; rw [Array.getElem?_setIfInBounds_ne (fun e=>hj e.symm)]
       have hod : dstOf ops i = o.dst:=by simp [dstOf,ho]
       have:=ih (listed.setIfInBounds i true) (upd x i v) w' (by simpa using hl) (by
         have hc1:=count_one (p:=fun j=>!listed.getD j true) (q:=fun j=>!(listed.setIfInBounds i true).getD j true) (i:=i) (by simp [hi2.1]) (by
           have:=congrFun hLL i; simp only [dm] at this
           simp [this]) (fun j hj=>by
           have:=congrFun hLL j; rw [ct _ _ hj] at this
           simp only [this]) (List.range ops.size) List.nodup_range hir
         omega) (by rw [hLL]; exact hI')
       rw [hLL,putAll_put hdd (L:=fun j=>listed.getD j true) hi2.1 _ _ hir List.nodup_range,hod] at this; exact this
     have hdepG : ∀ g d,(∃ e ∈ o.after.toList,Region.binds .any e = true ∧ e.on = g) → dstOf ops g = some d → g < ops.size → listed.getD g true = true:=fun g d ⟨e,he,hb,hon⟩ _ hgl=>by
       have:=Array.all_eq_true'.1 hi2.2 e (Array.mem_toList_iff.1 he); rw [hb,hon] at this; have hlt : g < listed.size:=by omega
       simpa [Array.getD,hlt] using this
     have hwant : Region.wanted o (yielded ops (putAll (dstOf ops) (fun i=>listed.getD i true) x a0 (List.range ops.size)).tmps) = W i:=by
       rcases hg0 with ⟨h1,h2⟩ | ⟨g,d,h1,h2,h3,h4⟩
       · rw [h2]; simp [Region.wanted,h1]
       · have hLg:=hdepG g.1 d h4 h2 h3; have hev:=jj (L:=fun i=>listed.getD i true) (x:=x) hdd hLg h2 (List.range ops.size) a0 (List.mem_range.2 h3) (hdst _ _ h2)
         have hyx : (ops[g.1]?).bind (·.dst) = some d ∧ (putAll (dstOf ops) (fun i=>listed.getD i true) x a0 (List.range ops.size)).tmps[d]? = some (x g.1):=by
           have hsz2 : d < (putAll (dstOf ops) (fun i=>listed.getD i true) x a0 (List.range ops.size)).tmps.size:=by rw [ja]; exact hdst _ _ h2
           refine ⟨h2,?_⟩; rw [← hev]
           show _ = some (Array.getD _ d undef)
           rw [Array.getD,dif_pos hsz2]; exact Array.getElem?_eq_getElem hsz2
         rcases hg i o g ho h1 (fun i=>listed.getD i true) x w hI hLg with ⟨c,hc,hcw⟩ | ⟨hc,hcw⟩
         · have hyd : yielded ops (putAll (dstOf ops) (fun i=>listed.getD i true) x a0 (List.range ops.size)).tmps g.1 = some c:=by
             unfold yielded; rw [hyx.1,Option.bind_some,hyx.2,hc]
           rw [← hcw]; simp only [Region.wanted,h1,hyd]
           cases c <;> cases g.2 <;> rfl
         · have hyd : yielded ops (putAll (dstOf ops) (fun i=>listed.getD i true) x a0 (List.range ops.size)).tmps g.1 = none:=by
             unfold yielded; rw [hyx.1,Option.bind_some,hyx.2,hc]; rfl
           rw [hcw]; simp only [Region.wanted,h1,hyd]; rfl
     unfold wpOp; rw [ho]
     show if Region.wanted o _ = true then _ else _
     cases hWi : W i with
     | false =>
       rw [hwant,hWi,if_neg (by decide)]; exact hnext _ _ (hskip i hil hWi _ _ _ hI hi2.1)
     | true =>
     rw [hwant,hWi,if_pos rfl]; left; have hst:=hs i o ho hWi (fun i=>listed.getD i true) x w hI hi2.1 hdep (fun v w'=>wpAny P .any ops Q fuel (listed.setIfInBounds i true) ((putAll (dstOf ops) (fun i=>listed.getD i true) x a0 (List.range ops.size)).put o.dst v) w') hnext; refine wp_transfer ?_ ?_ (fun v w' hk=>hk) hst
     · refine execOp_congr o hsel fun y hy=>?_
       cases y with
       | tmp t =>
         have hpe:=ld (x:=x) (es.getD i []) a0 fun p hp=>(h5 p hp).1; rw [hpe]; rcases h6 t hy with ⟨p,hp,hpt⟩ | hno
         · have hq:=(h5 p hp).1; rw [hpt] at hq; rw [jj hdd (hdep p hp) hq _ _ (List.mem_range.2 (h5 p hp).2.1) (hdst _ _ hq),jj hdd (L:=fun _=>true) rfl hq _ _ (List.mem_map.2 ⟨p,hp,rfl⟩) (hdst _ _ hq)]
         · rw [ik _ _ fun j _=>hno j,ik _ _ fun j _=>hno j]
       | _=>rfl
     · intro d hd; rw [ld (dst:=dstOf ops) _ _ fun p hp=>(h5 p hp).1,ja]; exact hdst i d (by simp [dstOf,ho,hd])
theorem wpAny_ord {P : Program} {ops : Array Oper} {Q : Exit → Act → World → Prop} (hb : ∀ (i : Nat) (o : Oper),ops[i]? = some o → ∀ e ∈ o.after.toList,Region.binds .any e = true → e.on < i) :
   ∀ (n k : Nat) (listed : Array Bool) (a : Act) (w : World), k + n = ops.size → listed.size = ops.size → (∀ j, j < k → listed.getD j false = true) → (∀ j, k ≤ j → j < ops.size → listed.getD j true = false) →
     wpAny P .any ops Q n listed a w → wpOps P ops Q (List.range' k n) a w
 | 0,k,listed,a,w,_,_,_,_,h=>h.2
 | n + 1,k,listed,a,w,hk,hl,h1,h2,h=>by
   have hkl : k < ops.size:=by omega
   have hr : k ∈ Region.ready .any ops listed:=by
     unfold Region.ready; refine List.mem_filter.2 ⟨List.mem_range.2 hkl,?_⟩; rw [h2 k (Nat.le_refl _) hkl,Array.getElem?_eq_getElem hkl]; simp only [Bool.not_false,Bool.true_and,Option.map_some,Option.getD_some]; refine Array.all_eq_true'.2 fun e he=>?_
     cases hbd : Region.binds .any e with
     | false=>rfl
     | true =>
       have:=hb k ops[k] (Array.getElem?_eq_getElem hkl) e (Array.mem_toList_iff.2 he) hbd; rw [h1 e.on this]; rfl
   rw [List.range'_succ,wpOps_cons]; refine wpOp_mono (fun a w=>wpAny_ord hb n (k + 1) _ a w (by omega) (by simpa using hl) (fun j hj=>?_) fun j hj hj2=>?_) (h.2 k hr)
   · by_cases e : j = k
     · subst e; have : j < listed.size:=by omega
       simp [Array.getD,this]
     · exact (getD_set_ne (i:=k) false (fun h=>e h.symm)).trans (h1 j (by omega))
   · exact (getD_set_ne (i:=k) true (by omega)).trans (h2 j (by omega) hj2)
theorem wp_region_grow {id : Nat} {draw : Bool} {ops : Array Oper} {Q : Exit → Act → World → Prop} {a0 : Act} {w : World} (hm : P.follows .mixedOrders = true) (Inv : (Nat → Bool) → (Nat → Value) → World → Prop) (W : Nat → Bool) (es : List (List (Nat × Option Tmp))) (all : List (Nat × Option Tmp)) (hchk : growOK ops W es all a0.tmps.size = true)
   (h0 : ∀ W',W' = w ∨ W' = w.drew → Inv (fun i=>decide (ops.size ≤ i)) (fun _=>undef) W') (hg : ∀ i o g,ops[i]? = some o → o.guard = some g → ∀ L x w,Inv L x w → L g.1 = true → (∃ c,x g.1 = .bool c ∧ (c == g.2) = W i) ∨ (x g.1 = undef ∧ W i = false))
   (hskip : ∀ i,i < ops.size → W i = false → ∀ L x w,Inv L x w → L i = false → Inv (upd L i true) (upd x i undef) w) (hs : ∀ i o,ops[i]? = some o → W i = true → GrowStep P Inv a0 i o (es.getD i [])) (hend : ∀ L x w',(∀ i,i < ops.size → L i = true) → Inv L x w' → Q .normal (putE x a0 all) w') :
   (Code.region id ops draw).wp P Q a0 w:=by
 have hLL : (fun i=>(Array.replicate ops.size false).getD i true) = fun i=>decide (ops.size ≤ i):=by
   funext i
   by_cases h : i < ops.size
   · simp [Array.getD,h]
   · simp [Array.getD,h]; omega
 have hmain : ∀ W',Inv (fun i=>decide (ops.size ≤ i)) (fun _=>undef) W' → wpAny P .any ops Q ops.size (Array.replicate ops.size false) a0 W':=by
   intro W' h0; have h:=wpAny_grow Inv W es all hchk hg hskip hs hend ops.size (Array.replicate ops.size false) (fun _=>undef) W' (by simp) (Nat.le_trans List.countP_le_length (by simp)) (by rw [hLL]; exact h0)
   have hz : ∀ (is : List Nat) (a : Act),(∀ i ∈ is,i < ops.size) → putAll (dstOf ops) (fun i=>(Array.replicate ops.size false).getD i true) (fun _=>undef) a is = a:=by
     intro is
     induction is with
     | nil=>intro a _; rfl
     | cons j is ih =>
       intro a h; have hj:=h j List.mem_cons_self; simp only [putAll]; rw [if_neg (by simp [Array.getD,hj])]; exact ih a fun k hk=>h k (List.mem_cons_of_mem _ hk)
   rw [hz _ _ fun i hi=>List.mem_range.1 hi] at h; exact h
 cases draw with
 | true=>exact wp_region_any hm (hmain _ (h0 _ (.inr rfl)))
 | false =>
   refine wp_region ?_; rw [List.range_eq_range']; have hchk':=hchk; unfold growOK at hchk'; simp only [Bool.and_eq_true,decide_eq_true_eq] at hchk'; refine wpAny_ord (fun i o ho e he hb=>?_) ops.size 0 _ a0 w (by omega) (by simp) (fun j hj=>by omega) (fun j _ hj=>by simp [Array.getD,hj]) (hmain _ (h0 _ (.inl rfl))); have hl : i < ops.size:=(Array.getElem?_eq_some_iff.1 ho).1; have h:=List.all_eq_true.1 hchk'.2 i (List.mem_range.2 hl); rw [ho] at h; simp only [Bool.and_eq_true] at h; have:=Array.all_eq_true'.1 h.1.1.2 e (Array.mem_toList_iff.1 he)
   simpa [hb] using this
end
end Go.Proofs.YtnbhihhjgpddcaaGreatDoor
namespace Go.Proofs.YtnbhihhjgpddcaaGreatDoor
open Go.RowKit
theorem cell_of_two {w : World} {g : Nat} {a b : Value} {t : TypeId} (h : w.heap[g]? = some (.cells #[a,b] t (0,0))) : w.cell? ⟨g,0,none⟩ = some a ∧ w.cell? ⟨g,1,none⟩ = some b ∧ w.frozen? ⟨g,0,none⟩ = false ∧ w.frozen? ⟨g,1,none⟩ = false:=by
 refine ⟨?_,?_,?_,?_⟩ <;> simp [World.cell?,World.frozen?,h]
def noDig (u : Value) : Prop:=∀ d : Nat,u ≠ .int .u32 (d : Int)
theorem noDig_slice (A : Option Addr) (k c : Nat) : noDig (.slice A k c):=fun _ h=>by cases h
theorem noDig_bool (b : Bool) : noDig (.bool b):=fun _ h=>by cases h
def Holds_ (w : World) (g : Nat) (cs : Array Value) : Prop:=(∃ T,w.heap[g]? = some (.cells cs T (0,0))) ∧ ∀ u ∈ cs,noDig u
theorem Holds_.lt {w : World} {g : Nat} {cs : Array Value} (h : Holds_ w g cs) : g < w.heap.size:=by
 obtain ⟨⟨_,h⟩,_⟩:=h
 exact lt_block h
theorem Holds_.step {w w' : World} {g : Nat} {cs : Array Value} (h : Holds_ w g cs) (hb : Below w.heap.size w w') : Holds_ w' g cs:=by
 have hl:=h.lt
 obtain ⟨⟨T,h1⟩,h2⟩:=h
 exact ⟨⟨T,(hb.block g hl).trans h1⟩,h2⟩
theorem Holds_.two {w : World} {g : Nat} {a b : Value} (h : Holds_ w g #[a,b]) : w.cell? ⟨g,0,none⟩ = some a ∧ w.cell? ⟨g,1,none⟩ = some b ∧ w.frozen? ⟨g,0,none⟩ = false ∧ w.frozen? ⟨g,1,none⟩ = false:=by
 obtain ⟨⟨T,h1⟩,_⟩:=h
 exact cell_of_two h1
theorem Holds_.one {w : World} {g : Nat} {a : Value} (h : Holds_ w g #[a]) : w.cell? ⟨g,0,none⟩ = some a ∧ w.frozen? ⟨g,0,none⟩ = false:=by
 obtain ⟨⟨T,h1⟩,_⟩:=h
 exact ⟨cell_of_one h1,free_of_one h1⟩
theorem Holds_.any {w : World} {g : Nat} {cs : Array Value} (h : Holds_ w g cs) (i : Nat) (hi : i < cs.size) : w.cell? ⟨g,i,none⟩ = some cs[i] ∧ w.frozen? ⟨g,i,none⟩ = false:=by
 obtain ⟨⟨T,h1⟩,_⟩:=h
 constructor
 · simp [World.cell?,h1,hi]
 · simp [World.frozen?,h1]
structure Stored (g : Nat) (w w' : World) : Prop where
 os : w'.os = w.os
 tape : w'.tape = w.tape
 output : w'.output = w.output
 size : w'.heap.size = w.heap.size
 other : ∀ k,k ≠ g → w'.heap[k]? = w.heap[k]?
 same : ∃ cs cs',Holds_ w g cs ∧ Holds_ w' g cs' ∧ cs'.size = cs.size
 ty : ∀ cs T,w.heap[g]? = some (.cells cs T (0,0)) → ∃ cs',w'.heap[g]? = some (.cells cs' T (0,0)) ∧ cs'.size = cs.size
theorem set_two0 {w : World} {b : Nat} {a c u : Value} {t : TypeId} (h : w.heap[b]? = some (.cells #[a,c] t (0,0))) : (w.setCell ⟨b,0,none⟩ u).heap[b]? = some (.cells #[u,c] t (0,0)):=by
 have hlt:=lt_block h
 have h' : w.heap[b] = .cells #[a,c] t (0,0):=by simpa [Array.getElem?_eq_getElem hlt] using h
 show (w.heap.modify b _)[b]? = _
 rw [Array.getElem?_eq_getElem (by simpa using hlt),Array.getElem_modify_self,h']
 rfl
theorem jk {w : World} {b : Nat} {a c u : Value} {t : TypeId} (h : w.heap[b]? = some (.cells #[a,c] t (0,0))) : (w.setCell ⟨b,1,none⟩ u).heap[b]? = some (.cells #[a,u] t (0,0)):=by
 have hlt:=lt_block h
 have h' : w.heap[b] = .cells #[a,c] t (0,0):=by simpa [Array.getElem?_eq_getElem hlt] using h
 show (w.heap.modify b _)[b]? = _
 rw [Array.getElem?_eq_getElem (by simpa using hlt),Array.getElem_modify_self,h']
 rfl
def put2 (w : World) (g : Nat) (u v : Value) : World:=(w.setCell ⟨g,0,none⟩ u).setCell ⟨g,1,none⟩ v
theorem cg {w : World} {g : Nat} {a b : Value} (h : Holds_ w g #[a,b]) {u v : Value} (hu : noDig u) (hv : noDig v) : Holds_ (put2 w g u v) g #[u,v]:=by
 obtain ⟨⟨T,h1⟩,_⟩:=h
 refine ⟨⟨T,jk (set_two0 h1)⟩,fun y hy=>?_⟩
 rcases List.mem_cons.1 (by simpa using hy : y ∈ [u,v]) with rfl | hy
 · exact hu
 · rw [List.mem_singleton.1 hy]; exact hv
theorem stored_put2 {w : World} {g : Nat} {a b : Value} (h : Holds_ w g #[a,b]) {u v : Value} (hu : noDig u) (hv : noDig v) : Stored g w (put2 w g u v) :=
 ⟨rfl,rfl,rfl,by simp [put2],fun k hk=>(Below.heap_setCell _ _ _ _ hk).trans (Below.heap_setCell _ _ _ _ hk),⟨_,_,h,cg h hu hv,rfl⟩,fun cs T hT=>by
   obtain ⟨⟨T',h1⟩,_⟩:=h; rw [h1] at hT; injection hT with hT; injection hT with e1 e2; subst e1; subst e2
   exact ⟨_,jk (set_two0 h1),rfl⟩⟩
theorem kb {w : World} {g : Nat} {a : Value} (h : Holds_ w g #[a]) {u : Value} (hu : noDig u) : Holds_ (w.setCell ⟨g,0,none⟩ u) g #[u]:=by
 obtain ⟨⟨T,h1⟩,_⟩:=h
 refine ⟨⟨T,one_setCell h1⟩,fun y hy=>?_⟩
 rw [List.mem_singleton.1 (by simpa using hy : y ∈ [u])]; exact hu
theorem stored_put1 {w : World} {g : Nat} {a : Value} (h : Holds_ w g #[a]) {u : Value} (hu : noDig u) : Stored g w (w.setCell ⟨g,0,none⟩ u) :=
 ⟨rfl,rfl,rfl,by simp,fun k hk=>Below.heap_setCell _ _ _ _ hk,⟨_,_,h,kb h hu,rfl⟩,fun cs T hT=>by
   obtain ⟨⟨T',h1⟩,_⟩:=h; rw [h1] at hT; injection hT with hT; injection hT with e1 e2; subst e1; subst e2
   exact ⟨_,one_setCell h1,rfl⟩⟩
theorem kc (w : World) {u v : Value} (hu : noDig u) (hv : noDig v) (T : TypeId) : Holds_ (w.alloc (.cells #[u,v] T)) w.heap.size #[u,v] :=
 ⟨⟨T,heap_alloc_new _ _⟩,fun y hy=>by
   rcases List.mem_cons.1 (by simpa using hy : y ∈ [u,v]) with rfl | hy
   · exact hu
   · rw [List.mem_singleton.1 hy]; exact hv⟩
theorem Own.stored {w w' : World} {g B : Nat} {v : Value} {ds : List Nat} (h : Own w B 81 v (u32s ds)) (hs : Stored g w w') : Own w' B 81 v (u32s ds):=by
 have hh : w.ownsRow B 81 1 v (u32s ds).length (u32s ds):=h
 refine ⟨hh.1,?_⟩
 rcases hh.2 with h0 | ⟨g',cap,cur,e,hB,hq,h1,h2,h3,h4⟩
 · exact .inl h0
 · by_cases eg : g' = g
   · subst eg; obtain ⟨cs',hq',hsz⟩:=hs.ty cur _ hq
     cases ds with
     | nil=>exact .inr ⟨g',cap,cs',e,hB,hq',h1,h2,by omega,by simp [u32s]⟩
     | cons d r =>
       exfalso
       have hc:=hh.cells (g:=g') (by rw [e]; rfl) 0 (.int .u32 (d : Int)) rfl; obtain ⟨cs,_,⟨⟨T,h5⟩,h6⟩,_⟩:=hs.same; rw [show ((⟨g',0,none⟩ : Addr).add 0) = ⟨g',0,none⟩ from rfl] at hc; simp only [World.cell?,h5] at hc; split at hc
       · cases hc
       · exact h6 _ (Array.mem_of_getElem? hc) d rfl
   · exact .inr ⟨g',cap,cur,e,hB,(hs.other g' eg).trans hq,h1,h2,h3,h4⟩
theorem IsNat.stored {w w' : World} {g B n : Nat} {v : Value} (h : IsNat w B v n) (hs : Stored g w w') : IsNat w' B v n:=by
 obtain ⟨rs,h1,h2,h3⟩:=h
 exact ⟨rs,h1,h2,h3.stored hs⟩
theorem size_two {cs : Array Value} (h : cs.size = 2) : ∃ u v,cs = #[u,v]:=by
 obtain ⟨l⟩:=cs
 match l,h with
 | [u,v],_=>exact ⟨u,v,rfl⟩
 | [],h=>simp at h
 | [_],h=>simp at h
 | _ :: _ :: _ :: _,h=>simp at h
structure Reg (B : Nat) (W0 : World) (G : List Nat) (w : World) : Prop where
 below : Below B W0 w
 old : ∀ k,k < W0.heap.size → k ∉ G → w.heap[k]? = W0.heap[k]?
 held : ∀ g ∈ G,∃ cs0 cs,Holds_ W0 g cs0 ∧ Holds_ w g cs ∧ cs.size = cs0.size
theorem Reg.step {B : Nat} {W0 w w' : World} {G : List Nat} (h : Reg B W0 G w) (hB : B ≤ W0.heap.size) (hb : Below w.heap.size w w') : Reg B W0 G w' :=
 ⟨h.below.trans (hb.mono (Nat.le_trans hB h.below.size)),fun k hk hG=>(hb.block k (Nat.lt_of_lt_of_le hk h.below.size)).trans (h.old k hk hG),fun g hg=>by
   obtain ⟨cs0,cs,h1,h2,h3⟩:=h.held g hg
   exact ⟨cs0,cs,h1,h2.step hb,h3⟩⟩
theorem Stored.below {g B : Nat} {W0 w w' : World} (hs : Stored g w w') (h : Below B W0 w) (hB : B ≤ g) : Below B W0 w' :=
 h.trans ⟨hs.os,hs.tape,hs.output,Nat.le_of_eq hs.size.symm,fun k hk=>hs.other k (by omega)⟩
theorem Reg.store {B : Nat} {W0 w w' : World} {G : List Nat} (h : Reg B W0 G w) {g : Nat} (hg : g ∈ G ∨ W0.heap.size ≤ g) (hB : B ≤ g) (hs : Stored g w w') : Reg B W0 G w':=by
 refine ⟨hs.below h.below hB,fun k hk hG=>(hs.other k fun e=>?_).trans (h.old k hk hG),fun j hj=>?_⟩
 · subst e; rcases hg with hg | hg
   · exact hG hg
   · omega
 · obtain ⟨cs0,cs,h1,h2,h3⟩:=h.held j hj
   by_cases e : j = g
   · subst e; obtain ⟨ds,ds',h4,h5,h6⟩:=hs.same
     have : ds.size = cs.size:=by
       obtain ⟨⟨T,e1⟩,_⟩:=h2; obtain ⟨⟨T',e2⟩,_⟩:=h4; rw [e1] at e2; injection e2 with e2; injection e2 with e2; rw [e2]
     exact ⟨cs0,ds',h1,h5,by omega⟩
   · obtain ⟨⟨T,e1⟩,e2⟩:=h2; exact ⟨cs0,cs,h1,⟨⟨T,(hs.other j e).trans e1⟩,e2⟩,h3⟩
theorem Reg.start {B : Nat} {W0 W : World} {G : List Nat} (h : ∀ g ∈ G,∃ cs,Holds_ W0 g cs) (hW : W = W0 ∨ W = W0.drew) : Reg B W0 G W:=by
 have hh : ∀ g ∈ G,∃ cs0 cs,Holds_ W0 g cs0 ∧ Holds_ W0 g cs ∧ cs.size = cs0.size:=fun g hg=>by
   obtain ⟨cs,h1⟩:=h g hg; exact ⟨cs,cs,h1,h1,rfl⟩
 rcases hW with rfl | rfl
 · exact ⟨Below.refl _ _,fun _ _ _=>rfl,hh⟩
 · exact ⟨(Below.refl _ _).drew,fun _ _ _=>rfl,hh⟩
theorem Reg.cell {B : Nat} {W0 w : World} {G : List Nat} (h : Reg B W0 G w) {b : Nat} (hb : b < W0.heap.size) (hG : b ∉ G) (o : Nat) : w.cell? ⟨b,o,none⟩ = W0.cell? ⟨b,o,none⟩ ∧ w.frozen? ⟨b,o,none⟩ = W0.frozen? ⟨b,o,none⟩ :=
 ⟨World.cell?_of_block (w:=W0) (h.old b hb hG),World.frozen?_of_block (w:=W0) (h.old b hb hG)⟩
theorem Reg.row {B : Nat} {W0 w : World} {G : List Nat} (h : Reg B W0 G w) {A : Option Addr} {ds : List Nat} (hr : Row W0 A (u32s ds)) : Row w A (u32s ds):=by
 intro j u hu
 obtain ⟨ad,e,hc⟩:=hr j u hu
 refine ⟨ad,e,?_⟩
 have hG : (ad.add j).block ∉ G:=fun hg=>by
   obtain ⟨cs0,_,⟨⟨T,h4⟩,h5⟩,_⟩:=h.held _ hg; obtain ⟨d,_,hd⟩:=List.mem_map.1 (List.mem_of_getElem? hu); simp only [World.cell?,h4] at hc; split at hc
   · cases hc
   · exact h5 u (Array.mem_of_getElem? hc) d hd.symm
 rw [World.cell?_of_block (h.old _ (cell_lt hc) hG)]
 exact hc
theorem Reg.two {B : Nat} {W0 w : World} {G : List Nat} (h : Reg B W0 G w) {g : Nat} (hg : g ∈ G) {a b : Value} (h2 : Holds_ W0 g #[a,b]) : ∃ u v,Holds_ w g #[u,v]:=by
 obtain ⟨cs0,cs,h3,h4,h5⟩:=h.held g hg
 have : cs0.size = 2:=by
   obtain ⟨⟨T,e1⟩,_⟩:=h2; obtain ⟨⟨T',e2⟩,_⟩:=h3; rw [e1] at e2; injection e2 with e2; injection e2 with e2; rw [← e2]; rfl
 obtain ⟨l⟩:=cs
 match l,h5 with
 | [u,v],_=>exact ⟨u,v,h4⟩
 | [],h5=>simp at h5; omega
 | [_],h5=>simp at h5; omega
 | _ :: _ :: _ :: _,h5=>simp at h5; omega
inductive PK where
 | p (f : Value → World → Prop) (hb : ∀ v w w',f v w → Below w.heap.size w w' → f v w') (hs : ∀ v w w' g,f v w → Stored g w w' → f v w')
 | cell (g : Nat) (f : Array Value → World → Prop) (hb : ∀ cs w w',f cs w → Below w.heap.size w w' → f cs w') (hs : ∀ cs w w' g,f cs w → Stored g w w' → f cs w')
 | fresh (n : Nat)
 | list (n : Nat) (f : Nat → World → Prop) (hb : ∀ g w w',f g w → Below w.heap.size w w' → f g w') (hs : ∀ g w w' g',f g w → Stored g' w w' → g ≠ g' → f g w')
 | put (e : Nat) (f : Array Value → World → Prop) (hb : ∀ cs w w',f cs w → Below w.heap.size w w' → f cs w') (hs : ∀ cs w w' g,f cs w → Stored g w w' → f cs w')
 | same (e : Nat)
def PK.sem (S0 : Nat) (x : Nat → Value) : PK → Value → World → Prop
 | .p f _ _,v,w=>f v w
 | .cell g f _ _,_,w=>∃ cs,Holds_ w g cs ∧ f cs w
 | .fresh n,v,w=>∃ g cs,v = .pointer (some ⟨g,0,none⟩) ∧ S0 ≤ g ∧ Holds_ w g cs ∧ cs.size = n
 | .list n f _ _,v,w=>∃ g,v = .slice (some ⟨g,0,none⟩) n n ∧ S0 ≤ g ∧ g < w.heap.size ∧ f g w
 | .put e f _ _,_,w=>∃ g cs,x e = .pointer (some ⟨g,0,none⟩) ∧ S0 ≤ g ∧ Holds_ w g cs ∧ f cs w
 | .same e,v,_=>v = x e
def PK.move (S0 : Nat) (x : Nat → Value) : PK → Value → World → World → Prop
 | .p ..,_,w,w'=>Below w.heap.size w w'
 | .cell g ..,_,w,w'=>Stored g w w'
 | .fresh _,v,w,w'=>Below w.heap.size w w' ∧ ∃ g,v = .pointer (some ⟨g,0,none⟩) ∧ w.heap.size ≤ g
 | .list n ..,v,w,w'=>Below w.heap.size w w' ∧ ∃ g,v = .slice (some ⟨g,0,none⟩) n n ∧ w.heap.size ≤ g
 | .put e ..,_,w,w'=>∃ g,x e = .pointer (some ⟨g,0,none⟩) ∧ S0 ≤ g ∧ Stored g w w'
 | .same _,_,w,w'=>Below w.heap.size w w'
def PK.blk : PK → Option Nat
 | .cell g ..=>some g
 | _=>none
def PK.into : PK → Option Nat
 | .put e ..=>some e
 | _=>none
def PK.ref : PK → Option Nat
 | .put e ..=>some e
 | .same e=>some e
 | _=>none
theorem PK.ref_of_into {c : PK} {e : Nat} (h : c.into = some e) : c.ref = some e:=by
 cases c <;> first | exact h | cases h
def PK.isFresh : PK → Bool
 | .fresh _=>true
 | _=>false
def PK.isNew : PK → Bool
 | .fresh _=>true
 | .list ..=>true
 | _=>false
theorem PK.new_of_fresh {c : PK} (h : c.isFresh = true) : c.isNew = true:=by
 cases c <;> first | rfl | cases h
def blockOf : Value → Option Nat
 | .pointer (some a)=>some a.block
 | .slice (some a) _ _=>some a.block
 | _=>none
theorem PK.step {c : PK} {S0 : Nat} {x : Nat → Value} {v : Value} {w w' : World} (h : c.sem S0 x v w) (hb : Below w.heap.size w w') : c.sem S0 x v w':=by
 cases c with
 | p f h1 h2=>exact h1 _ _ _ h hb
 | cell g f h1 h2 =>
   obtain ⟨cs,e1,e2⟩:=h; exact ⟨cs,e1.step hb,h1 _ _ _ e2 hb⟩
 | fresh n =>
   obtain ⟨g,cs,e1,e2,e3,e4⟩:=h; exact ⟨g,cs,e1,e2,e3.step hb,e4⟩
 | list n f h1 h2 =>
   obtain ⟨g,e1,e2,e3,e4⟩:=h; exact ⟨g,e1,e2,Nat.lt_of_lt_of_le e3 hb.size,h1 _ _ _ e4 hb⟩
 | put e f h1 h2 =>
   obtain ⟨g,cs,e1,e2,e3,e4⟩:=h; exact ⟨g,cs,e1,e2,e3.step hb,h1 _ _ _ e4 hb⟩
 | same e=>exact h
theorem Holds_.stored {w w' : World} {g g' : Nat} {cs : Array Value} (h : Holds_ w g cs) (hs : Stored g' w w') (hne : g ≠ g') : Holds_ w' g cs:=by
 obtain ⟨⟨T,h1⟩,h2⟩:=h
 exact ⟨⟨T,(hs.other g hne).trans h1⟩,h2⟩
theorem Holds_.size_eq {w : World} {g : Nat} {cs ds : Array Value} (h : Holds_ w g cs) (h' : Holds_ w g ds) : cs = ds:=by
 obtain ⟨⟨T,e1⟩,_⟩:=h
 obtain ⟨⟨T',e2⟩,_⟩:=h'
 rw [e1] at e2
 injection e2 with e2
 injection e2 with e2
theorem PK.store {c : PK} {S0 : Nat} {x : Nat → Value} {v : Value} {w w' : World} {g : Nat} (h : c.sem S0 x v w) (hs : Stored g w w') (h1 : c.blk ≠ some g) (h2 : ∀ e,c.into = some e → x e ≠ .pointer (some ⟨g,0,none⟩)) (h3 : c.isFresh = false → c.isNew = true → blockOf v ≠ some g) : c.sem S0 x v w':=by
 cases c with
 | p f k1 k2=>exact k2 _ _ _ _ h hs
 | cell g' f k1 k2 =>
   obtain ⟨cs,e1,e2⟩:=h; exact ⟨cs,e1.stored hs fun e=>h1 (by rw [← e]; rfl),k2 _ _ _ _ e2 hs⟩
 | fresh n =>
   obtain ⟨g',cs,e1,e2,e3,e4⟩:=h
   by_cases e : g' = g
   · subst e; obtain ⟨ds,ds',f1,f2,f3⟩:=hs.same; exact ⟨g',ds',e1,e2,f2,by rw [f3,← e3.size_eq f1,e4]⟩
   · exact ⟨g',cs,e1,e2,e3.stored hs e,e4⟩
 | list n f k1 k2 =>
   obtain ⟨g',e1,e2,e3,e4⟩:=h; exact ⟨g',e1,e2,by rw [hs.size]; exact e3,k2 _ _ _ _ e4 hs fun e5=>h3 rfl rfl (by rw [e1,e5]; rfl)⟩
 | put e f k1 k2 =>
   obtain ⟨g',cs,e1,e2,e3,e4⟩:=h; exact ⟨g',cs,e1,e2,e3.stored hs fun e5=>h2 e rfl (by rw [e1,e5]),k2 _ _ _ _ e4 hs⟩
 | same e=>exact h
theorem PK.sem_upd {c : PK} {S0 : Nat} {x : Nat → Value} {v u : Value} {w : World} {i : Nat} (h : c.sem S0 x v w) (hi : ∀ e,c.ref = some e → e ≠ i) : c.sem S0 (upd x i u) v w:=by
 cases c with
 | put e f k1 k2 =>
   obtain ⟨g,cs,e1,e2⟩:=h; exact ⟨g,cs,by rw [ct _ _ (hi e rfl)]; exact e1,e2⟩
 | same e =>
   show v = upd x i u e
   rw [ct _ _ (hi e rfl)]; exact h
 | _=>exact h
def kAny : PK:=.p (fun _ _=>True) (fun _ _ _ _ _=>trivial) (fun _ _ _ _ _ _=>trivial)
def kIs (V : Value) : PK:=.p (fun v _=>v = V) (fun _ _ _ h _=>h) (fun _ _ _ _ h _=>h)
def blks (ks : List PK) : List Nat:=ks.filterMap PK.blk
def at_ (ks : List PK) (i : Nat) : PK:=ks.getD i kAny
theorem blk_mem {ks : List PK} {i g : Nat} (hi : (at_ ks i).blk = some g) : g ∈ blks ks:=by
 unfold at_ at hi
 rcases Nat.lt_or_ge i ks.length with hl | hl
 · rw [List.getD_eq_getElem?_getD,List.getElem?_eq_getElem hl] at hi; exact List.mem_filterMap.2 ⟨_,List.getElem_mem hl,hi⟩
 · rw [List.getD_eq_getElem?_getD,List.getElem?_eq_none hl] at hi; simp [kAny,PK.blk] at hi
theorem blk_inj {ks : List PK} (h : (blks ks).Nodup) {i j g : Nat} (hi : (at_ ks i).blk = some g) (hj : (at_ ks j).blk = some g) : i = j:=by
 induction ks generalizing i j with
 | nil=>simp [at_,kAny,PK.blk] at hi
 | cons c ks ih =>
   have hn : (blks ks).Nodup:=by
     unfold blks at h ⊢; rw [List.filterMap_cons] at h; split at h
     · exact h
     · exact (List.nodup_cons.1 h).2
   cases i with
   | zero =>
     cases j with
     | zero=>rfl
     | succ j =>
       have hi' : c.blk = some g:=hi; have : blks (c :: ks) = g :: blks ks:=by simp [blks,hi']
       rw [this] at h; exact absurd (blk_mem (ks:=ks) (i:=j) hj) (List.nodup_cons.1 h).1
   | succ i =>
     cases j with
     | zero =>
       have hj' : c.blk = some g:=hj; have : blks (c :: ks) = g :: blks ks:=by simp [blks,hj']
       rw [this] at h; exact absurd (blk_mem (ks:=ks) (i:=i) hi) (List.nodup_cons.1 h).1
     | succ j=>rw [ih hn (i:=i) (j:=j) hi hj]
def codesOK (ks : List PK) (es : List (List (Nat × Option Tmp))) : Bool :=
 (List.range ks.length).all fun i => (match (at_ ks i).into with
   | none=>true
   | some e=>(at_ ks e).isFresh && (es.getD i []).any (fun p=>decide (p.1 = e)) && (List.range ks.length).all fun j=>decide (i = j) || decide ((at_ ks j).into ≠ some e)) && match (at_ ks i).ref with
   | none=>true
   | some e=>(es.getD i []).any fun p=>decide (p.1 = e)
def deps (S0 : Nat) (ks : List PK) (x : Nat → Value) (w : World) : List (Nat × Option Tmp) → Prop → Prop
 | [],G=>G
 | p :: r,G=>(at_ ks p.1).sem S0 x (x p.1) w → deps S0 ks x w r G
theorem deps_use {S0 : Nat} {ks : List PK} {x : Nat → Value} {w : World} {G : Prop} : ∀ es : List (Nat × Option Tmp), (∀ p ∈ es, (at_ ks p.1).sem S0 x (x p.1) w) → deps S0 ks x w es G → G
 | [],_,h=>h
 | p :: r,hp,h=>deps_use r (fun q hq=>hp q (List.mem_cons_of_mem _ hq)) (h (hp p List.mem_cons_self))
def PkStep (P : Program) (C : World → Prop) (S0 : Nat) (ks : List PK) (a0 : Act) (i : Nat) (o : Oper) (es : List (Nat × Option Tmp)) : Prop :=
 ∀ w x, C w → deps S0 ks x w es (∀ K : Value → World → Prop, (∀ v w', (at_ ks i).move S0 x v w w' → (at_ ks i).sem S0 x v w' → K v w') →
   o.wp P (putE x a0 es) w (fun a' w'=>a'.defers = (putE x a0 es).defers ∧ K (retOf o.dst a') w') (fun _ _ _=>False))
def PkFrom (P : Program) (ops : Array Oper) (es : List (List (Nat × Option Tmp))) (sk : List Nat) (C : World → Prop) (S0 : Nat) (ks : List PK) (a0 : Act) (i : Nat) : Prop :=
 ∀ j o,i ≤ j → ops[j]? = some o → sk.contains j = false → PkStep P C S0 ks a0 j o (es.getD j [])
theorem aa {P : Program} {ops : Array Oper} {es : List (List (Nat × Option Tmp))} {sk : List Nat} {C : World → Prop} {S0 : Nat} {ks : List PK} {a0 : Act} {i : Nat} {o : Oper} {e : List (Nat × Option Tmp)} (ho : ops[i]? = some o) (he : es.getD i [] = e)
   (h : PkStep P C S0 ks a0 i o e) (hr : PkFrom P ops es sk C S0 ks a0 (i + 1)) : PkFrom P ops es sk C S0 ks a0 i:=fun j o' hj ho' hs=>by
 by_cases e : j = i
 · subst e; rw [ho] at ho'; injection ho' with ho'; subst ho'; rw [he]; exact h
 · exact hr j o' (by omega) ho' hs
theorem am {P : Program} {ops : Array Oper} {es : List (List (Nat × Option Tmp))} {sk : List Nat} {C : World → Prop} {S0 : Nat} {ks : List PK} {a0 : Act} {i : Nat} (h : sk.contains i = true) (hr : PkFrom P ops es sk C S0 ks a0 (i + 1)) : PkFrom P ops es sk C S0 ks a0 i:=fun j o' hj ho' hs=>by
 by_cases e : j = i
 · subst e; rw [h] at hs; cases hs
 · exact hr j o' (by omega) ho' hs
theorem ae {P : Program} {ops : Array Oper} {es : List (List (Nat × Option Tmp))} {sk : List Nat} {C : World → Prop} {S0 : Nat} {ks : List PK} {a0 : Act} {i : Nat} (h : ops.size = i) : PkFrom P ops es sk C S0 ks a0 i:=fun j o hj ho _=>by
 have:=(Array.getElem?_eq_some_iff.1 ho).1
 omega
def guardOK (ops : Array Oper) (bs : List (Nat × Bool)) (sk : List Nat) : Bool :=
 (List.range ops.size).all fun i => match ops[i]? with
   | none=>true
   | some o => match o.guard with
     | none=>true
     | some g=>(bs.any fun p=>decide (p.1 = g.1) && decide (g.1 < ops.size) && ((p.2 == g.2) == !sk.contains i)) || (decide (g.1 < ops.size) && sk.contains g.1 && sk.contains i)
theorem cd {P : Program} {id : Nat} {draw : Bool} {ops : Array Oper} {Q : Exit → Act → World → Prop} {a0 : Act} {W0 : World} (B : Nat) (ks : List PK) (es : List (List (Nat × Option Tmp))) (all : List (Nat × Option Tmp)) (bs : List (Nat × Bool)) (sk : List Nat)      
   (hn : (blks ks).Nodup) (hB : ∀ g ∈ blks ks,B ≤ g) (hB0 : B ≤ W0.heap.size) (ht : ∀ g ∈ blks ks,∃ cs,Holds_ W0 g cs)
   (hs : PkFrom P ops es sk (Reg B W0 (blks ks)) W0.heap.size ks a0 0) (hend : ∀ w' x,Reg B W0 (blks ks) w' → (∀ i,i < ops.size → (at_ ks i).sem W0.heap.size x (x i) w') → Q .normal (putE x a0 all) w') (hm : P.follows .mixedOrders = true:=by kernel_rfl) (hchk : growOK ops (fun i=>!sk.contains i) es all a0.tmps.size = true:=by kernel_rfl) (hk : codesOK ks es = true:=by kernel_rfl) (hgu : guardOK ops bs sk = true:=by kernel_rfl) (hbs : bs.map (fun p=>at_ ks p.1) = bs.map fun p=>kIs (.bool p.2):=by kernel_rfl) (hsk : sk.map (at_ ks) = sk.map fun _=>kIs undef:=by kernel_rfl) : (Code.region id ops draw).wp P Q a0 W0:=by
 have hchk':=hchk
 unfold growOK at hchk'
 simp only [Bool.and_eq_true,decide_eq_true_eq] at hchk'
 have hall:=hchk'.1.1.1
 have hops:=hchk'.2
 have hlt : ∀ i o,ops[i]? = some o → ∀ p ∈ es.getD i [],p.1 < ops.size:=fun i o ho p hp=>by
   have hl : i < ops.size:=(Array.getElem?_eq_some_iff.1 ho).1; have h:=List.all_eq_true.1 hops i (List.mem_range.2 hl); rw [ho] at h; simp only [Bool.and_eq_true] at h; have:=List.all_eq_true.1 h.1.2 p hp; simp only [Bool.and_eq_true,decide_eq_true_eq] at this; exact this.1.2
 have hinto : ∀ i e,(at_ ks i).into = some e → i < ks.length ∧ (at_ ks e).isFresh = true ∧ (∃ p ∈ es.getD i [],p.1 = e) ∧ ∀ j,i ≠ j → (at_ ks j).into ≠ some e:=fun i e hi=>by
   have hl : i < ks.length:=by
     rcases Nat.lt_or_ge i ks.length with h | h
     · exact h
     · unfold at_ at hi; rw [List.getD_eq_getElem?_getD,List.getElem?_eq_none h] at hi; simp [kAny,PK.into] at hi
   have h:=List.all_eq_true.1 hk i (List.mem_range.2 hl); rw [hi] at h; simp only [Bool.and_eq_true] at h; obtain ⟨⟨⟨h1,h2⟩,h3⟩,_⟩:=h; refine ⟨hl,h1,?_,fun j hj hj2=>?_⟩
   · obtain ⟨p,hp,hh⟩:=List.any_eq_true.1 h2; exact ⟨p,hp,of_decide_eq_true hh⟩
   · have hlj : j < ks.length:=by
       rcases Nat.lt_or_ge j ks.length with h | h
       · exact h
       · unfold at_ at hj2; rw [List.getD_eq_getElem?_getD,List.getElem?_eq_none h] at hj2; simp [kAny,PK.into] at hj2
     have:=List.all_eq_true.1 h3 j (List.mem_range.2 hlj); simp [hj,hj2] at this
 have href : ∀ i e,(at_ ks i).ref = some e → ∃ p ∈ es.getD i [],p.1 = e:=fun i e hi=>by
   have hl : i < ks.length:=by
     rcases Nat.lt_or_ge i ks.length with h | h
     · exact h
     · unfold at_ at hi; rw [List.getD_eq_getElem?_getD,List.getElem?_eq_none h] at hi; simp [kAny,PK.ref] at hi
   have h:=List.all_eq_true.1 hk i (List.mem_range.2 hl); simp only [Bool.and_eq_true,hi] at h; obtain ⟨p,hp,hh⟩:=List.any_eq_true.1 h.2; exact ⟨p,hp,of_decide_eq_true hh⟩
 obtain ⟨Inv,hInv⟩ : ∃ Inv : (Nat → Bool) → (Nat → Value) → World → Prop,Inv = fun L x w=>Reg B W0 (blks ks) w ∧ (∀ i,i < ops.size → L i = true → (at_ ks i).sem W0.heap.size x (x i) w) ∧ (∀ i j,i < ops.size → j < ops.size → i ≠ j → L i = true → L j = true → (at_ ks i).isNew = true → (at_ ks j).isNew = true → blockOf (x i) ≠ blockOf (x j)) ∧ ∀ i e,i < ops.size → L i = true → (at_ ks i).ref = some e → e < ops.size ∧ L e = true:=⟨_,rfl⟩
 have hgo : ∀ i,i < ops.size → ∀ L x w,Inv L x w → L i = false → (∀ e,(at_ ks i).ref = some e → e < ops.size ∧ L e = true) → ∀ v w',(at_ ks i).move W0.heap.size x v w w' → (at_ ks i).sem W0.heap.size x v w' → Inv (upd L i true) (upd x i v) w':=by
   intro i hil L x w hI hi hin v w' h1 h2; rw [hInv] at hI ⊢
   have hintoi : ∀ j e,j < ops.size → L j = true → (at_ ks j).ref = some e → e ≠ i:=fun j e hj hLj he hei=>by
     have:=(hI.2.2.2 j e hj hLj he).2; rw [hei,hi] at this; cases this
   have hintoii : ∀ e,(at_ ks i).ref = some e → e ≠ i:=fun e he hei=>by
     have:=(hin e he).2; rw [hei,hi] at this; cases this
   -- the class
   have hR : Reg B W0 (blks ks) w':=by
     cases e : at_ ks i with
     | p f k1 k2=>rw [e] at h1; exact hI.1.step hB0 h1
     | fresh n=>rw [e] at h1; exact hI.1.step hB0 h1.1
     | list n f k1 k2=>rw [e] at h1; exact hI.1.step hB0 h1.1
     | same e1=>rw [e] at h1; exact hI.1.step hB0 h1
     | cell g f k1 k2 =>
       rw [e] at h1; have hg : g ∈ blks ks:=blk_mem (i:=i) (by rw [e]; rfl); exact hI.1.store (.inl hg) (hB g hg) h1
     | put n f k1 k2 =>
       rw [e] at h1; obtain ⟨g,_,hg,hst⟩:=h1; exact hI.1.store (.inr hg) (by omega) hst
   have hkeep : ∀ j,j < ops.size → L j = true → (at_ ks j).sem W0.heap.size x (x j) w':=fun j hj hLj=>by
     have hij : i ≠ j:=fun hh=>by rw [hh,hLj] at hi; cases hi
     have hsem:=hI.2.1 j hj hLj
     cases e : at_ ks i with
     | p f k1 k2=>rw [e] at h1; exact PK.step hsem h1
     | fresh n=>rw [e] at h1; exact PK.step hsem h1.1
     | list n f k1 k2=>rw [e] at h1; exact PK.step hsem h1.1
     | same e1=>rw [e] at h1; exact PK.step hsem h1
     | cell g f k1 k2 =>
       rw [e] at h1
       have hgl : g < W0.heap.size:=by
         obtain ⟨cs,hh⟩:=ht g (blk_mem (i:=i) (by rw [e]; rfl)); exact hh.lt
       refine PK.store hsem h1 (fun hb=>hij (blk_inj hn (i:=i) (j:=j) (g:=g) (by rw [e]; rfl) hb)) (fun e2 he2 hx=>?_) fun hf hnw hbl=>?_
       rotate_left 1
       · cases ej : at_ ks j with
         | list n3 f3 k3 k4 =>
           rw [ej] at hsem; obtain ⟨g',q1,q2,_⟩:=hsem; rw [q1] at hbl; injection hbl with hbl; have : g' = g:=hbl; omega
         | fresh n=>rw [ej] at hf; cases hf
         | _=>rw [ej] at hnw; cases hnw
       cases ej : at_ ks j with
       | put e3 f3 k3 k4 =>
         rw [ej] at hsem he2; obtain ⟨g',_,q1,q2,_⟩:=hsem; injection he2 with he2; subst he2; rw [q1] at hx; injection hx with hx; injection hx with hx; injection hx with hx; omega
       | _=>rw [ej] at he2; cases he2
     | put e1 f k1 k2 =>
       rw [e] at h1; obtain ⟨g,hxe,hg,hst⟩:=h1; obtain ⟨_,q1,_,q3⟩:=hinto i e1 (by rw [e]; rfl); obtain ⟨he1l,hLe1⟩:=hin e1 (by rw [e]; rfl); refine PK.store hsem hst (fun hb=>?_) (fun e2 he2 hx=>?_) fun hf hnw hbl=>?_
       · obtain ⟨cs,hh⟩:=ht g (blk_mem hb); have:=hh.lt; omega
       rotate_left 1
       · have hne : e1 ≠ j:=fun hh=>by rw [← hh,q1] at hf; cases hf
         exact hI.2.2.1 e1 j he1l hj hne hLe1 hLj (PK.new_of_fresh q1) hnw (by rw [hxe,hbl]; rfl)
       ·
         have hne : e1 ≠ e2:=fun hh=>q3 j hij (hh ▸ he2); have q4:=hinto j e2 he2; have q5:=hI.2.2.2 j e2 hj hLj (PK.ref_of_into he2); exact hI.2.2.1 e1 e2 he1l q5.1 hne hLe1 q5.2 (PK.new_of_fresh q1) (PK.new_of_fresh q4.2.1) (by rw [hxe,hx])
   refine ⟨hR,fun j hj hLj=>?_,fun j k hj hk' hjk hLj hLk hfj hfk=>?_,fun j e hj hLj he=>?_⟩
   · by_cases e : j = i
     · subst e; rw [dm]; exact PK.sem_upd h2 hintoii
     · rw [ct _ _ e] at hLj; rw [ct _ _ e]; exact PK.sem_upd (hkeep j hj hLj) fun e2 he2=>hintoi j e2 hj hLj he2
   · have old : ∀ k,k < ops.size → L k = true → (at_ ks k).isNew = true → ∃ g',blockOf (x k) = some g' ∧ g' < w.heap.size:=fun k hkl hLk hfk=>by
       have hsem:=hI.2.1 k hkl hLk
       cases e2 : at_ ks k with
       | fresh m =>
         rw [e2] at hsem; obtain ⟨g',cs,q1,_,q3,_⟩:=hsem; exact ⟨g',by rw [q1]; rfl,q3.lt⟩
       | list m f3 k3 k4 =>
         rw [e2] at hsem; obtain ⟨g',q1,_,q3,_⟩:=hsem; exact ⟨g',by rw [q1]; rfl,q3⟩
       | _=>rw [e2] at hfk; cases hfk
     have new : (at_ ks i).isNew = true → ∃ g',blockOf v = some g' ∧ w.heap.size ≤ g':=fun hfi=>by
       cases e1 : at_ ks i with
       | fresh n =>
         rw [e1] at h1; obtain ⟨_,g,hg,hgs⟩:=h1; exact ⟨g,by rw [hg]; rfl,hgs⟩
       | list n f3 k3 k4 =>
         rw [e1] at h1; obtain ⟨_,g,hg,hgs⟩:=h1; exact ⟨g,by rw [hg]; rfl,hgs⟩
       | _=>rw [e1] at hfi; cases hfi
     have fr : ∀ k,k ≠ i → k < ops.size → L k = true → (at_ ks k).isNew = true → (at_ ks i).isNew = true → blockOf v ≠ blockOf (x k):=fun k _ hkl hLk hfk hfi hv=>by
       obtain ⟨g',q1,q2⟩:=old k hkl hLk hfk; obtain ⟨g,q3,q4⟩:=new hfi; rw [q1,q3] at hv; injection hv with hv; omega
     by_cases e : j = i
     · subst e; rw [dm,ct _ _ (fun h=>hjk h.symm)]; rw [ct _ _ (fun h=>hjk h.symm)] at hLk; exact fr k (fun h=>hjk h.symm) hk' hLk hfk hfj
     · rw [ct _ _ e] at hLj ⊢
       by_cases e' : k = i
       · subst e'; rw [dm]; exact fun h=>fr j e hj hLj hfj hfk h.symm
       · rw [ct _ _ e'] at hLk ⊢; exact hI.2.2.1 j k hj hk' hjk hLj hLk hfj hfk
   · by_cases e' : j = i
     · subst e'; refine ⟨(hin e he).1,?_⟩; rw [ct _ _ (hintoii e he)]; exact (hin e he).2
     · rw [ct _ _ e'] at hLj; have q:=hI.2.2.2 j e hj hLj he; refine ⟨q.1,?_⟩; rw [ct _ _ (hintoi j e hj hLj he)]; exact q.2
 refine wp_region_grow hm Inv (fun i=>!sk.contains i) es all hchk ?_ (fun i o g ho hg L x w hI hL=>?_) (fun i hil hWi L x w hI hi=>?_) (fun i o ho hW L x w hI hi hd K hK=>?_) (fun L x w' hL hI=>?_)
 · intro W' hW'; rw [hInv]; exact ⟨Reg.start ht hW',fun i hi h=>absurd (of_decide_eq_true h) (by omega),fun i _ hi _ _ h=>absurd (of_decide_eq_true h) (by omega),fun i _ hi h=>absurd (of_decide_eq_true h) (by omega)⟩
 · rw [hInv] at hI; have hil : i < ops.size:=(Array.getElem?_eq_some_iff.1 ho).1; have h:=List.all_eq_true.1 hgu i (List.mem_range.2 hil); rw [ho] at h; simp only [hg,Bool.or_eq_true] at h; rcases h with h | h
   · obtain ⟨p,hp,hh⟩:=List.any_eq_true.1 h; simp only [Bool.and_eq_true,decide_eq_true_eq,beq_iff_eq] at hh; obtain ⟨⟨h1,h2⟩,h3⟩:=hh; have hs1:=hI.2.1 g.1 h2 hL
     have hk1 : at_ ks g.1 = kIs (.bool p.2):=by
       rw [← h1]; exact List.map_inj_left.1 hbs p hp
     rw [hk1] at hs1; exact .inl ⟨p.2,hs1,h3⟩
   · simp only [Bool.and_eq_true,decide_eq_true_eq] at h; obtain ⟨⟨h1,h2⟩,h3⟩:=h; have hs1:=hI.2.1 g.1 h1 hL; have hk1 : at_ ks g.1 = kIs undef:=List.map_inj_left.1 hsk g.1 (by simpa using h2); rw [hk1] at hs1; exact .inr ⟨hs1,by rw [h3]; rfl⟩
 · have hm : i ∈ sk:=by simpa using hWi
   have hk1 : at_ ks i = kIs undef:=List.map_inj_left.1 hsk i hm; exact hgo i hil L x w hI hi (fun e he=>by rw [hk1] at he; cases he) undef w (by rw [hk1]; exact Below.refl _ _) (by rw [hk1]; rfl)
 · have hil : i < ops.size:=(Array.getElem?_eq_some_iff.1 ho).1; have hI':=hI; rw [hInv] at hI'; refine deps_use (es.getD i []) (fun p hp=>hI'.2.1 p.1 (hlt i o ho p hp) (hd p hp)) (hs i o (Nat.zero_le _) ho (by simpa using hW) w x hI'.1) K fun v w' h1 h2=>hK v w' (hgo i hil L x w hI hi (fun e he=>?_) v w' h1 h2); obtain ⟨p,hp,hpe⟩:=href i e he; exact ⟨hpe ▸ hlt i o ho p hp,hpe ▸ hd p hp⟩
 · rw [hInv] at hI; exact hend w' x hI.1 fun i hi=>hI.2.1 i hi (hL i hi)
theorem lt_alloc (w : World) (o : Obj) : w.heap.size < (w.alloc o).heap.size:=by rw [World.size_alloc]; exact Nat.lt_succ_self _
theorem new_succ (w : World) (o o' : Obj) : ((w.alloc o').alloc o).heap[w.heap.size + 1]? = some o:=new_at (by rw [World.size_alloc])
def RetQR (w : World) (q r : Nat) (e : Ending) (w' : World) : Prop:=∃ v u,e = .returned (.tuple #[v,u,.bool true]) ∧ IsNat w' w.heap.size v q ∧ IsNat w' w.heap.size u r ∧ Below w.heap.size w w'
def kOwnN (B n : Nat) : PK:=.p (fun v w=>∃ (rs : List Nat) (A : Option Addr) (c : Nat),v = .agg #[.slice A rs.length c] ∧ right rs ∧ val rs = n ∧ Own w B 81 (.slice A rs.length c) (u32s rs)) (fun _ _ _ ⟨rs,A,c,e,h1,h2,h3⟩ hb=>⟨rs,A,c,e,h1,h2,h3.below hb⟩) (fun _ _ _ _ ⟨rs,A,c,e,h1,h2,h3⟩ hs=>⟨rs,A,c,e,h1,h2,h3.stored hs⟩)
def kNat1 (B n : Nat) : PK:=.p (fun v w=>∃ A k c,v = .agg #[.slice A k c] ∧ IsNat w B (.slice A k c) n) (fun _ _ _ ⟨A,k,c,e,h⟩ hb=>⟨A,k,c,e,h.below hb⟩) (fun _ _ _ _ ⟨A,k,c,e,h⟩ hs=>⟨A,k,c,e,h.stored hs⟩)
def kNat2 (B n m : Nat) : PK:=.p (fun v w=>∃ A k c A' k' c',v = .tuple #[.agg #[.slice A k c],.agg #[.slice A' k' c']] ∧ IsNat w B (.slice A k c) n ∧ IsNat w B (.slice A' k' c') m) (fun _ _ _ ⟨A,k,c,A',k',c',e,h,h'⟩ hb=>⟨A,k,c,A',k',c',e,h.below hb,h'.below hb⟩) (fun _ _ _ _ ⟨A,k,c,A',k',c',e,h,h'⟩ hs=>⟨A,k,c,A',k',c',e,h.stored hs,h'.stored hs⟩)
def kPutN1 (e B n : Nat) : PK:=.put e (fun cs w=>∃ A k c,cs = #[.slice A k c] ∧ IsNat w B (.slice A k c) n) (fun _ _ _ ⟨A,k,c,e,h⟩ hb=>⟨A,k,c,e,h.below hb⟩) (fun _ _ _ _ ⟨A,k,c,e,h⟩ hs=>⟨A,k,c,e,h.stored hs⟩)
theorem size_one {cs : Array Value} (h : cs.size = 1) : ∃ u,cs = #[u]:=by
 obtain ⟨l⟩:=cs
 match l,h with
 | [u],_=>exact ⟨u,rfl⟩
 | [],h=>simp at h
 | _ :: _ :: _,h=>simp at h
theorem holds_new1 (w : World) {u : Value} (hu : noDig u) (T : TypeId) : Holds_ (w.alloc (.cells #[u] T)) w.heap.size #[u] :=
 ⟨⟨T,heap_alloc_new _ _⟩,fun y hy=>by rw [List.mem_singleton.1 (by simpa using hy : y ∈ [u])]; exact hu⟩
theorem divMod_yes {w : World} {A1 A2 : Option Addr} {c1 c2 : Nat} {xs ys : List Nat} (hr1 : Row w A1 (u32s xs)) (hr2 : Row w A2 (u32s ys)) (hx : small 4294967296 xs) (hy : small 4294967296 ys) (hl1 : xs.length ≤ 10000) (hl2 : ys.length ≤ 10000) (h0 : 0 < val ys) (hL : val ys < 1000000000 ∨ LongSpec) :
   Calls Tryz.prog 145 #[.slice A1 xs.length c1,.slice A2 ys.length c2] w (RetQR w (val xs / val ys) (val xs % val ys)):=by
 have H0:=Lib.hid h0
 have HL:=Lib.hid hL
 clear h0 hL
 go_enter Tryz.func145,Tryz.ntmps145
 go_wp2_with fail
 refine (of_any hr2 hy (by omega)).mono ?_
 rintro e w2 ⟨v2,rfl,⟨zs,hz,hzv,hzo⟩,hb2⟩
 have hzne : zs ≠ []:=fun e=>by
   subst e; have:=H0.out; rw [← hzv] at this; simp [val] at this
 have hz0 : ((zs.length : Int) == 0) = false:=by
   rw [beq_eq_false_iff_ne]; intro h; exact hzne (List.eq_nil_of_length_eq_zero (by omega))
 have HZ1 : Hid (zs.length = 1 ∨ LongSpec):=by
   rcases HL.out with h | h
   · left; have h1:=right_length_le hz (k:=1) (by rw [hzv]; simpa using h); have h2 : zs.length ≠ 0:=fun e=>hzne (List.eq_nil_of_length_eq_zero e); omega
   · exact .inr h
 have HZN:=Lib.hid hzne
 clear hzne
 obtain ⟨A3,c3,rfl,_⟩:=hzo.slice32
 go_wp2_with (go_at_call 158; refine (none_any _ _ _ _).mono ?_; rintro e w' ⟨rfl,rfl⟩)
 obtain ⟨W,hW⟩ : ∃ W,W = w2.alloc (Obj.cells #[Value.slice A3 zs.length c3] 130):=⟨_,rfl⟩
 have bW : Below w.heap.size w W:=by rw [hW]; exact hb2.alloc hb2.size _
 have sW : W.heap.size = w2.heap.size + 1:=by rw [hW]; simp
 have kW : W.heap[w2.heap.size]? = some (Obj.cells #[Value.slice A3 zs.length c3] 130):=by rw [hW]; exact heap_alloc_new _ _
 have zW : Row W A3 (u32s zs):=by rw [hW]; exact hzo.row32.alloc _
 rw [← hW]
 have s2:=hb2.size
 have HW:=Lib.hid hW
 have SW:=Lib.hid sW
 have KW:=Lib.hid kW
 have cW:=cell_of_one kW
 clear hW sW kW hb2 hzo
 have hl2a : w2.heap.size < W.heap.size:=by rw [SW.out]; omega
 have zWR : Row W A3 (u32s zs):=zW
 have hof:=fun (wr : World) (hb : Below w.heap.size W wr)=>of_any (w:=wr) (c:=c1) (hr1.below (bW.trans hb)) hx (by omega)
 have HOF:=Lib.hid hof
 have HDV:=Lib.hid (show (right zs ∧ zs ≠ [] ∧ val zs = val ys) from ⟨hz,HZN.out,hzv⟩)
 have HXS:=Lib.hid (show val xs < 1000000000 ^ (xs.length + 1) ∧ xs.length ≤ 10000 from ⟨val_lt32 hx,hl1⟩)
 have HZ3:=Lib.hid zWR
 have HBW:=Lib.hid bW
 obtain ⟨Q,hQ⟩ : ∃ Q,Q = val xs / val ys:=⟨_,rfl⟩
 obtain ⟨R,hR⟩ : ∃ R,R = val xs % val ys:=⟨_,rfl⟩
 rw [← hQ,← hR]
 have HQR:=Lib.hid (show Q = val xs / val ys ∧ R = val xs % val ys from ⟨hQ,hR⟩)
 have hwW : w.heap.size ≤ W.heap.size:=bW.size
 clear hof bW zW zWR hr1 hr2 hx hy hl1 hl2 hz hzv hQ hR
 go_simp
 refine cd (w.heap.size) [kIs (.slice A1 xs.length c1),kOwnN w.heap.size (val xs),kIs (.agg #[.slice A3 zs.length c3]),kNat2 w.heap.size Q R,kNat2 w.heap.size Q R,kNat1 w.heap.size Q,kNat1 w.heap.size R,.fresh 1,.fresh 1,kPutN1 7 w.heap.size Q,kPutN1 8 w.heap.size R] [ [],[(0,some 16)],[],[(1,some 17),(2,some 18)],[(3,some 19)],[(4,some 15)],[(4,some 15)],[],[],[(7,some 8),(5,some 20)],[(8,some 9),(6,some 21)] ] [(0,some 16),(1,some 17),(2,some 18),(3,some 19),(4,some 15),(5,some 20),(6,some 21),(7,some 8),(8,some 9),(9,none),(10,none)] [] [] ?n1 ?n2 hwW ?n4 ?st ?en
 case n1=>show List.Nodup ([] : List Nat); simp
 case n2=>show ∀ g ∈ ([] : List Nat),_; intro g hg; cases hg
 case n4 =>
   show ∀ g ∈ ([] : List Nat),∃ cs,Holds_ _ g cs
   intro g hg
   cases hg
 case st =>
   refine aa rfl rfl ?_ ?_
   · intro wr x hC; simp only [deps,at_,List.getD_cons_zero,PK.sem,PK.move,kIs]; intro K hK; simp only [putE,retOf]
     go_simp
     exact hK _ _ (Below.refl _ _) rfl
   refine aa rfl rfl ?_ ?_
   · intro wr x hC; simp only [deps,at_,List.getD_cons_zero,List.getD_cons_succ,PK.sem,PK.move,kIs,kOwnN]; intro hA; intro K hK; simp only [putE,retOf,hA]
     go_simp
     refine (HOF.out _ hC.below).mono ?_; rintro e w4 ⟨v4,rfl,⟨ts,ht,htv,hto⟩,hb4⟩; obtain ⟨A4,c4,rfl,_⟩:=hto.slice32
     go_simp
     exact hK _ _ hb4 ⟨ts,A4,c4,rfl,ht,htv,hto.mono (Nat.le_trans hwW hC.below.size)⟩
   refine aa rfl rfl ?_ ?_
   · intro wr x hC; simp only [deps,at_,List.getD_cons_zero,List.getD_cons_succ,PK.sem,PK.move,kIs]; intro K hK; have hce:=(hC.cell (b:=w2.heap.size) hl2a (show _ ∉ ([] : List Nat) by simp) 0).1.trans cW; simp only [putE,retOf]
     go_simp
     exact hK _ _ (Below.refl _ _) rfl
   refine aa rfl rfl ?_ ?_
   · intro wr x hC; simp only [deps,at_,List.getD_cons_zero,List.getD_cons_succ,PK.sem,PK.move,kIs,kOwnN,kNat2]; intro hA hB; intro K hK; obtain ⟨ts,A4,c4,hx,ht,htv,hto⟩:=hA; simp only [putE,retOf,hx,hB]
     go_simp
     have hbz:=Nat.le_trans hwW hC.below.size; have hRow:=hC.row HZ3.out; have hlt : ts.length ≤ 100000:=Nat.le_trans (right_length_le ht (by rw [htv]; exact HXS.out.1)) (by have:=HXS.out.2; omega); refine (divide_any (B0:=w.heap.size) hto hbz hRow ht HDV.out.1 HDV.out.2.1 hlt HZ1.out).mono ?_; rintro e w5 ⟨vq,vr,rfl,hvq,hvr,hb5⟩; obtain ⟨Aq,nq,cq,rfl⟩:=hvq.shape; obtain ⟨Ar,nr,cr,rfl⟩:=hvr.shape; rw [htv,HDV.out.2.2,← HQR.out.1] at hvq; rw [htv,HDV.out.2.2,← HQR.out.2] at hvr
     go_simp
     exact hK _ _ hb5 ⟨_,_,_,_,_,_,rfl,hvq,hvr⟩
   refine aa rfl rfl ?_ ?_
   · intro wr x hC; simp only [deps,at_,List.getD_cons_zero,List.getD_cons_succ,PK.sem,PK.move,kNat2]; intro hA; intro K hK; simp only [putE,retOf]
     go_simp
     exact hK _ _ (Below.refl _ _) hA
   refine aa rfl rfl ?_ ?_
   · intro wr x hC; simp only [deps,at_,List.getD_cons_zero,List.getD_cons_succ,PK.sem,PK.move,kNat2,kNat1]; intro hA; intro K hK; obtain ⟨A,k,c,A',k',c',hx,h1,h2⟩:=hA; simp only [putE,retOf,hx]
     go_simp
     exact hK _ _ (Below.refl _ _) ⟨_,_,_,rfl,h1⟩
   refine aa rfl rfl ?_ ?_
   · intro wr x hC; simp only [deps,at_,List.getD_cons_zero,List.getD_cons_succ,PK.sem,PK.move,kNat2,kNat1]; intro hA; intro K hK; obtain ⟨A,k,c,A',k',c',hx,h1,h2⟩:=hA; simp only [putE,retOf,hx]
     go_simp
     exact hK _ _ (Below.refl _ _) ⟨_,_,_,rfl,h2⟩
   refine aa rfl rfl ?_ ?_
   · intro wr x hC; simp only [deps,at_,List.getD_cons_zero,List.getD_cons_succ,PK.sem,PK.move]; intro K hK; have hsz:=hC.below.size; simp only [putE,retOf]
     go_simp
     exact hK _ _ ⟨(Below.refl _ _).alloc (Nat.le_refl _) _,_,rfl,Nat.le_refl _⟩ ⟨_,_,rfl,hsz,holds_new1 _ (noDig_slice _ _ _) _,rfl⟩
   refine aa rfl rfl ?_ ?_
   · intro wr x hC; simp only [deps,at_,List.getD_cons_zero,List.getD_cons_succ,PK.sem,PK.move]; intro K hK; have hsz:=hC.below.size; simp only [putE,retOf]
     go_simp
     exact hK _ _ ⟨(Below.refl _ _).alloc (Nat.le_refl _) _,_,rfl,Nat.le_refl _⟩ ⟨_,_,rfl,hsz,holds_new1 _ (noDig_slice _ _ _) _,rfl⟩
   refine aa rfl rfl ?_ ?_
   · intro wr x hC; simp only [deps,at_,List.getD_cons_zero,List.getD_cons_succ,PK.sem,PK.move,kNat1,kPutN1]; intro hA hB; intro K hK; obtain ⟨g,cs,hx,hg0,hg,hsz⟩:=hA; obtain ⟨u0,rfl⟩:=size_one hsz; obtain ⟨A,k,c,hy,hr1⟩:=hB; obtain ⟨m1,m3⟩:=hg.one; simp only [putE,retOf,hx,hy]
     go_simp
     exact hK _ _ ⟨g,hx,hg0,stored_put1 hg (noDig_slice _ _ _)⟩ ⟨g,_,hx,hg0,kb hg (noDig_slice _ _ _),A,k,c,rfl,hr1.stored (stored_put1 hg (noDig_slice _ _ _))⟩
   refine aa rfl rfl ?_ ?_
   · intro wr x hC; simp only [deps,at_,List.getD_cons_zero,List.getD_cons_succ,PK.sem,PK.move,kNat1,kPutN1]; intro hA hB; intro K hK; obtain ⟨g,cs,hx,hg0,hg,hsz⟩:=hA; obtain ⟨u0,rfl⟩:=size_one hsz; obtain ⟨A,k,c,hy,hr1⟩:=hB; obtain ⟨m1,m3⟩:=hg.one; simp only [putE,retOf,hx,hy]
     go_simp
     exact hK _ _ ⟨g,hx,hg0,stored_put1 hg (noDig_slice _ _ _)⟩ ⟨g,_,hx,hg0,kb hg (noDig_slice _ _ _),A,k,c,rfl,hr1.stored (stored_put1 hg (noDig_slice _ _ _))⟩
   exact ae rfl
 case en =>
   intro wr x hC hall; have hE1:=hall 9 (of_decide_eq_true (by kernel_rfl)); have hE2:=hall 10 (of_decide_eq_true (by kernel_rfl)); clear hall; simp only [at_,List.getD_cons_zero,List.getD_cons_succ,PK.sem,kPutN1] at hE1 hE2; obtain ⟨g8,_,hx8,_,h8,A8,n8,m8,rfl,q8⟩:=hE1; obtain ⟨g9,_,hx9,_,h9,A9,n9,m9,rfl,q9⟩:=hE2; have hbw:=HBW.out.trans hC.below; have e8:=h8.one.1; have e9:=h9.one.1; simp only [putE,hx8,hx9]; clear hC h8 h9 hx8 hx9
   go_wp2
   go_quiet (fail)
   go_wp2
   go_returns
   rw [HQR.out.1] at q8; rw [HQR.out.2] at q9; exact ⟨_,_,rfl,q8,q9,gt hbw nq⟩
theorem val_set {ps : List Nat} {k : Nat} (hk : k < ps.length) (d : Nat) : val (ps.set k d) + 1000000000 ^ k * ps.getD k 0 = val ps + 1000000000 ^ k * d:=by
 induction ps generalizing k with
 | nil=>simp at hk
 | cons p ps ih =>
   cases k with
   | zero=>simp [val]; omega
   | succ k =>
     have:=ih (k:=k) (by simpa using hk); simp only [List.set_cons_succ,val,List.getD_cons_succ,Nat.pow_succ]; rw [Nat.mul_comm (1000000000 ^ k) 1000000000,Nat.mul_assoc,Nat.mul_assoc]; omega
theorem mul_step {ps ys : List Nat} {i j c x V : Nat} (hk : i + j < ps.length) (hj : j < ys.length) (h : val ps + 1000000000 ^ (i + j) * c = V + x * 1000000000 ^ i * val (ys.take j)) :
   val (ps.set (i + j) ((c + (ps.getD (i + j) 0 + x * ys.getD j 0)) % 1000000000)) + 1000000000 ^ (i + (j + 1)) * ((c + (ps.getD (i + j) 0 + x * ys.getD j 0)) / 1000000000) = V + x * 1000000000 ^ i * val (ys.take (j + 1)):=by
 have h1:=val_set hk ((c + (ps.getD (i + j) 0 + x * ys.getD j 0)) % 1000000000)
 have h2:=Nat.mod_add_div (c + (ps.getD (i + j) 0 + x * ys.getD j 0)) 1000000000
 rw [ei ys j hj,Nat.mul_add (x * 1000000000 ^ i),← Nat.add_assoc V,← h,show i + (j + 1) = (i + j) + 1 from by omega,Nat.pow_succ,Nat.mul_assoc (1000000000 ^ (i + j))]
 have h3 : x * 1000000000 ^ i * (1000000000 ^ j * ys.getD j 0) = 1000000000 ^ (i + j) * (x * ys.getD j 0):=by
   rw [Nat.pow_add]
   ac_rfl
 rw [h3]
 generalize 1000000000 ^ (i + j) = P at *
 generalize ps.getD (i + j) 0 = p at *
 generalize x * ys.getD j 0 = z at *
 generalize hm : (c + (p + z)) % 1000000000 = m at *
 generalize hq : (c + (p + z)) / 1000000000 = q at *
 have h4 : P * (c + (p + z)) = P * m + P * (1000000000 * q):=by rw [← h2,Nat.mul_add]
 rw [Nat.mul_add,Nat.mul_add] at h4
 omega
theorem carry_lt {c p x y : Nat} (hc : c < 1000000000) (hp : p < 1000000000) (hx : x < 1000000000) (hy : y < 1000000000) : (c + (p + x * y)) / 1000000000 < 1000000000 ∧ x * y ≤ 999999998000000001:=by
 have h1 : x * y ≤ 999999999 * 999999999:=Nat.mul_le_mul (by omega) (by omega)
 omega
theorem getD_zero_of {ps : List Nat} {k : Nat} (h : ∀ j,k ≤ j → ps.getD j 0 = 0) {d : Nat} (hk : k < ps.length) : val (ps.set k d) = val ps + 1000000000 ^ k * d:=by
 have:=val_set hk d
 rw [h k (Nat.le_refl _)] at this
 simpa using this
theorem times_any {w : World} {A1 A2 : Option Addr} {c1 c2 : Nat} {xs ys : List Nat} (hr1 : Row w A1 (u32s xs)) (hr2 : Row w A2 (u32s ys)) (hx : small 1000000000 xs) (hy : small 1000000000 ys) (hl1 : xs.length ≤ 100000) (hl2 : ys.length ≤ 100000) :
   Calls Tryz.prog 172 #[.agg #[.slice A1 xs.length c1],.agg #[.slice A2 ys.length c2]] w (RetNum w (val xs * val ys)):=by
 obtain ⟨i0,hi,hz0,hz1,hz2⟩:=info_parts ep
 obtain ⟨n,hn⟩ : ∃ n : Nat,n = xs.length:=⟨_,rfl⟩
 obtain ⟨m,hm⟩ : ∃ m : Nat,m = ys.length:=⟨_,rfl⟩
 have hn1 : n ≤ 100000:=by omega
 have hm1 : m ≤ 100000:=by omega
 rw [← hn,← hm]
 have HN:=Lib.hid hn
 have HM:=Lib.hid hm
 clear hn hm
 have hx':=small_mono hx (show 1000000000 ≤ 4294967296 by decide)
 go_enter Tryz.func172,Tryz.ntmps172
 go_wp2_with (at_make; refine wpList_make_full _ rfl _ _ 128 rfl (w.heap.size + 3) 81 i0 (.int .u32 0) 1 Tryz.underlying128 hi hz0 hz1 .i64 .i64 ((n : Int) + (m : Int)) ((n : Int) + (m : Int)) (n + m) rfl rfl (by omega) (by omega) (by rw [hz2]; omega) (by unfold maxLen; omega) (by simp) ?_)
 intro w1 hown hgrow
 have ho1:=kx hown
 obtain ⟨hb1,hs1,hA,hB,hC⟩:=jh hgrow
 have HA:=Lib.hid hA
 have HB:=Lib.hid hB
 have HC:=Lib.hid hC
 clear hown hgrow
 have hcA0:=cell_of_one hA
 have hcB0:=cell_of_one hB
 clear hA hB hC
 go_wp2_with fail
 clear hcA0 hcB0
 go_loopw [22] (fun iv wr => ∃ (i : Nat) (ps : List Nat), i ≤ n ∧ iv = .int .i64 (i : Int) ∧ Own wr (w.heap.size + 3) 81 (.slice (some ⟨w.heap.size + 1 + 1 + 1, 0, none⟩) (n + m) (n + m)) (u32s ps) ∧ Hid (ps.length = n + m ∧ small 1000000000 ps ∧ val ps = val (xs.take i) * val ys ∧ ∀ j, i + m ≤ j → ps.getD j 0 = 0) ∧ Below (w.heap.size + 3) w1 wr)
   (fun iv _=>n - (intOf iv).toNat)
 case atStart=>exact ⟨0,List.replicate (n + m) 0,Nat.zero_le _,rfl,ho1,⟨by simp,dq _ _ (by decide),by
   have : ∀ k,val (List.replicate k 0) = 0:=fun k=>by
     induction k with
     | zero=>rfl
     | succ k ih=>rw [List.replicate_succ,val,ih]
   rw [this]; simp [val],fun j _=>by
   rw [List.getD_eq_getElem?_getD,List.getElem?_replicate]
   split <;> rfl⟩,Below.refl _ _⟩
 case round =>
   obtain ⟨i,ps,hi1,rfl,hp,HO,hb⟩:=hrel; have hsz:=hb.size
   by_cases hlt : i < n
   · have bW:=below_trans hb1 hb (by omega); have hcA:=cell_of_one ((hb.block w.heap.size (by omega)).trans HA.out); have hcB:=cell_of_one ((hb.block (w.heap.size + 1) (by omega)).trans HB.out)
     obtain ⟨x,hxe⟩ : ∃ x,x = xs.getD i 0:=⟨_,rfl⟩
     have hxb : x < 1000000000:=by rw [hxe]; exact bl hx (by decide) i
     have q1 : ∀ W,Below w.heap.size w W → Calls Tryz.prog 165 #[.slice A1 n c1,.int .i64 i] W (fun e w'=>e = .returned (.int .u64 (x : Int)) ∧ W = w'):=fun W hW=>by
       have:=at_any (c:=c1) (hr1.below hW) hx' i (by omega); rw [Int.toNat_natCast,← hxe,← HN.out] at this; exact this
     have HX:=Lib.hid hxe; have Q1:=Lib.hid q1; clear hxe q1
     go_wp2_with fail
     refine (Q1.out _ bW).mono ?_; rintro e w' ⟨rfl,rfl⟩
     go_wp2_with fail
     obtain ⟨wo,hwo⟩ : ∃ wo : World,wo = wr:=⟨_,rfl⟩
     have hb0 : Below (w.heap.size + 3) w1 wo:=hwo ▸ hb; have hp0 : Own wo (w.heap.size + 3) 81 (.slice (some ⟨w.heap.size + 1 + 1 + 1,0,none⟩) (n + m) (n + m)) (u32s ps):=hwo ▸ hp; rw [← hwo]; clear hwo hb hp hcA hcB bW hsz Q1
     obtain ⟨V,hV⟩ : ∃ V,V = val ps:=⟨_,rfl⟩
     have HV:=Lib.hid hV; clear hV
     go_loopw [8, 32] (fun cv jv wr => ∃ (j cy : Nat) (qs : List Nat), j ≤ m ∧ jv = .int .i64 (j : Int) ∧ cv = .int .u64 (cy : Int) ∧ cy < 1000000000 ∧ Own wr (w.heap.size + 3) 81 (.slice (some ⟨w.heap.size + 1 + 1 + 1, 0, none⟩) (n + m) (n + m)) (u32s qs) ∧ Hid (qs.length = n + m ∧ small 1000000000 qs ∧ val qs + 1000000000 ^ (i + j) * cy = V + x * 1000000000 ^ i * val (ys.take j) ∧ ∀ t, i + m ≤ t → qs.getD t 0 = 0) ∧ Below (w.heap.size + 3) w1 wr)
       (fun _ jv _=>m - (intOf jv).toNat)
     case atStart=>exact ⟨0,0,ps,Nat.zero_le _,rfl,rfl,by decide,hp0,⟨HO.out.1,HO.out.2.1,by rw [HV.out]; simp [val],HO.out.2.2.2⟩,hb0⟩
     case round =>
       obtain ⟨j,cy,qs,hj1,rfl,rfl,hcy,hq,HQ,hbq⟩:=hrel; have hszq:=hbq.size; have bW:=below_trans hb1 hbq (by omega); have hcA:=cell_of_one ((hbq.block w.heap.size (by omega)).trans HA.out); have hcB:=cell_of_one ((hbq.block (w.heap.size + 1) (by omega)).trans HB.out)
       by_cases hjm : j < m
       · obtain ⟨ad,y,rfl,hcy2,hy2,hym⟩:=(hr2.below bW).dig (k:=j) (by rw [← HM.out]; exact hjm); have hyb:=hy y hym
         obtain ⟨p,hpe⟩ : ∃ p,p = qs.getD (i + j) 0:=⟨_,rfl⟩
         have hpb : p < 1000000000:=by rw [hpe]; exact bl HQ.out.2.1 (by decide) _
         have q2 : Calls Tryz.prog 165 #[.slice (some ⟨w.heap.size + 1 + 1 + 1,0,none⟩) (n + m) (n + m),.int .i64 ((i : Int) + (j : Int))] wr (fun e w'=>e = .returned (.int .u64 (p : Int)) ∧ wr = w'):=by
           have:=at_any (c:=n + m) hq.row32 (small_mono HQ.out.2.1 (by decide)) ((i : Int) + (j : Int)) (by omega); rw [HQ.out.1,show ((i : Int) + (j : Int)).toNat = i + j from by omega,← hpe] at this; exact this
         obtain ⟨hqc,hqf⟩:=own_cell hq (k:=i + j) (by rw [an,HQ.out.1]; omega); obtain ⟨hcl,hzb⟩:=carry_lt hcy hpb hxb hyb
         obtain ⟨z,hz⟩ : ∃ z,z = x * y:=⟨_,rfl⟩
         have hzi : (x : Int) * (y : Int) = (z : Int):=by rw [hz]; simp
         rw [← hz] at hcl hzb; have hst:=mul_step (ps:=qs) (ys:=ys) (i:=i) (j:=j) (c:=cy) (x:=x) (V:=V) (by rw [HQ.out.1]; omega) (by rw [← HM.out]; exact hjm) HQ.out.2.2.1; rw [hy2.out,← hpe,← hz] at hst; have HST:=Lib.hid hst; have Q2:=Lib.hid q2; have hij : (i : Int) + (j : Int) < (n : Int) + (m : Int):=by omega
         have hij0 : 0 ≤ (i : Int) + (j : Int):=by omega
         clear hst q2 hpe hz hym
         go_wp2_with (go_at_call 165; refine Q2.out.mono ?_; rintro e w' ⟨rfl,rfl⟩)
         go_roundw
         case rel=>exact ⟨j + 1,(cy + (p + z)) / 1000000000,qs.set (i + j) ((cy + (p + z)) % 1000000000),by omega,by go_num,by go_num,hcl,by
           have:=gk hq (i + j) ((cy + (p + z)) % 1000000000); rw [show (((cy + (p + z)) % 1000000000 : Nat) : Int) = ((cy : Int) + ((p : Int) + (z : Int))) % 1000000000 from by omega] at this
           exact this,⟨by rw [List.length_set]; exact HQ.out.1,ga HQ.out.2.1 _ (Nat.mod_lt _ (by decide)),HST.out,fun t ht=>by rw [ef _ (by omega)]; exact HQ.out.2.2.2 t ht⟩,hbq.setCell (show w.heap.size + 3 ≤ w.heap.size + 1 + 1 + 1 by omega) _⟩
         case measure=>first | (simp [intOf]; done) | (simp [intOf]; omega)
       · have hjm' : j = m:=by omega
         have HJ:=Lib.hid hjm'; obtain ⟨hqc,hqf⟩:=own_cell hq (k:=i + m) (by rw [an,HQ.out.1]; omega); have him : (i : Int) + (m : Int) < (n : Int) + (m : Int):=by omega
         have him0 : 0 ≤ (i : Int) + (m : Int):=by omega
         clear hjm'
         go_wp2
         go_roundw
         case rel=>exact ⟨i + 1,qs.set (i + m) cy,by omega,by go_num,gk hq (i + m) cy,⟨by rw [List.length_set]; exact HQ.out.1,ga HQ.out.2.1 _ hcy,by
           have h:=HQ.out.2.2.1; rw [HJ.out,HM.out,List.take_length,← HM.out] at h; rw [getD_zero_of HQ.out.2.2.2 (by rw [HQ.out.1]; omega),h,HV.out,HO.out.2.2.1,ei xs i (by rw [← HN.out]; exact hlt),← HX.out,Nat.add_mul]; congr 1
           rw [Nat.mul_comm x],fun t ht=>by rw [ef _ (by omega)]; exact HQ.out.2.2.2 t (by omega)⟩,hbq.setCell (show w.heap.size + 3 ≤ w.heap.size + 1 + 1 + 1 by omega) _⟩
         case measure=>first | (simp [intOf]; done) | (simp [intOf]; omega)
   · have hin : i = n:=by omega
     have HI:=Lib.hid hin; have hl : ps.length ≤ 1000000:=by rw [HO.out.1]; omega
     clear hin
     go_wp2_with fail
     refine (stripped_any hp hl).mono ?_; rintro e w3 ⟨⟨v,rfl,hv⟩,rfl⟩; obtain ⟨A3,c3,rfl,_⟩:=hv.slice32; have hcell:=(hb.block (w.heap.size + 1 + 1) (by omega)).trans HC.out; have hc:=cell_of_one hcell; have hf:=free_of_one hcell; have hcs:=cell_of_one (one_setCell (u:=.slice A3 (strip ps).length c3) hcell); clear hcell
     go_wp2
     refine bodyPost_ret (v:=.agg #[.slice A3 (strip ps).length c3]) (by simp [results,Tryz.results172,go_sem,hcs]) rfl ?_; have h:=HO.out; refine ⟨_,rfl,⟨_,df h.2.1,?_,(hv.setBelow (show w.heap.size + 1 + 1 < w.heap.size + 3 by omega) _).mono (by omega)⟩,(below_trans hb1 hb (by omega)).setCell (Nat.le_succ_of_le (Nat.le_succ _)) _⟩; rw [ek,h.2.2.1,HI.out,HN.out,List.take_length]
theorem fold_times {w : World} {B0 N : Nat} {A1 A : Option Addr} {c1 c : Nat} {xs : List Nat} {L : List Arow} (hx : right xs) (ho1 : Own w B0 81 (.slice A1 xs.length c1) (u32s xs)) (hB0 : B0 ≤ w.heap.size) (hL : kj w A L)
   (hacc : ∀ k,k ≤ L.length → ((vals L).take k).foldl (fun a b=>a * b) (val xs) < 1000000000 ^ N) (hN : N ≤ 100000) (hlen : L.length ≤ 100000) :
   Calls Tryz.prog 160 #[.agg #[.slice A1 xs.length c1],.func (.func 172) #[] #[],.slice A L.length c] w (RetNumB w B0 ((vals L).foldl (fun a b=>a * b) (val xs))):=by
 have HAcc:=Lib.hid hacc
 clear hacc
 go_enter Tryz.func160,Tryz.ntmps160
 go_wp2_with fail
 obtain ⟨w1,hw1⟩ : ∃ w1,w1 = (w.alloc (Obj.cells #[Value.slice A1 xs.length c1] 130)).alloc (Obj.cells #[Value.slice none 0 0] 130):=⟨_,rfl⟩
 have hb1 : Below w.heap.size w w1:=by rw [hw1]; exact below_first ((Below.refl _ _).alloc (Nat.le_refl _) _)
 have hs1 : w1.heap.size = w.heap.size + 2:=by rw [hw1]; simp
 have HBox : Hid (w1.heap[w.heap.size]? = some (.cells #[Value.slice A1 xs.length c1] 130 (0,0))):=by
   rw [hw1]; exact dc ((Below.refl _ _).alloc (Nat.le_refl _) _)
 have HRes : Hid (w1.heap[w.heap.size + 1]? = some (.cells #[Value.slice none 0 0] 130 (0,0))):=by
   rw [hw1]; have:=heap_alloc_new (w.alloc (Obj.cells #[Value.slice A1 xs.length c1] 130)) (Obj.cells #[Value.slice none 0 0] 130); rw [show (w.alloc (Obj.cells #[Value.slice A1 xs.length c1] 130)).heap.size = w.heap.size + 1 from by simp] at this; exact this
 rw [← hw1]
 have HS1:=Lib.hid hs1
 clear hw1 hs1
 go_loopw [11] (fun i wr => ∃ (k : Nat) (A' : Option Addr) (c' : Nat) (rs : List Nat), k ≤ L.length ∧ i = .int .i64 k ∧ Hid (wr.heap[w.heap.size]? = some (.cells #[Value.slice A' rs.length c'] 130 (0, 0))) ∧ Hid (wr.heap[w.heap.size + 1]? = some (.cells #[Value.slice none 0 0] 130 (0, 0))) ∧
     right rs ∧ Hid (val rs = ((vals L).take k).foldl (fun a b=>a * b) (val xs)) ∧ Own wr B0 81 (.slice A' rs.length c') (u32s rs) ∧ Below w.heap.size w wr ∧ w1.heap.size ≤ wr.heap.size)
   (fun i _=>L.length - (intOf i).toNat)
 case atStart=>exact ⟨0,A1,c1,xs,Nat.zero_le _,rfl,HBox,HRes,hx,by simp [Hid],ho1.below hb1,hb1,Nat.le_refl _⟩
 case round =>
   obtain ⟨k,A',c',rs,hk,rfl,HB,HR,hrs,HV,hown,hb,hsz⟩:=hrel
   by_cases hlt : k < L.length
   · have hcb:=cell_of_one HB.out; have hfb:=free_of_one HB.out; obtain ⟨ad,rfl,hce⟩:=(hL.1.below hb).at_ (k:=k) (by simpa using hlt); rw [List.getElem_map] at hce
     obtain ⟨r,hr⟩ : ∃ r,r = L[k]:=⟨_,rfl⟩
     rw [← hr] at hce; have hrm : r ∈ L:=by rw [hr]; exact List.getElem_mem _
     obtain ⟨Ar,cr,ds⟩:=r; have hce' : wr.cell? (ad.add k) = some (.slice Ar ds.length cr):=hce; obtain ⟨hrd0,hdsm,hdsl⟩:=hL.2 _ hrm; have hrd : Row wr Ar (u32s ds):=Row.below hrd0 hb; have hdsm' : small 4294967296 ds:=hdsm; have hdsl' : ds.length ≤ 10000:=hdsl
     have HVs : Hid ((vals L).take (k + 1) = (vals L).take k ++ [val ds]):=by
       show _ = _
       rw [List.take_add_one,List.getElem?_eq_getElem (by simpa [vals] using hlt)]; simp only [vals,List.getElem_map,← hr,Option.toList_some]
     have hrl : rs.length ≤ 100000:=Nat.le_trans (right_length_le hrs (by rw [HV.out]; exact HAcc.out k hk)) hN; have hrr : Row wr.drew A' (u32s rs):=hown.row32; have hlw : w.heap.size + 2 ≤ wr.heap.size:=by rw [← HS1.out]; exact hsz
     clear hr hce hrm hrd0 hdsm hdsl
     go_wp2
     go_region_with (first
       | (go_at_call 132; refine (of_any (w:=wr.drew) hrd hdsm' (by omega)).mono ?_; rintro e w2 ⟨v2,rfl,⟨ys,hy,hyv,hyo⟩,hb2⟩; obtain ⟨A2,c2,rfl,hry,_⟩:=hyo.slice32; have hcb2 : w2.cell? ⟨w.heap.size,0,none⟩ = some (.slice A' rs.length c'):=(hb2.cell (p:=⟨w.heap.size,0,none⟩) (show w.heap.size < wr.heap.size by omega)).trans hcb)
       | (go_at_call 172; refine (times_any (Row.below hrr hb2) hry hrs.1 hy.1 hrl (Nat.le_trans (right_length_le hy (by rw [hyv]; exact val_lt32 hdsm')) (by omega))).mono ?_; rintro e w3 ⟨v3,rfl,⟨zs,hz,hzv,hzo⟩,hb3⟩; obtain ⟨A3,c3,rfl,_⟩:=hzo.slice32; have hsz2 : wr.heap.size ≤ w2.heap.size:=hb2.size; have hB3:=(hb3.block w.heap.size (by omega)).trans ((hb2.block w.heap.size (show w.heap.size < wr.heap.size by omega)).trans HB.out); have hcb3:=cell_of_one hB3; have hfb3:=free_of_one hB3; have HB3:=Lib.hid hB3; clear hB3))
     all_goals
       go_wp2
       go_roundw
       case rel =>
         refine ⟨k + 1,A3,c3,zs,by omega,by go_num,one_setCell HB3.out,?_,hz,?_,?_,?_,?_⟩
         · exact (Below.heap_setCell _ _ _ _ (by simp)).trans ((hb3.block _ (by omega)).trans ((hb2.block (w.heap.size + 1) (show w.heap.size + 1 < wr.heap.size by omega)).trans HR.out))
         · show _ = _
           rw [HVs.out,List.foldl_append,← HV.out,hzv,hyv]; rfl
         · exact (hzo.setBelow (show w.heap.size < w2.heap.size by omega) _).mono (by omega)
         · exact (((Below.drew hb).trans (hb2.mono (show w.heap.size ≤ wr.heap.size by omega))).trans (hb3.mono (by omega))).setCell (Nat.le_refl _) _
         · have:=hb3.size; simp; omega
       case measure=>simp [intOf]; omega
   · have hcb:=cell_of_one HB.out; have hcr:=cell_of_one HR.out; have hfr:=free_of_one HR.out; have hcs:=cell_of_one (one_setCell (u:=.slice A' rs.length c') HR.out); have hk' : k = L.length:=by omega
     have HK:=Lib.hid hk'; clear hk'
     go_wp2
     refine bodyPost_ret (v:=.agg #[.slice A' rs.length c']) (by simp [results,Tryz.results160,go_sem,hcs]) rfl ?_; refine ⟨_,rfl,⟨rs,hrs,?_,hown.setOther HR.out (by decide) _⟩,hb.setCell (Nat.le_succ _) _⟩; rw [HV.out,HK.out]; congr 1; rw [List.take_of_length_le (by simp [vals])]
theorem mul_any {w : World} {N : Nat} {A : Option Addr} {c : Nat} {L : List Arow} (hL : kj w A L) (hacc : ∀ k,k ≤ L.length → ((vals L).take k).foldl (fun a b=>a * b) 1 < 1000000000 ^ N) (hN : N ≤ 100000) (hlen : L.length ≤ 100000) :
   Calls Tryz.prog 157 #[.slice A L.length c] w (RetNat w ((vals L).foldl (fun a b=>a * b) 1)):=by
 have h1 : right [1]:=⟨fun x hx=>by rw [List.mem_singleton.1 hx]; decide,.inr (by simp)⟩
 have hv1 : val [1] = 1:=by simp [val]
 have bA : Below w.heap.size w (w.alloc (.cells #[Value.int .u32 1] 81)):=(Below.refl _ _).alloc (Nat.le_refl _) _
 have hf:=fold_times (w:=w.alloc (.cells #[Value.int .u32 1] 81)) (B0:=w.heap.size) (N:=N) (c1:=1) (c:=c) (xs:=[1]) h1 (own_lit32 w 1 (Nat.le_refl _)) (by simp) (hL.below bA) (by rw [hv1]; exact hacc) hN hlen
 rw [hv1] at hf
 have HF:=Lib.hid hf
 have hfield:=fy
 clear hf hacc hv1
 go_enter Tryz.func157,Tryz.ntmps157
 go_wp2_with fail
 refine HF.out.mono ?_
 rintro e w2 ⟨v,rfl,hv,hb⟩
 obtain ⟨rs,h1,h2,h3⟩:=hv
 obtain ⟨A2,c2,rfl,_⟩:=h3.slice32
 go_wp2
 go_ret
 exact ⟨_,rfl,⟨rs,h1,h2,h3⟩,below_first hb⟩
end Go.Proofs.YtnbhihhjgpddcaaGreatDoor
namespace Go.Proofs.YtnbhihhjgpddcaaGreatDoor
theorem guess_math {P D K B p d : Nat} (hK : 0 < K) (hp : p = P / K) (hd : d = D / K) (hB : 0 < B) (hBd : B ≤ d) (hPD : P < D * B) : P / D ≤ p / d ∧ p / d ≤ P / D + 1 ∧ p / d ≤ B:=by
 have hd0 : 0 < d:=by omega
 have h1 : d * K ≤ D:=by rw [hd]; exact Nat.div_mul_le_self D K
 have h2 : D < (d + 1) * K:=by
   have h:=Nat.div_add_mod D K; have hm:=Nat.mod_lt D hK; rw [← hd,Nat.mul_comm] at h; rw [Nat.add_mul,Nat.one_mul]; omega
 have h3 : p * K ≤ P:=by rw [hp]; exact Nat.div_mul_le_self P K
 have hD0 : 0 < D:=Nat.lt_of_lt_of_le (Nat.mul_pos hd0 hK) h1
 have hgB : p / d ≤ B:=by
   have h4 : p < (B + 1) * d:=by
     have h5 : p < (d + 1) * B:=by
       rw [hp,Nat.div_lt_iff_lt_mul hK]; refine Nat.lt_of_lt_of_le hPD ?_; have h6 : D * B ≤ (d + 1) * K * B:=Nat.mul_le_mul_right _ (Nat.le_of_lt h2); rw [Nat.mul_assoc,Nat.mul_comm B K,← Nat.mul_assoc]; exact h6
     have h7 : (d + 1) * B = d * B + B:=by rw [Nat.add_mul,Nat.one_mul]
     have h8 : (B + 1) * d = d * B + d:=by rw [Nat.add_mul,Nat.one_mul,Nat.mul_comm]
     omega
   have:=(Nat.div_lt_iff_lt_mul hd0).2 h4; omega
 refine ⟨?_,?_,hgB⟩
 · rw [Nat.le_div_iff_mul_le hd0,hp,Nat.le_div_iff_mul_le hK]; have h4 : P / D * (d * K) ≤ P / D * D:=Nat.mul_le_mul_left _ h1; have h5:=Nat.div_mul_le_self P D; rw [Nat.mul_assoc]; omega
 · obtain ⟨g,hg⟩ : ∃ g,g = p / d:=⟨_,rfl⟩
   rw [← hg] at hgB ⊢
   cases g with
   | zero=>exact Nat.zero_le _
   | succ e =>
     have h4 : (e + 1) * d ≤ p:=by rw [hg]; exact Nat.div_mul_le_self p d
     have h5 : (e + 1) * d * K ≤ p * K:=Nat.mul_le_mul_right _ h4; have h6 : e * D ≤ e * ((d + 1) * K):=Nat.mul_le_mul_left _ (Nat.le_of_lt h2); have h7 : e * K ≤ d * K:=Nat.mul_le_mul_right _ (by omega); have h8 : e * ((d + 1) * K) = e * (d * K) + e * K:=by rw [Nat.add_mul,Nat.one_mul,Nat.mul_add]
     have h9 : (e + 1) * d * K = e * (d * K) + d * K:=by rw [Nat.add_mul,Nat.one_mul,Nat.add_mul,Nat.mul_assoc]
     have h10 : e ≤ P / D:=by rw [Nat.le_div_iff_mul_le hD0]; omega
     exact Nat.succ_le_succ h10
end Go.Proofs.YtnbhihhjgpddcaaGreatDoor
namespace Go.Proofs.YtnbhihhjgpddcaaGreatDoor
def DivInv (R yn1 yn0 U u q r : Nat) : Prop:=q * yn1 + r = U ∧ r < R ∧ (U * R + u) / (yn1 * R + yn0) ≤ q
theorem divInv_start {R yn1 yn0 U u : Nat} (h1 : 0 < yn1) (h1R : yn1 < R) (hu : u < R) : DivInv R yn1 yn0 U u (U / yn1) (U % yn1):=by
 have hR : 0 < R:=by omega
 refine ⟨?_,Nat.lt_trans (Nat.mod_lt _ h1) h1R,?_⟩
 · have:=Nat.div_add_mod U yn1; rw [Nat.mul_comm] at this; exact this
 · have hY : 0 < yn1 * R:=Nat.mul_pos h1 hR; have e1 : (U * R + u) / (yn1 * R + yn0) ≤ (U * R + u) / (yn1 * R):=Nat.div_le_div_left (Nat.le_add_right _ _) hY
   have e2 : (U * R + u) / (yn1 * R) = U / yn1:=by
     rw [Nat.mul_comm yn1 R,← Nat.div_div_eq_div_mul,Nat.mul_comm U R,Nat.mul_add_div hR,Nat.div_eq_of_lt hu,Nat.add_zero]
   omega
theorem digit_lt {R Y U u : Nat} (hU : U < Y) (hu : u < R) : (U * R + u) / Y < R:=by
 rw [Nat.div_lt_iff_lt_mul (by omega)]
 have h1 : (U + 1) * R ≤ Y * R:=Nat.mul_le_mul_right R hU
 rw [Nat.add_mul,Nat.one_mul,Nat.mul_comm Y R] at h1
 omega
theorem jl {R yn1 yn0 U q r : Nat} (h : q * yn1 + r = U) : q * (yn1 * R + yn0) + R * r = U * R + q * yn0:=by
 rw [← h,Nat.mul_add,← Nat.mul_assoc,Nat.add_mul,Nat.mul_comm r R]
 omega
theorem divInv_down {R yn1 yn0 U u q r : Nat} (hi : DivInv R yn1 yn0 U u q r) (hY : 0 < yn1 * R + yn0) (hU : U < yn1 * R + yn0) (hu : u < R) (ht : R ≤ q ∨ R * r + u < q * yn0) (hr : r + yn1 < R) :
   0 < q ∧ DivInv R yn1 yn0 U u (q - 1) (r + yn1):=by
 have h0 : 0 < q:=by
   rcases Nat.eq_zero_or_pos q with h | h
   · subst h; rcases ht with h | h <;> omega
   · exact h
 have hlt : (U * R + u) / (yn1 * R + yn0) < q:=by
   rcases ht with h | h
   · exact Nat.lt_of_lt_of_le (digit_lt hU hu) h
   · rw [Nat.div_lt_iff_lt_mul hY]; have:=jl (R:=R) (yn0:=yn0) hi.1; omega
 refine ⟨h0,?_,hr,by omega⟩
 obtain ⟨p,rfl⟩ : ∃ p,q = p + 1:=⟨q - 1,by omega⟩
 have:=hi.1
 rw [Nat.add_mul,Nat.one_mul] at this
 rw [Nat.add_sub_cancel]; omega
theorem divInv_last {R yn1 yn0 U u q r : Nat} (hi : DivInv R yn1 yn0 U u q r) (hY : 0 < yn1 * R + yn0) (hU : U < yn1 * R + yn0) (hy0 : yn0 < R) (hu : u < R) (ht : R ≤ q ∨ R * r + u < q * yn0) (hr : R ≤ r + yn1) :
   0 < q ∧ q - 1 = (U * R + u) / (yn1 * R + yn0):=by
 have h0 : 0 < q:=by
   rcases Nat.eq_zero_or_pos q with h | h
   · subst h; rcases ht with h | h <;> omega
   · exact h
 have hlt : (U * R + u) / (yn1 * R + yn0) < q:=by
   rcases ht with h | h
   · exact Nat.lt_of_lt_of_le (digit_lt hU hu) h
   · rw [Nat.div_lt_iff_lt_mul hY]; have:=jl (R:=R) (yn0:=yn0) hi.1; omega
 refine ⟨h0,?_⟩
 obtain ⟨p,rfl⟩ : ∃ p,q = p + 1:=⟨q - 1,by omega⟩
 have h1:=hi.1
 rw [Nat.add_mul,Nat.one_mul] at h1
 have h2 : p * yn1 + (r + yn1) = U:=by omega
 have hs:=jl (R:=R) (yn0:=yn0) h2
 have hp : p * yn1 < R * yn1:=by rw [Nat.mul_comm R]; omega
 have hpR : p < R:=Nat.lt_of_mul_lt_mul_right hp
 have h3 : p * yn0 ≤ R * R:=Nat.le_trans (Nat.mul_le_mul (Nat.le_of_lt hpR) (Nat.le_of_lt hy0)) (Nat.le_refl _)
 have h4 : R * R ≤ R * (r + yn1):=Nat.mul_le_mul_left R hr
 have hle : p ≤ (U * R + u) / (yn1 * R + yn0):=by
   rw [Nat.le_div_iff_mul_le hY]; omega
 rw [Nat.add_sub_cancel]; omega
theorem divInv_exit {R yn1 yn0 U u q r : Nat} (hi : DivInv R yn1 yn0 U u q r) (hY : 0 < yn1 * R + yn0) (ht : ¬ R * r + u < q * yn0) : q = (U * R + u) / (yn1 * R + yn0):=by
 have hs:=jl (R:=R) (yn0:=yn0) hi.1
 have hle : q ≤ (U * R + u) / (yn1 * R + yn0):=by
   rw [Nat.le_div_iff_mul_le hY]; omega
 have:=hi.2.2
 omega
theorem two_digits {R Y U u1 u0 : Nat} (hY : 0 < Y) : (U * (R * R) + (u1 * R + u0)) / Y = (U * R + u1) / Y * R + ((U * R + u1) % Y * R + u0) / Y:=by
 have e : U * (R * R) + (u1 * R + u0) = Y * ((U * R + u1) / Y * R) + ((U * R + u1) % Y * R + u0):=by
   have h:=Nat.div_add_mod (U * R + u1) Y; have h2 : (Y * ((U * R + u1) / Y) + (U * R + u1) % Y) * R = (U * R + u1) * R:=by rw [h]
   rw [Nat.add_mul,Nat.add_mul,Nat.mul_assoc,Nat.mul_assoc U R R] at h2; omega
 rw [e,Nat.mul_add_div hY]
theorem shifted (N y s : Nat) : (N * 2 ^ s) / (y * 2 ^ s) = N / y:=Nat.mul_div_mul_right N y (Nat.pow_pos (by decide))
end Go.Proofs.YtnbhihhjgpddcaaGreatDoor
namespace Go.Proofs.YtnbhihhjgpddcaaGreatDoor
theorem long_part {P part T : List Nat} {p m Y : Nat} (hP : P.length = p) (hpart : part.length = m + 1) (hs : small 1000000000 part) (hY : Y < 1000000000 ^ m) (htop : val ((P ++ part ++ T).drop (p + 1)) < Y) : val part < Y * 1000000000 ∧ val T = 0:=by
 match part,hpart with
 | d :: part1,hpart =>
   have h1 : part1.length = m:=by simpa using hpart
   have e : (P ++ d :: part1 ++ T).drop (p + 1) = part1 ++ T:=by
     rw [List.append_assoc,← hP,← List.drop_drop,List.drop_left']
     · simp
     · rfl
   rw [e,ee,h1] at htop; have hd:=hs d (List.mem_cons_self ..)
   have hT : val T = 0:=by
     rcases Nat.eq_zero_or_pos (val T) with h | h
     · exact h
     · have : 1000000000 ^ m * 1 ≤ 1000000000 ^ m * val T:=Nat.mul_le_mul_left _ h; omega
   refine ⟨?_,hT⟩; rw [hT,Nat.mul_zero,Nat.add_zero] at htop; simp only [val]; omega
theorem long_right {V V' Y dg bo ca M : Nat} (hM : Y * 1000000000 < M * 1000000000) (hdg : dg ≤ 1000000000) (h1 : V / Y ≤ dg) (h2 : V' + Y * dg = V + M * 1000000000 * (bo + ca)) (h3 : M * 1000000000 * ca ≤ Y * dg) (hbo : bo = 0) (hY : 0 < Y) : dg = V / Y ∧ V' = V % Y:=by
 have k1 : Y * dg ≤ Y * 1000000000:=Nat.mul_le_mul_left _ hdg
 have hca : ca = 0:=by
   rcases Nat.eq_zero_or_pos ca with h | h
   · exact h
   · have : M * 1000000000 * 1 ≤ M * 1000000000 * ca:=Nat.mul_le_mul_left _ h; omega
 subst hbo
 rw [hca,Nat.add_zero,Nat.mul_zero,Nat.add_zero] at h2
 have hle : dg ≤ V / Y:=by rw [Nat.le_div_iff_mul_le hY,Nat.mul_comm]; omega
 have he : dg = V / Y:=Nat.le_antisymm hle h1
 refine ⟨he,?_⟩
 have:=Nat.div_add_mod V Y
 rw [← he] at this
 omega
theorem long_back {V V' V2 Y dg bo ca cy M : Nat} (hM : Y * 1000000000 < M * 1000000000) (hdg : dg ≤ 1000000000) (h1 : V / Y ≤ dg) (h1' : dg ≤ V / Y + 1) (h2 : V' + Y * dg = V + M * 1000000000 * (bo + ca)) (h3 : M * 1000000000 * ca ≤ Y * dg) (h4 : V' < M * 1000000000) (hbo : bo = 1) (hY : 0 < Y)
   (h5 : V2 + M * 1000000000 * cy = V' + Y) (h6 : V2 < M * 1000000000) (hcy : cy ≤ 1) : 0 < dg ∧ dg - 1 = V / Y ∧ V2 = V % Y:=by
 have k1 : Y * dg ≤ Y * 1000000000:=Nat.mul_le_mul_left _ hdg
 have hca : ca = 0:=by
   rcases Nat.eq_zero_or_pos ca with h | h
   · exact h
   · have : M * 1000000000 * 1 ≤ M * 1000000000 * ca:=Nat.mul_le_mul_left _ h; omega
 subst hbo
 rw [hca,Nat.add_zero,Nat.mul_one] at h2
 have hdm:=Nat.div_add_mod V Y
 have hml:=Nat.mod_lt V hY
 have hne : dg ≠ V / Y:=by
   intro h; rw [h] at h2; omega
 have he : dg = V / Y + 1:=by omega
 rw [he,Nat.mul_add,Nat.mul_one] at h2
 refine ⟨by rw [he]; exact Nat.succ_pos _,by rw [he]; rfl,?_⟩
 clear he h1 h1' hne h3 k1
 generalize V / Y = z at *
 generalize V % Y = r at *
 have h01 : cy = 0 ∨ cy = 1:=by omega
 rcases h01 with h | h
 · rw [h,Nat.mul_zero,Nat.add_zero] at h5
   exfalso; omega
 · rw [h,Nat.mul_one] at h5; omega
theorem dg_pos {V V' Y dg bo ca M : Nat} (h2 : V' + Y * dg = V + M * 1000000000 * (bo + ca)) (h4 : V' < M * 1000000000) (hbo : bo = 1) : 1 ≤ dg:=by
 rcases Nat.eq_zero_or_pos dg with h | h
 · exfalso
   subst h; subst hbo; rw [Nat.mul_zero,Nat.mul_add] at h2; omega
 · exact h
theorem long_step {P part part' T qs : List Nat} {p Y X : Nat} (hP : P.length = p) (hq : p < qs.length) (hT : val T = 0) (hv : val part' = val part % Y)
   (h : val (qs.drop (p + 1)) * Y * 1000000000 ^ (p + 1) + val (P ++ part ++ T) = X) :
   val ((qs.set p (val part / Y)).drop p) * Y * 1000000000 ^ p + val (P ++ part' ++ T) = X:=by
 have e1 : (qs.set p (val part / Y)).drop p = (val part / Y) :: qs.drop (p + 1):=by
   have hl : p < (qs.set p (val part / Y)).length:=by rw [List.length_set]; omega
   rw [List.drop_eq_getElem_cons hl]; congr 1
   · simp
   · rw [List.drop_set_of_lt (by omega)]
 rw [e1,val,ee,ee,hT,Nat.mul_zero,Nat.add_zero,hP,hv]
 rw [ee,ee,hT,Nat.mul_zero,Nat.add_zero,hP,Nat.pow_succ] at h
 rw [← h]
 have hdm:=Nat.div_add_mod (val part) Y
 generalize val (qs.drop (p + 1)) = Q
 generalize 1000000000 ^ p = K
 have e2 : K * val part = val part / Y * Y * K + K * (val part % Y):=by
   have e3 : K * val part = K * (Y * (val part / Y) + val part % Y):=by rw [hdm]
   rw [e3,Nat.mul_add]; congr 1; rw [Nat.mul_comm Y]; exact Nat.mul_comm _ _
 rw [e2,Nat.add_mul,Nat.add_mul]
 have e4 : 1000000000 * Q * Y * K = Q * Y * (K * 1000000000):=by ac_rfl
 omega
theorem long_top {P part' T : List Nat} {p Y : Nat} (hP : P.length = p) (hT : val T = 0) (h : val part' < Y) : val ((P ++ part' ++ T).drop p) < Y:=by
 rw [List.append_assoc,← hP,List.drop_left' rfl,ee,hT,Nat.mul_zero,Nat.add_zero]; exact h
theorem three_parts {L : List Nat} {p m : Nat} (h : p + m ≤ L.length) : ∃ P part T,L = P ++ part ++ T ∧ P.length = p ∧ part.length = m:=by
 refine ⟨L.take p,(L.drop p).take m,(L.drop p).drop m,?_,?_,?_⟩
 · rw [List.append_assoc,List.take_append_drop,List.take_append_drop]
 · rw [List.length_take]; omega
 · rw [List.length_take,List.length_drop]; omega
end Go.Proofs.YtnbhihhjgpddcaaGreatDoor
namespace Go.Proofs.YtnbhihhjgpddcaaGreatDoor
open Go.RowKit
theorem bitLen_pow : ∀ (n y : Nat), y ≤ n → 0 < y → y < 2 ^ 64 → 0 < Lib.bitLen y ∧ 2 ^ (Lib.bitLen y - 1) ≤ y ∧ y < 2 ^ Lib.bitLen y
 | 0,y,h,h0,_=>by omega
 | n + 1,y,h,h0,h64=>by
   have e:=Lib.bitLen_half y (by omega) h64; rcases Nat.lt_or_ge y 2 with h1 | h1
   · have : y = 1:=by omega
     subst this; have e1 : Lib.bitLen 1 = 1:=by decide
     rw [e1]; decide
   · obtain ⟨i1,i2,i3⟩:=bitLen_pow n (y / 2) (by omega) (by omega) (by omega)
     obtain ⟨m,hm⟩ : ∃ m,Lib.bitLen (y / 2) = m + 1:=⟨Lib.bitLen (y / 2) - 1,by omega⟩
     rw [hm] at i2 i3 e; rw [e,show 1 + (m + 1) = m + 2 from by omega]; simp only [Nat.add_sub_cancel,show m + 2 - 1 = m + 1 from by omega,Nat.pow_succ] at i2 i3 ⊢; omega
theorem norm_y {y s : Nat} (h0 : 0 < y) (hy : y < 1000000000000000000) (hs : s = 64 - Lib.bitLen y) : 4 ≤ s ∧ s < 64 ∧ 9223372036854775808 ≤ y * 2 ^ s ∧ y * 2 ^ s < 18446744073709551616:=by
 obtain ⟨i1,i2,i3⟩:=bitLen_pow y y (Nat.le_refl _) h0 (by omega)
 have hl:=Lib.bitLen_le y 60 (by omega) (by omega)
 obtain ⟨L,hL⟩ : ∃ L,L = Lib.bitLen y:=⟨_,rfl⟩
 rw [← hL] at i1 i2 i3 hl hs
 refine ⟨by omega,by omega,?_,?_⟩
 · have h1 : 2 ^ (L - 1) * 2 ^ s ≤ y * 2 ^ s:=Nat.mul_le_mul_right _ i2; rw [← Nat.pow_add,show L - 1 + s = 63 from by omega] at h1; exact h1
 · have h1 : y * 2 ^ s < 2 ^ L * 2 ^ s:=Nat.mul_lt_mul_of_pos_right i3 (Nat.pow_pos (by decide)); rw [← Nat.pow_add,show L + s = 64 from by omega] at h1; exact h1
theorem norm_x {hi lo y s : Nat} (hhi : hi < y) (hlo : lo < 18446744073709551616) (hs : s < 64) :
   lo / 2 ^ (64 - s) < 2 ^ s ∧ hi * 2 ^ s + lo / 2 ^ (64 - s) < y * 2 ^ s ∧ (hi * 2 ^ s + lo / 2 ^ (64 - s)) * 18446744073709551616 + lo * 2 ^ s % 18446744073709551616 = (hi * 18446744073709551616 + lo) * 2 ^ s:=by
 obtain ⟨a,ha⟩ : ∃ a,a = 2 ^ s:=⟨_,rfl⟩
 obtain ⟨b,hb⟩ : ∃ b,b = 2 ^ (64 - s):=⟨_,rfl⟩
 have hab : b * a = 18446744073709551616:=by rw [ha,hb,← Nat.pow_add,show 64 - s + s = 64 from by omega]
 have ha0 : 0 < a:=by rw [ha]; exact Nat.pow_pos (by decide)
 have hb0 : 0 < b:=by rw [hb]; exact Nat.pow_pos (by decide)
 rw [← ha,← hb]
 have e : lo * a / 18446744073709551616 = lo / b:=by rw [← hab]; exact Nat.mul_div_mul_right lo b ha0
 have e2:=Nat.div_add_mod (lo * a) 18446744073709551616
 rw [e] at e2
 have h3 : (hi * a + lo / b) * 18446744073709551616 + lo * a % 18446744073709551616 = (hi * 18446744073709551616 + lo) * a:=by
   rw [Nat.add_mul,Nat.add_mul,Nat.mul_right_comm hi a]; omega
 refine ⟨?_,?_,h3⟩
 · rw [Nat.div_lt_iff_lt_mul hb0,Nat.mul_comm,hab]; exact hlo
 · have h4 : (hi + 1) * 18446744073709551616 * a ≤ y * 18446744073709551616 * a:=Nat.mul_le_mul_right _ (Nat.mul_le_mul_right _ hhi); have h5 : (hi * 18446744073709551616 + lo) * a < (hi + 1) * 18446744073709551616 * a:=Nat.mul_lt_mul_of_pos_right (by omega) ha0; have h6 : y * 18446744073709551616 * a = y * a * 18446744073709551616:=Nat.mul_right_comm _ _ _; omega
theorem or_shift {hi s c : Nat} (hs : s < 64) (hc : c < 2 ^ s) (hh : hi * 2 ^ s + c < 18446744073709551616) : bits .or .u64 ((hi * 2 ^ s : Nat) : Int) (c : Int) = ((hi * 2 ^ s + c : Nat) : Int):=by
 have h1 : 2 ^ s < 2 ^ 64:=Nat.pow_lt_pow_right (by decide) hs
 rw [bits_or_u64_nat _ _ (by omega) (by omega),Nat.mul_comm hi,← Nat.two_pow_add_eq_or_of_lt hc]
theorem mask32 (a : Nat) (ha : a < 18446744073709551616) : bits .and .u64 (a : Int) 4294967295 = ((a % 4294967296 : Nat) : Int):=by
 have h:=bits_and_u64_nat a 4294967295 ha (by omega)
 have e : a &&& 4294967295 = a % 4294967296:=Nat.and_two_pow_sub_one_eq_mod a 32
 rw [e] at h
 exact h
theorem wrap_small {g : Nat} (h : g < 18446744073709551616) : IntKind.u64.wrap (g : Int) = (g : Int):=by rw [IntKind.wrap_u64]; omega
theorem split32 {Y a b : Nat} (ha : a = Y / 4294967296) (hb : b = Y % 4294967296) : a * 4294967296 + b = Y:=by omega
theorem wrap_left {U u q Y : Nat} (hY : 0 < Y) (hY2 : Y < 18446744073709551616) (hq : q = (U * 4294967296 + u) / Y) :
   IntKind.u64.wrap (IntKind.u64.wrap (IntKind.u64.wrap ((U : Int) * 4294967296) + (u : Int)) - IntKind.u64.wrap ((q : Int) * (Y : Int))) = (((U * 4294967296 + u) % Y : Nat) : Int):=by
 have h:=Nat.div_add_mod (U * 4294967296 + u) Y
 rw [← hq] at h
 have hl:=Nat.mod_lt (U * 4294967296 + u) hY
 obtain ⟨p,hp⟩ : ∃ p,p = Y * q:=⟨_,rfl⟩
 have e : (q : Int) * (Y : Int) = (p : Int):=by rw [hp,Nat.mul_comm]; simp
 rw [e,IntKind.wrap_u64,IntKind.wrap_u64,IntKind.wrap_u64,IntKind.wrap_u64]
 rw [← hp] at h
 omega
def DivRet (hi lo y : Nat) (e : Ending) : Prop:=e = .returned (.tuple #[.int .u64 (((hi * 18446744073709551616 + lo) / y : Nat) : Int),.int .u64 (((hi * 18446744073709551616 + lo) % y : Nat) : Int)])
theorem div_ret {hi lo y : Nat} {a r : Int} (h : a = (((hi * 18446744073709551616 + lo) / y : Nat) : Int)) (h2 : r = (((hi * 18446744073709551616 + lo) % y : Nat) : Int)) : DivRet hi lo y (.returned (.tuple #[.int .u64 a,.int .u64 r])):=by
 unfold DivRet; rw [h,h2]
theorem rest_back {N U u1 u0 y Y s R : Nat} (hY : Y = y * 2 ^ s) (hx : U * (R * R) + (u1 * R + u0) = N * 2 ^ s) : ((U * R + u1) % Y * R + u0) % Y / 2 ^ s = N % y:=by
 have e : U * (R * R) + (u1 * R + u0) = Y * ((U * R + u1) / Y * R) + ((U * R + u1) % Y * R + u0):=by
   have h:=Nat.div_add_mod (U * R + u1) Y; have h2 : (Y * ((U * R + u1) / Y) + (U * R + u1) % Y) * R = (U * R + u1) * R:=by rw [h]
   rw [Nat.add_mul,Nat.add_mul,Nat.mul_assoc,Nat.mul_assoc U R R] at h2; omega
 have e2 : ((U * R + u1) % Y * R + u0) % Y = (N * 2 ^ s) % Y:=by rw [← hx,e,Nat.mul_add_mod]
 rw [e2,hY,Nat.mul_mod_mul_right,Nat.mul_div_cancel _ (Nat.pow_pos (by decide))]
theorem div64_s {hi lo y : Nat} (h0 : 0 < y) (hy : y < 1000000000000000000) (hhi : hi < y) (hlo : lo < 18446744073709551616) (w : World)
  (HLZ : Hid (∀ w,Calls Tryz.prog 203 #[.int .u64 y] w fun e w'=>e = .returned (.int .i64 ((64 - Lib.bitLen y : Nat) : Int)) ∧ w = w')) :
   Calls Tryz.prog 196 #[.int .u64 hi,.int .u64 lo,.int .u64 y] w fun e w'=>DivRet hi lo y e ∧ Drawn w w':=by
 have hy0 : ((y : Int) == 0) = false:=by rw [beq_eq_false_iff_ne]; omega
 have hyh : ¬ (y : Int) ≤ (hi : Int):=by omega
 by_cases hz : hi = 0
 · subst hz
   obtain ⟨q,hq⟩ : ∃ q,q = lo / y:=⟨_,rfl⟩
   have e1 : (lo : Int) / (y : Int) = (q : Int):=by rw [hq]; simp
   have hql:=wrap_small (g:=q) (by rw [hq]; exact Nat.lt_of_le_of_lt (Nat.div_le_self _ _) hlo); have HQL:=Lib.hid hql; have HQ:=Lib.hid hq; clear hq hql
   go_enter Tryz.func196,Tryz.ntmps196
   go_wp2
   go_quiet (fail)
   go_wp2
   go_ret2
   exact ⟨div_ret (by rw [HQL.out,HQ.out]; simp) (by rw [Nat.zero_mul,Nat.zero_add]; simp),⟨_,rfl⟩⟩
 · have hz0 : ((hi : Int) == 0) = false:=by rw [beq_eq_false_iff_ne]; omega
   obtain ⟨s,hs⟩ : ∃ s : Nat,s = 64 - Lib.bitLen y:=⟨_,rfl⟩
   obtain ⟨Y,hY⟩ : ∃ Y : Nat,Y = y * 2 ^ s:=⟨_,rfl⟩
   obtain ⟨yn1,hyn1⟩ : ∃ n : Nat,n = Y / 4294967296:=⟨_,rfl⟩
   obtain ⟨yn0,hyn0⟩ : ∃ n : Nat,n = Y % 4294967296:=⟨_,rfl⟩
   obtain ⟨hs1,hs2,b1,b2⟩:=norm_y h0 hy hs; rw [← hY] at b1 b2; obtain ⟨x1,x2,x3⟩:=norm_x (s:=s) hhi hlo hs2; rw [← hY] at x2
   obtain ⟨U,hU⟩ : ∃ U : Nat,U = hi * 2 ^ s + lo / 2 ^ (64 - s):=⟨_,rfl⟩
   obtain ⟨V,hV⟩ : ∃ V : Nat,V = lo * 2 ^ s % 18446744073709551616:=⟨_,rfl⟩
   rw [← hU] at x2; rw [← hU,← hV] at x3; have hVl : V < 18446744073709551616:=by rw [hV]; exact Nat.mod_lt _ (by decide)
   obtain ⟨u1,hu1⟩ : ∃ n : Nat,n = V / 4294967296:=⟨_,rfl⟩
   obtain ⟨u0,hu0⟩ : ∃ n : Nat,n = V % 4294967296:=⟨_,rfl⟩
   have e1 : IntKind.u64.wrap ((y : Int) * 2 ^ s) = (Y : Int):=by
     rw [show (y : Int) * 2 ^ s = ((y * 2 ^ s : Nat) : Int) from by simp,← hY,IntKind.wrap_u64]; omega
   have e2 : (Y : Int) / 4294967296 = (yn1 : Int):=by omega
   have e3 : bits .and .u64 (Y : Int) 4294967295 = (yn0 : Int):=by rw [mask32 _ b2,← hyn0]
   have e4 : bits .or .u64 (IntKind.u64.wrap ((hi : Int) * 2 ^ s)) ((lo : Int) / 2 ^ (64 - s)) = (U : Int):=by
     have k1 : hi * 2 ^ s + lo / 2 ^ (64 - s) < 18446744073709551616:=by rw [← hU]; omega
     have k2 : IntKind.u64.wrap ((hi : Int) * 2 ^ s) = ((hi * 2 ^ s : Nat) : Int):=by
       rw [show (hi : Int) * 2 ^ s = ((hi * 2 ^ s : Nat) : Int) from by simp]; exact wrap_small (Nat.lt_of_le_of_lt (Nat.le_add_right _ _) k1)
     have k3 : (lo : Int) / 2 ^ (64 - s) = ((lo / 2 ^ (64 - s) : Nat) : Int):=by simp
     rw [k2,k3,or_shift hs2 x1 k1,hU]
   have e5 : IntKind.u64.wrap ((lo : Int) * 2 ^ s) = (V : Int):=by
     rw [show (lo : Int) * 2 ^ s = ((lo * 2 ^ s : Nat) : Int) from by simp,IntKind.wrap_u64,hV]; omega
   have e6 : (V : Int) / 4294967296 = (u1 : Int):=by omega
   have e7 : bits .and .u64 (V : Int) 4294967295 = (u0 : Int):=by rw [mask32 _ hVl,← hu0]
   have b3 : 2147483648 ≤ yn1:=by omega
   have b4 : yn1 < 4294967296:=by omega
   have b5 : yn0 < 4294967296:=by omega
   have hYs : yn1 * 4294967296 + yn0 = Y:=split32 hyn1 hyn0; have b6 : u1 < 4294967296:=by omega
   have b7 : u0 < 4294967296:=by omega
   have hVs : V = u1 * 4294967296 + u0:=(split32 hu1 hu0).symm; have e8 : ((yn1 : Int) == 0) = false:=by rw [beq_eq_false_iff_ne]; omega
   have hfin : (hi * 18446744073709551616 + lo) / y = (U * 4294967296 + u1) / Y * 4294967296 + ((U * 4294967296 + u1) % Y * 4294967296 + u0) / Y:=by
     rw [← two_digits (R:=4294967296) (by omega : 0 < Y),← shifted _ _ s,← x3,← hY,hVs]
   obtain ⟨q1,hq1⟩ : ∃ n : Nat,n = (U * 4294967296 + u1) / Y:=⟨_,rfl⟩
   obtain ⟨U2,hU2⟩ : ∃ n : Nat,n = (U * 4294967296 + u1) % Y:=⟨_,rfl⟩
   obtain ⟨q0,hq0⟩ : ∃ n : Nat,n = (U2 * 4294967296 + u0) / Y:=⟨_,rfl⟩
   have hU2Y : U2 < Y:=by rw [hU2]; exact Nat.mod_lt _ (by omega)
   have q1l : q1 < 4294967296:=by rw [hq1]; exact digit_lt x2 b6
   have q0l : q0 < 4294967296:=by rw [hq0]; exact digit_lt hU2Y b7
   rw [← hq1,← hU2,← hq0] at hfin
   obtain ⟨W,hW⟩ : ∃ n : Nat,n = (U2 * 4294967296 + u0) % Y:=⟨_,rfl⟩
   obtain ⟨rr,hrr⟩ : ∃ n : Nat,n = W / 2 ^ s:=⟨_,rfl⟩
   have hrst : rr = (hi * 18446744073709551616 + lo) % y:=by
     rw [hrr,hW,hU2]; exact rest_back (R:=4294967296) hY (by rw [← x3,hVs])
   have hw0:=wrap_left (U:=U2) (u:=u0) (q:=q0) (Y:=Y) (by omega) b2 hq0; rw [← hW] at hw0; have bW : W < 18446744073709551616:=by rw [hW]; exact Nat.lt_trans (Nat.mod_lt _ (by omega)) b2
   have ew : (W : Int) / 2 ^ s = (rr : Int):=by rw [hrr]; simp
   have HRST:=Lib.hid hrst; have hw1:=wrap_left (U:=U) (u:=u1) (q:=q1) (Y:=Y) (by omega) b2 hq1; rw [← hU2] at hw1
   obtain ⟨a1,ha1⟩ : ∃ n : Nat,n = U / yn1:=⟨_,rfl⟩
   obtain ⟨r1,hr1⟩ : ∃ n : Nat,n = U % yn1:=⟨_,rfl⟩
   obtain ⟨a0,ha0⟩ : ∃ n : Nat,n = U2 / yn1:=⟨_,rfl⟩
   obtain ⟨r0,hr0⟩ : ∃ n : Nat,n = U2 % yn1:=⟨_,rfl⟩
   have i1:=divInv_start (R:=4294967296) (yn1:=yn1) (yn0:=yn0) (U:=U) (u:=u1) (by omega) b4 b6; have i0:=divInv_start (R:=4294967296) (yn1:=yn1) (yn0:=yn0) (U:=U2) (u:=u0) (by omega) b4 b7; rw [← ha1,← hr1] at i1; rw [← ha0,← hr0] at i0; have d1 : (U : Int) / (yn1 : Int) = (a1 : Int):=by rw [ha1]; simp
   have d0 : (U2 : Int) / (yn1 : Int) = (a0 : Int):=by rw [ha0]; simp
   have l1 : a1 ≤ 8589934592:=by
     rw [ha1]; have:=Nat.div_le_div_left (a:=U) b3 (by decide); omega
   have l0 : a0 ≤ 8589934592:=by
     rw [ha0]; have:=Nat.div_le_div_left (a:=U2) b3 (by decide); omega
   have m1 : IntKind.u64.wrap ((U : Int) - IntKind.u64.wrap ((a1 : Int) * (yn1 : Int))) = (r1 : Int):=by
     have h:=i1.1
     obtain ⟨p,hp⟩ : ∃ p,p = a1 * yn1:=⟨_,rfl⟩
     rw [← hp] at h; rw [show (a1 : Int) * (yn1 : Int) = (p : Int) from by rw [hp]; simp,IntKind.wrap_u64,IntKind.wrap_u64]; omega
   have m0 : IntKind.u64.wrap ((U2 : Int) - IntKind.u64.wrap ((a0 : Int) * (yn1 : Int))) = (r0 : Int):=by
     have h:=i0.1
     obtain ⟨p,hp⟩ : ∃ p,p = a0 * yn1:=⟨_,rfl⟩
     rw [← hp] at h; rw [show (a0 : Int) * (yn1 : Int) = (p : Int) from by rw [hp]; simp,IntKind.wrap_u64,IntKind.wrap_u64]; omega
   have bU : U < 18446744073709551616:=by omega
   have bU2 : U2 < 18446744073709551616:=by omega
   have HX:=Lib.hid x2; have HU2Y:=Lib.hid hU2Y; have HYs:=Lib.hid hYs; have HFIN:=Lib.hid hfin; have HQ1:=Lib.hid hq1; have HQ0:=Lib.hid hq0; have I1:=Lib.hid i1; have I0:=Lib.hid i0; rw [← hs] at HLZ; clear x1 x2 x3 b1 b2 hY hyn1 hyn0 hs hU hV hu1 hu0 hVs hYs hfin hW hrr hrst hq1 hq0 hU2 hU2Y ha1 hr1 ha0 hr0 i1 i0
   go_enter Tryz.func196,Tryz.ntmps196
   go_upto_block 0 with (go_at_call 203; refine (HLZ.out _).mono ?_; rintro e w' ⟨rfl,rfl⟩)
   go_cut [15] (fun v wx=>v = .int .u64 (q1 : Int) ∧ w = wx)
   case first =>
     go_wp2_with fail
     go_loop [15,16] (fun v x=>∃ q r : Nat,v = .int .u64 (q : Int) ∧ x = .int .u64 (r : Int) ∧ q ≤ 8589934592 ∧ r < 4294967296 ∧ Hid (DivInv 4294967296 yn1 yn0 U u1 q r)) (fun v _=>(intOf v).toNat)
     case atStart=>exact ⟨a1,r1,rfl,rfl,l1,I1.out.2.1,I1.out⟩
     case round =>
       obtain ⟨q,r,rfl,rfl,hq,hr,HI⟩:=hrel
       obtain ⟨z,hz⟩ : ∃ z : Nat,z = q * yn0:=⟨_,rfl⟩
       have ez : (q : Int) * (yn0 : Int) = (z : Int):=by rw [hz]; simp
       have HZ:=Lib.hid hz; have hYp : 0 < yn1 * 4294967296 + yn0:=by omega
       have HUY : Hid (U < yn1 * 4294967296 + yn0):=by show _ < _; rw [HYs.out]; exact HX.out
       have hdown:=fun (ht : 4294967296 ≤ q ∨ 4294967296 * r + u1 < z) (hb : r + yn1 < 4294967296)=>divInv_down HI.out hYp HUY.out b6 (by rw [← HZ.out]; exact ht) hb; have hlast:=fun (ht : 4294967296 ≤ q ∨ 4294967296 * r + u1 < z) (hb : 4294967296 ≤ r + yn1)=>divInv_last HI.out hYp HUY.out b5 b6 (by rw [← HZ.out]; exact ht) hb; rw [HYs.out,← HQ1.out] at hlast; have HD:=Lib.hid hdown; have HL:=Lib.hid hlast; have hex:=fun (ht : ¬ 4294967296 * r + u1 < z)=>divInv_exit HI.out hYp (by rw [← HZ.out]; exact ht); rw [HYs.out,← HQ1.out] at hex; have HE:=Lib.hid hex; clear hz hdown hlast hex
       by_cases hR : 4294967296 ≤ q
       · have hR' : (4294967296 : Int) ≤ (q : Int):=by omega
         by_cases hb : 4294967296 ≤ r + yn1
         · have h1:=(HL.out (.inl hR) hb).2; have H1:=Lib.hid h1; have hbd : decide ((4294967296 : Int) ≤ (r : Int) + (yn1 : Int)) = true:=by rw [decide_eq_true_eq]; omega
           clear h1 hb
           go_wp2
           go_meet
           exact ⟨int_eq (by have:=H1.out; omega),rfl⟩
         · have h1:=(HD.out (.inl hR) (by omega)).2; have H1:=Lib.hid h1; have hbd : decide ((4294967296 : Int) ≤ (r : Int) + (yn1 : Int)) = false:=by rw [decide_eq_false_iff_not]; omega
           have HB:=Lib.hid (Nat.lt_of_not_le hb); clear h1 hb
           go_wp2
           go_round
           case rel=>exact ⟨q - 1,r + yn1,int_eq (by omega),by go_num,by omega,HB.out,H1.out⟩
           case measure=>simp [intOf]; omega
       · have hzb : z < 18446744073709551616:=by
           rw [HZ.out]; have:=Nat.mul_le_mul (show q ≤ 4294967295 by omega) (show yn0 ≤ 4294967295 by omega); omega
         have hRd : decide ((4294967296 : Int) ≤ (q : Int)) = false:=by rw [decide_eq_false_iff_not]; omega
         have hqi : q ≤ 4294967295:=by omega
         obtain ⟨x,hx⟩ : ∃ x : Nat,x = 4294967296 * r + u1:=⟨_,rfl⟩
         have ex : (4294967296 : Int) * (r : Int) + (u1 : Int) = (x : Int):=by omega
         rw [← hx] at HD HL HE; clear hx hR hq
         by_cases ht : x < z
         · have h0q := Nat.lt_of_not_le (fun h : q ≤ 0 => by have e0 : q = 0 := by omega
                                                             have:=HZ.out; rw [e0,Nat.zero_mul] at this; omega)
           by_cases hb : 4294967296 ≤ r + yn1
           · have h1:=(HL.out (.inr ht) hb).2; have H1:=Lib.hid h1; have hbd : decide ((4294967296 : Int) ≤ (r : Int) + (yn1 : Int)) = true:=by rw [decide_eq_true_eq]; omega
             clear h1 hb
             go_wp2
             go_meet
             exact ⟨int_eq (by have:=H1.out; omega),rfl⟩
           · have h1:=(HD.out (.inr ht) (by omega)).2; have H1:=Lib.hid h1; have hbd : decide ((4294967296 : Int) ≤ (r : Int) + (yn1 : Int)) = false:=by rw [decide_eq_false_iff_not]; omega
             have HB:=Lib.hid (Nat.lt_of_not_le hb); clear h1 hb
             go_wp2
             go_round
             case rel=>exact ⟨q - 1,r + yn1,int_eq (by omega),by go_num,by omega,HB.out,H1.out⟩
             case measure=>simp [intOf]; omega
         · have h1:=HE.out ht; have H1:=Lib.hid h1; clear h1
           go_wp2
           go_meet
           exact ⟨int_eq (by have:=H1.out; omega),rfl⟩
   case rest =>
     obtain ⟨rfl,hwc⟩:=hcut; subst hwc
     go_upto_block 2 with fail
     go_cut [18] (fun v wx=>v = .int .u64 (q0 : Int) ∧ w = wx)
     case first =>
       go_wp2_with fail
       go_loop [18,16] (fun v x=>∃ q r : Nat,v = .int .u64 (q : Int) ∧ x = .int .u64 (r : Int) ∧ q ≤ 8589934592 ∧ r < 4294967296 ∧ Hid (DivInv 4294967296 yn1 yn0 U2 u0 q r)) (fun v _=>(intOf v).toNat)
       case atStart=>exact ⟨a0,r0,rfl,rfl,l0,I0.out.2.1,I0.out⟩
       case round =>
         obtain ⟨q,r,rfl,rfl,hq,hr,HI⟩:=hrel
         obtain ⟨z,hz⟩ : ∃ z : Nat,z = q * yn0:=⟨_,rfl⟩
         have ez : (q : Int) * (yn0 : Int) = (z : Int):=by rw [hz]; simp
         have HZ:=Lib.hid hz; have hYp : 0 < yn1 * 4294967296 + yn0:=by omega
         have HUY : Hid (U2 < yn1 * 4294967296 + yn0):=by show _ < _; rw [HYs.out]; exact HU2Y.out
         have hdown:=fun (ht : 4294967296 ≤ q ∨ 4294967296 * r + u0 < z) (hb : r + yn1 < 4294967296)=>divInv_down HI.out hYp HUY.out b7 (by rw [← HZ.out]; exact ht) hb; have hlast:=fun (ht : 4294967296 ≤ q ∨ 4294967296 * r + u0 < z) (hb : 4294967296 ≤ r + yn1)=>divInv_last HI.out hYp HUY.out b5 b7 (by rw [← HZ.out]; exact ht) hb; rw [HYs.out,← HQ0.out] at hlast; have HD:=Lib.hid hdown; have HL:=Lib.hid hlast; have hex:=fun (ht : ¬ 4294967296 * r + u0 < z)=>divInv_exit HI.out hYp (by rw [← HZ.out]; exact ht); rw [HYs.out,← HQ0.out] at hex; have HE:=Lib.hid hex; clear hz hdown hlast hex
         by_cases hR : 4294967296 ≤ q
         · have hR' : (4294967296 : Int) ≤ (q : Int):=by omega
           by_cases hb : 4294967296 ≤ r + yn1
           · have h1:=(HL.out (.inl hR) hb).2; have H1:=Lib.hid h1; have hbd : decide ((4294967296 : Int) ≤ (r : Int) + (yn1 : Int)) = true:=by rw [decide_eq_true_eq]; omega
             clear h1 hb
             go_wp2
             go_meet
             exact ⟨int_eq (by have:=H1.out; omega),rfl⟩
           · have h1:=(HD.out (.inl hR) (by omega)).2; have H1:=Lib.hid h1; have hbd : decide ((4294967296 : Int) ≤ (r : Int) + (yn1 : Int)) = false:=by rw [decide_eq_false_iff_not]; omega
             have HB:=Lib.hid (Nat.lt_of_not_le hb); clear h1 hb
             go_wp2
             go_round
             case rel=>exact ⟨q - 1,r + yn1,int_eq (by omega),by go_num,by omega,HB.out,H1.out⟩
             case measure=>simp [intOf]; omega
         · have hzb : z < 18446744073709551616:=by
             rw [HZ.out]; have:=Nat.mul_le_mul (show q ≤ 4294967295 by omega) (show yn0 ≤ 4294967295 by omega); omega
           have hRd : decide ((4294967296 : Int) ≤ (q : Int)) = false:=by rw [decide_eq_false_iff_not]; omega
           have hqi : q ≤ 4294967295:=by omega
           obtain ⟨x,hx⟩ : ∃ x : Nat,x = 4294967296 * r + u0:=⟨_,rfl⟩
           have ex : (4294967296 : Int) * (r : Int) + (u0 : Int) = (x : Int):=by omega
           rw [← hx] at HD HL HE; clear hx hR hq
           by_cases ht : x < z
           · have h0q := Nat.lt_of_not_le (fun h : q ≤ 0 => by have e0 : q = 0 := by omega
                                                               have:=HZ.out; rw [e0,Nat.zero_mul] at this; omega)
             by_cases hb : 4294967296 ≤ r + yn1
             · have h1:=(HL.out (.inr ht) hb).2; have H1:=Lib.hid h1; have hbd : decide ((4294967296 : Int) ≤ (r : Int) + (yn1 : Int)) = true:=by rw [decide_eq_true_eq]; omega
               clear h1 hb
               go_wp2
               go_meet
               exact ⟨int_eq (by have:=H1.out; omega),rfl⟩
             · have h1:=(HD.out (.inr ht) (by omega)).2; have H1:=Lib.hid h1; have hbd : decide ((4294967296 : Int) ≤ (r : Int) + (yn1 : Int)) = false:=by rw [decide_eq_false_iff_not]; omega
               have HB:=Lib.hid (Nat.lt_of_not_le hb); clear h1 hb
               go_wp2
               go_round
               case rel=>exact ⟨q - 1,r + yn1,int_eq (by omega),by go_num,by omega,HB.out,H1.out⟩
               case measure=>simp [intOf]; omega
           · have h1:=HE.out ht; have H1:=Lib.hid h1; clear h1
             go_wp2
             go_meet
             exact ⟨int_eq (by have:=H1.out; omega),rfl⟩
     case rest =>
       obtain ⟨rfl,rfl⟩:=hcut
       go_wp2
       go_ret2
       exact ⟨div_ret (by rw [HFIN.out]; simp) (by rw [HRST.out]),Drawn.refl _⟩
theorem div64_any {hi lo y : Nat} (h0 : 0 < y) (hy : y < 1000000000000000000) (hhi : hi < y) (hlo : lo < 18446744073709551616) (w : World) :
   Calls Tryz.prog 196 #[.int .u64 hi,.int .u64 lo,.int .u64 y] w fun e w'=>DivRet hi lo y e ∧ Drawn w w' :=
 div64_s h0 hy hhi hlo w (fun w=>by
   have h:=Tryz.bits_LeadingZeros64 (y : Int) w (by omega) (by omega); have hl:=Lib.bitLen_le y 60 (by omega) (by omega); rw [Int.toNat_natCast,show (64 : Int) - (Lib.bitLen y : Int) = ((64 - Lib.bitLen y : Nat) : Int) from by omega] at h
   exact h.mono fun _ _ k=>⟨k.1,k.2.symm⟩)
end Go.Proofs.YtnbhihhjgpddcaaGreatDoor
namespace Go.Proofs.YtnbhihhjgpddcaaGreatDoor
def dval : List Nat → Nat
 | []=>0
 | d :: ds=>d + 10 * dval ds
theorem cz (xs ys : List Nat) : dval (xs ++ ys) = dval xs + 10 ^ xs.length * dval ys:=by
 induction xs with
 | nil=>simp [dval]
 | cons x xs ih=>simp only [List.cons_append,dval,ih,List.length_cons,Nat.pow_succ]; rw [Nat.mul_add,Nat.mul_comm (10 ^ xs.length) 10,Nat.mul_assoc]; omega
theorem dval_lt {ds : List Nat} (h : small 10 ds) : dval ds < 10 ^ ds.length:=by
 induction ds with
 | nil=>simp [dval]
 | cons d ds ih =>
   have h1:=h d (List.mem_cons_self ..); have h2:=ih (fun x hx=>h x (List.mem_cons_of_mem _ hx)); simp only [dval,List.length_cons,Nat.pow_succ]; omega
theorem fv (ds : List Nat) : dval (strip ds) = dval ds:=by
 induction ds with
 | nil=>rfl
 | cons d ds ih =>
   rw [strip]; split
   · rename_i h
     rw [h] at ih; simp only [dval] at ih ⊢; split
     · rename_i h0; simp only [dval]; omega
     · simp only [dval]; omega
   · simp only [dval,ih]
def dright (ds : List Nat) : Prop:=small 10 ds ∧ (ds = [] ∨ ds.getLast? ≠ some 0)
theorem strip_dright {ds : List Nat} (h : small 10 ds) : dright (strip ds):=⟨fun x hx=>h x (strip_mem ds x hx),strip_last ds⟩
theorem dval_pos {ds : List Nat} (hne : ds ≠ []) (hl : ds.getLast? ≠ some 0) : 0 < dval ds:=by
 induction ds with
 | nil=>exact absurd rfl hne
 | cons d ds ih =>
   cases ds with
   | nil =>
     have : d ≠ 0:=by simpa using hl
     simp [dval]; omega
   | cons x xs =>
     rw [List.getLast?_cons_cons] at hl; have:=ih (by simp) hl; simp only [dval] at this ⊢; omega
theorem le (ds : List Nat) (k : Nat) (hk : k < ds.length) : dval (ds.drop k) = ds.getD k 0 + 10 * dval (ds.drop (k + 1)):=by
 rw [List.drop_eq_getElem_cons hk,dval,List.getD_eq_getElem?_getD,List.getElem?_eq_getElem hk]; rfl
def chunk (ds : List Nat) (t : Nat) : Nat:=dval ((ds.drop (9 * t)).take 9)
def chunks (ds : List Nat) (n : Nat) : List Nat:=(List.range n).map (chunk ds)
theorem gx (ds : List Nat) (n : Nat) : chunks ds (n + 1) = chunks ds n ++ [chunk ds n]:=by simp [chunks,List.range_succ]
theorem dy (ds : List Nat) (n : Nat) : (chunks ds n).length = n:=by simp [chunks]
theorem chunk_lt {ds : List Nat} (h : small 10 ds) (t : Nat) : chunk ds t < 1000000000:=by
 have h1:=dval_lt (small_take (small_drop h (9 * t)) 9)
 have h2 : 10 ^ ((ds.drop (9 * t)).take 9).length ≤ 10 ^ 9:=Nat.pow_le_pow_right (by omega) (by rw [List.length_take]; omega)
 have h3 : (10 : Nat) ^ 9 = 1000000000:=by decide
 unfold chunk
 omega
theorem chunks_small {ds : List Nat} (h : small 10 ds) (n : Nat) : small 1000000000 (chunks ds n):=by
 intro d hd
 obtain ⟨t,_,rfl⟩:=List.mem_map.1 hd
 exact chunk_lt h t
theorem chunks_val (ds : List Nat) (n : Nat) : val (chunks ds n) + 1000000000 ^ n * dval (ds.drop (9 * n)) = dval ds:=by
 induction n with
 | zero=>simp [chunks,val]
 | succ n ih =>
   rw [gx,eh,dy,← ih]
   have h1 : ds.drop (9 * n) = (ds.drop (9 * n)).take 9 ++ ds.drop (9 * (n + 1)):=by
     rw [show 9 * (n + 1) = 9 * n + 9 from by omega,← List.drop_drop,List.take_append_drop]
   have h2 : dval (ds.drop (9 * n)) = chunk ds n + 1000000000 * dval (ds.drop (9 * (n + 1))):=by
     rcases Nat.lt_or_ge (ds.drop (9 * n)).length 9 with h | h
     · have e : ds.drop (9 * (n + 1)) = []:=List.drop_of_length_le (by rw [List.length_drop] at h; omega); rw [e,chunk,List.take_of_length_le (by omega)]; simp [dval]
     · rw [h1,cz,List.length_take,Nat.min_eq_left h]; rfl
   rw [h2,Nat.pow_succ]
   generalize dval (ds.drop (9 * (n + 1))) = x
   rw [Nat.mul_add,Nat.mul_assoc,Nat.add_assoc]
theorem kd {ds : List Nat} {n : Nat} (h : ds.length ≤ 9 * n) : val (chunks ds n) = dval ds:=by
 have:=chunks_val ds n
 rw [List.drop_of_length_le h] at this
 simpa [dval] using this
theorem chunks_right {ds : List Nat} {n : Nat} (hd : dright ds) (h : ds.length ≤ 9 * n) (h2 : n = 0 ∨ 9 * (n - 1) < ds.length) : right (chunks ds n):=by
 refine ⟨chunks_small hd.1 n,?_⟩
 rcases Nat.eq_zero_or_pos n with rfl | hp
 · exact .inl rfl
 · right
   obtain ⟨m,rfl⟩ : ∃ m,n = m + 1:=⟨n - 1,by omega⟩
   have h3 : 9 * m < ds.length:=by
     rcases h2 with h2 | h2
     · omega
     · simpa using h2
   rw [gx]; simp only [List.getLast?_append,List.getLast?_singleton,Option.some_or,ne_eq,Option.some.injEq]; have e : chunk ds m = dval (ds.drop (9 * m)):=by rw [chunk,List.take_of_length_le (by rw [List.length_drop]; omega)]
   rw [e]
   have:=dval_pos (ds:=ds.drop (9 * m)) (by intro e; have:=congrArg List.length e; rw [List.length_drop] at this; simp at this; omega) (by
     rw [List.getLast?_drop,if_neg (by omega)]; rcases hd.2 with h | h
     · subst h; simp at h3
     · exact h)
   omega
end Go.Proofs.YtnbhihhjgpddcaaGreatDoor
namespace Go.Proofs.YtnbhihhjgpddcaaGreatDoor
open Go.RowKit
theorem il {w : World} {A : Option Addr} {c : Nat} {ds : List Nat} (hr : Row w A (u8s ds)) (hlen : ds.length ≤ 1000000) (hc : ds.length ≤ c) :
   Calls Tryz.prog 143 #[.slice A ds.length c] w fun e w'=>(e = .returned (.slice A (strip ds).length c) ∧ Row w A (u8s (strip ds))) ∧ w = w':=by
 go_enter Tryz.func143,Tryz.ntmps143
 go_wp2
 go_loop [0] (fun v=>∃ k : Nat,k ≤ ds.length ∧ v = .slice A k c ∧ Hid (∀ j,k ≤ j → ds.getD j 0 = 0)) (fun v=>match v with | .slice _ n _=>n | _=>0)
 case atStart=>exact ⟨ds.length,Nat.le_refl _,rfl,fun j hj=>by rw [List.getD_eq_getElem?_getD,List.getElem?_eq_none hj]; rfl⟩
 case round =>
   obtain ⟨k,hk,rfl,HZ⟩:=hrel; rcases Nat.eq_zero_or_pos k with rfl | hpos
   · go_wp2
     go_ret
     have e : strip ds = []:=by rw [de ds 0 HZ.out (Nat.zero_le _) (.inl rfl)]; rfl
     exact ⟨⟨by rw [e]; rfl,by rw [e]; exact Row.nil _ _⟩,rfl⟩
   · obtain ⟨p,rfl⟩ : ∃ p,k = p + 1:=⟨k - 1,by omega⟩
     obtain ⟨ad,x,rfl,hcx,hx,_⟩:=hr.byte (k:=p) (by omega); have hpc : p ≤ c:=by omega
     by_cases hd : x = 0
     · subst hd
       go_wp2
       go_round
       case rel=>exact ⟨p,by omega,by first | rfl | simp,fun j hj=>by
         rcases Nat.lt_or_ge j (p + 1) with h | h
         · have : j = p:=by omega
           rw [this]; exact hx.out
         · exact HZ.out j h⟩
       case measure=>first | (simp; done) | (simp; omega)
     · have ht : ((x : Int) == 0) = false:=by rw [beq_eq_false_iff_ne]; omega
       have HD:=Lib.hid hd; clear hd
       go_wp2
       go_ret
       have e : strip ds = ds.take (p + 1):=de ds (p + 1) HZ.out hk (.inr (by rw [Nat.add_sub_cancel,hx.out]; exact HD.out)); rw [e,← u8s_take]; refine ⟨⟨?_,hr.take _⟩,rfl⟩; rw [List.length_take,Nat.min_eq_left hk]; rfl
theorem piece_step {ds : List Nat} {p e : Nat} (hp : p < e) (he : e ≤ ds.length) : dval ((ds.drop p).take (e - p)) = 10 * dval ((ds.drop (p + 1)).take (e - (p + 1))) + ds.getD p 0:=by
 rw [List.drop_eq_getElem_cons (show p < ds.length by omega),show e - p = (e - (p + 1)) + 1 from by omega,List.take_succ_cons,dval,List.getD_eq_getElem?_getD,List.getElem?_eq_getElem (show p < ds.length by omega)]
 simp only [Option.getD_some]
 omega
theorem kl {ds : List Nat} (h : small 10 ds) {p e : Nat} (he : e - p ≤ 9) : dval ((ds.drop p).take (e - p)) < 1000000000:=by
 have h1:=dval_lt (small_take (small_drop h p) (e - p))
 have h2 : 10 ^ ((ds.drop p).take (e - p)).length ≤ 10 ^ 9:=Nat.pow_le_pow_right (by omega) (by rw [List.length_take]; omega)
 have h3 : (10 : Nat) ^ 9 = 1000000000:=by decide
 omega
theorem write_any {w : World} {A : Option Addr} {c : Nat} {ds : List Nat} (hr : Row w A (u8s ds)) (hd : small 10 ds) (hlen : ds.length ≤ 1000000) :
   Calls Tryz.prog 125 #[.slice A ds.length c] w fun e w'=>∃ v n,e = .returned v ∧ Own w' w.heap.size 81 v (u32s (chunks ds n)) ∧ Below w.heap.size w w' ∧ ds.length ≤ 9 * n ∧ (n = 0 ∨ 9 * (n - 1) < ds.length):=by
 obtain ⟨i0,hi,hz0,hz1,hz2⟩:=info_parts ep
 obtain ⟨B,hB⟩ : ∃ B,B = w.heap.size:=⟨_,rfl⟩
 have HB:=Lib.hid hB
 rw [← hB]
 clear hB
 obtain ⟨len,hl⟩ : ∃ len,len = ds.length:=⟨_,rfl⟩
 have HL:=Lib.hid hl
 have hlen' : len ≤ 1000000:=by omega
 rw [← hl]
 clear hl hlen
 go_enter Tryz.func125,Tryz.ntmps125
 go_wp2
 go_loopw [3,4] (fun v i wr=>∃ j : Nat,(j = 0 ∨ 9 * (j - 1) < len) ∧ i = .int .i64 ((9 * j : Nat) : Int) ∧ Own wr B 81 v (u32s (chunks ds j)) ∧ Below w.heap.size w wr) (fun _ i _=>len + 9 - (intOf i).toNat)
 case atStart=>exact ⟨0,.inl rfl,rfl,Own.nil _ _ _,Below.refl _ _⟩
 case round =>
   obtain ⟨j,hj,rfl,hown,hb⟩:=hrel
   obtain ⟨s,hs⟩ : ∃ s,s = 9 * j:=⟨_,rfl⟩
   rw [← hs]; have hs1 : s ≤ len + 8:=by omega
   have HS:=Lib.hid hs
   by_cases hlt : s < len
   · obtain ⟨e,he⟩ : ∃ e,e = min (s + 9) len:=⟨_,rfl⟩
     have he1 : s < e:=by omega
     have he2 : e ≤ len:=by omega
     have he3 : e ≤ s + 9:=by omega
     have hmin : min ((s : Int) + 9) (len : Int) = (e : Int):=by omega
     have HE:=Lib.hid he; clear hs he
     go_wp2_with fail
     obtain ⟨wo,hwo⟩ : ∃ wo : World,wo = wr:=⟨_,rfl⟩
     go_loop [5,6] (fun nv kv=>∃ m : Nat,s ≤ m ∧ m ≤ e ∧ kv = .int .i64 ((m : Int) - 1) ∧ nv = .int .u32 ((dval ((ds.drop m).take (e - m)) : Nat) : Int)) (fun _ kv=>(intOf kv + 1).toNat)
     case atStart=>exact ⟨e,by omega,Nat.le_refl _,rfl,by rw [Nat.sub_self]; rfl⟩
     case round =>
       obtain ⟨m,hm1,hm2,rfl,rfl⟩:=hrel
       obtain ⟨nn,hnn⟩ : ∃ nn,nn = dval ((ds.drop m).take (e - m)):=⟨_,rfl⟩
       rw [← hnn]; have hnl : nn < 1000000000:=by rw [hnn]; exact kl hd (by omega)
       have HNN:=Lib.hid hnn; clear hnn
       by_cases hms : m = s
       · subst hms; have hsz:=hb.size
         go_wp2_with (at_builtin; refine wpList_append_own _ rfl _ _ 22 rfl B 81 i0 (.int .u32 0) 1 4 Tryz.underlying22 hi hz0 hz1 hz2 rfl (by decide) _ _ _ rfl (hown.alloc _) ⟨wr.heap.size,0,none⟩ 1 1 [.int .u32 (nn : Int)] rfl rfl (one_news rfl) cx (by rw [an,dy]; unfold maxLen; omega) (by rw [an,dy]; omega) (by rw [HB.out]; simp; omega) ?_)
         intro v' w2 hown' hgrow' _; have ho2:=dp hown'; have hb2:=dn hb hown HB hgrow'; clear hown' hgrow' hown hb hwo
         go_wp2
         go_roundw
         case rel=>exact ⟨j + 1,.inr (by have:=HS.out; omega),int_eq (by have:=HS.out; omega),by
           rw [gx]
           have e1 : chunk ds j = nn:=by
             rw [HNN.out,chunk,← HS.out]; rcases Nat.lt_or_ge (m + 9) len with h | h
             · rw [show e - m = 9 from by have:=HE.out; omega]
             · rw [List.take_of_length_le (by rw [List.length_drop,← HL.out]; omega),List.take_of_length_le (by rw [List.length_drop,← HL.out]; have:=HE.out; omega)]
           rw [e1]; exact ho2,hb2⟩
         case measure=>first | (simp [intOf]; done) | (simp [intOf]; omega)
       · obtain ⟨p,rfl⟩ : ∃ p,m = p + 1:=⟨m - 1,by omega⟩
         rw [show ((p + 1 : Nat) : Int) - 1 = (p : Int) from by omega]; obtain ⟨ad,x,rfl,hcx,hx,hxm⟩:=(hr.below hb).byte (k:=p) (by rw [← HL.out]; omega); have hx10:=hd x hxm; have hsp : s ≤ p:=by omega
         have hpc : (p : Int) < len:=by omega
         have hst:=piece_step (ds:=ds) (p:=p) (e:=e) (by omega) (by rw [← HL.out]; omega); have hpl:=kl hd (p:=p) (e:=e) (by omega); rw [hst,hx.out,← HNN.out] at hpl; rw [hx.out,← HNN.out] at hst; have HST:=Lib.hid hst; clear hst hms hxm
         go_wp2
         go_round
         case rel=>exact ⟨p,by omega,by omega,by go_num,int_eq (by rw [HST.out]; omega)⟩
         case measure=>first | (simp [intOf]; done) | (simp [intOf]; omega)
   · go_wp2
     go_ret
     refine ⟨_,j,rfl,hown,HB.out ▸ hb,?_,hj⟩; have:=HS.out; omega
def bt (s : ByteArray) : List Nat:=s.data.toList.map (·.toNat)
theorem bu (s : ByteArray) : (bt s).length = s.size:=by rw [bt,List.length_map,Array.length_toList]; rfl
theorem ret_bool {a b : Bool} (h : a = b) : Ending.returned (.bool a) = .returned (.bool b):=by rw [h]
theorem gy (s : ByteArray) (k : Nat) (h : k < s.size) : s[k].toNat = (bt s).getD k 0:=by
 have h2 : k < s.data.toList.length:=by simpa using h
 rw [bt,List.getD_eq_getElem?_getD,List.getElem?_map,List.getElem?_eq_getElem h2]
 rfl
theorem bt_list (s : ByteArray) (l : List UInt8) (h : s.toList = l) : bt s = l.map (·.toNat):=by rw [bt,← ByteArray.toList_eq,h]
theorem bt_list' (s : ByteArray) (c : UInt8) (h : bt s = [c.toNat]) : s.toList = [c]:=by
 rw [bt,← ByteArray.toList_eq] at h
 obtain ⟨d,h1,h2⟩:=List.map_eq_singleton_iff.1 h
 rw [h1,UInt8.toNat_inj.1 h2]
theorem bt_nil (s : ByteArray) : s.toList = [] ↔ bt s = []:=by rw [bt,← ByteArray.toList_eq]; simp
def digs (bs : List Nat) : Prop:=∀ k,k < bs.length → 48 ≤ bs.getD k 0 ∧ bs.getD k 0 ≤ 57
theorem isDecimal_bad {s : ByteArray} (w : World) (hs : s.size ≤ 100000) (hbad : ¬ digs (bt s)) :
   Calls Tryz.prog 137 #[.string s] w fun e w'=>e = .returned (.bool false) ∧ w = w':=by
 have HB:=Lib.hid hbad
 clear hbad
 go_enter Tryz.func137,Tryz.ntmps137
 go_wp2
 go_loop [6] (fun i=>∃ k : Nat,k ≤ s.size ∧ i = .int .i64 k ∧ Hid (∀ j,j < k → 48 ≤ (bt s).getD j 0 ∧ (bt s).getD j 0 ≤ 57)) (fun i=>s.size - (intOf i).toNat)
 case atStart=>exact ⟨0,Nat.zero_le _,rfl,fun j hj=>absurd hj (by omega)⟩
 case round =>
   obtain ⟨k,hk,rfl,HD⟩:=hrel
   by_cases hlt : k < s.size
   · have hx:=gy s k hlt
     obtain ⟨x,hxe⟩ : ∃ x,x = (bt s).getD k 0:=⟨_,rfl⟩
     rw [← hxe] at hx; have HX:=Lib.hid hxe; clear hxe
     by_cases h1 : 48 ≤ x ∧ x ≤ 57
     · obtain ⟨h2,h3⟩:=h1
       go_wp2
       go_round
       case rel=>exact ⟨k + 1,by omega,by go_num,fun j hj=>by
         rcases Nat.lt_or_ge j k with h | h
         · exact HD.out j h
         · have : j = k:=by omega
           rw [this,← HX.out]; exact ⟨h2,h3⟩⟩
       case measure=>first | (simp [intOf]; done) | (simp [intOf]; omega)
     · rcases Nat.lt_or_ge x 48 with h2 | h2
       · go_wp2
         go_ret
         exact ⟨rfl,rfl⟩
       · have h3 : 57 < x:=by omega
         clear h1
         go_wp2
         go_ret
         exact ⟨rfl,rfl⟩
   · exact absurd (fun j hj=>HD.out j (by rw [bu] at hj; omega)) HB.out
theorem isDecimal_good {s : ByteArray} (w : World) (hs : s.size ≤ 100000) (hg : digs (bt s)) (b : Bool) (hb : (b = true ∧ (bt s = [48] ∨ bt s ≠ [] ∧ (bt s).getD 0 0 ≠ 48)) ∨ (b = false ∧ (bt s = [] ∨ 1 < s.size ∧ (bt s).getD 0 0 = 48))) :
   Calls Tryz.prog 137 #[.string s] w fun e w'=>e = .returned (.bool b) ∧ w = w':=by
 have HG:=Lib.hid hg
 clear hg
 go_enter Tryz.func137,Tryz.ntmps137
 go_wp2
 go_loop [6] (fun i=>∃ k : Nat,k ≤ s.size ∧ i = .int .i64 k) (fun i=>s.size - (intOf i).toNat)
 case atStart=>exact ⟨0,Nat.zero_le _,rfl⟩
 case round =>
   obtain ⟨k,hk,rfl⟩:=hrel
   by_cases hlt : k < s.size
   · have hx:=gy s k hlt; have hxd:=HG.out k (by rw [bu]; exact hlt)
     obtain ⟨x,hxe⟩ : ∃ x,x = (bt s).getD k 0:=⟨_,rfl⟩
     rw [← hxe] at hx hxd; obtain ⟨h2,h3⟩:=hxd; clear hxe; have HBB:=Lib.hid hb; clear hb
     go_wp2
     go_round
     case rel=>exact ⟨k + 1,by omega,by go_num⟩
     case measure=>first | (simp [intOf]; done) | (simp [intOf]; omega)
   · have HBB:=Lib.hid hb; clear hb
     by_cases hz : 0 < s.size
     · have h0:=gy s 0 hz; have hne : ¬ bt s = []:=fun e=>by have:=bu s; rw [e] at this; simp at this; omega
       have HZ:=Lib.hid h0; have HNE:=Lib.hid hne; clear h0 hne
       go_wp2
       all_goals go_ret
       all_goals refine ⟨ret_bool ?_,rfl⟩
       · have e1:=bt_list s _ (by assumption : s.toList = [48]); rcases HBB.out with ⟨e2,_⟩ | ⟨_,e2 | e2⟩
         · exact e2.symm
         · exact absurd e2 HNE.out
         · have:=bu s; rw [e1] at this; simp at this; omega
       · exact absurd ((bt_nil s).1 (by assumption)) HNE.out
       · have e1 : ¬ s.toList = [48]:=by assumption
         have e2 : ¬ s.toList = []:=by assumption
         have e3 : (s.toList == [48]) = false:=by simpa using e1
         have e4 : s.toList.isEmpty = false:=by simpa using e2
         rw [e3,e4]; simp only [Bool.not_false,Bool.true_and,Bool.false_or]; have hz0:=HZ.out; rcases HBB.out with ⟨e5,e6 | e6⟩ | ⟨e5,e6 | e6⟩
         · exact absurd (bt_list' s 48 e6) e1
         · rw [e5,bne_iff_ne]; omega
         · exact absurd e6 HNE.out
         · rw [e5]; simp; omega
     · have hne : bt s = []:=List.eq_nil_of_length_eq_zero (by rw [bu]; omega); have hl : s.toList = []:=(bt_nil s).2 hne; have HNE:=Lib.hid hne; have hl1 : (s.toList == [48]) = false:=by rw [hl]; rfl
       have hl2 : s.toList.isEmpty = true:=by rw [hl]; rfl
       clear hne
       go_wp2
       all_goals go_ret
       all_goals refine ⟨ret_bool ?_,rfl⟩
       all_goals
         rcases HBB.out with ⟨e5,e6 | e6⟩ | ⟨e5,_⟩
         · rw [HNE.out] at e6; cases e6
         · exact absurd HNE.out e6.1
         · rw [e5]
def dg (s : ByteArray) : List Nat:=((bt s).map (· - 48)).reverse
theorem dg_length (s : ByteArray) : (dg s).length = s.size:=by simp [dg,bu]
theorem dg_at (s : ByteArray) (k : Nat) (h : k < s.size) : (dg s).getD k 0 = (bt s).getD (s.size - 1 - k) 0 - 48:=by
 have h1 : k < ((bt s).map (· - 48)).reverse.length:=by simp [bu]; exact h
 rw [dg,List.getD_eq_getElem?_getD,List.getElem?_eq_getElem h1,List.getD_eq_getElem?_getD,List.getElem?_eq_getElem (by rw [bu]; omega)]
 simp [List.getElem_reverse,bu]
theorem dg_small {s : ByteArray} (h : digs (bt s)) : small 10 (dg s):=by
 intro d hd
 rw [dg,List.mem_reverse] at hd
 obtain ⟨x,hx,rfl⟩:=List.mem_map.1 hd
 obtain ⟨k,hk,rfl⟩:=List.getElem_of_mem hx
 have:=h k hk
 rw [List.getD_eq_getElem?_getD,List.getElem?_eq_getElem hk] at this
 simp only [Option.getD_some] at this
 omega
theorem bt_extract (s : ByteArray) (a b : Nat) : bt (s.extract a b) = ((bt s).drop a).take (b - a):=by
 simp [bt,List.map_take,List.map_drop,List.take_drop,Array.toList_extract]
theorem row_bytes (w : World) (s : ByteArray) (cap : Nat) : Row (w.drew.alloc (.cells (bytesRow s cap) 5 ((bytesRow s cap).size,(bytesRow s cap).size + 1))) (some ⟨w.heap.size,0,none⟩) (u8s (bt s)):=by
 intro j v hv
 refine ⟨_,rfl,?_⟩
 have hj : j < s.data.size:=by
   rcases Nat.lt_or_ge j s.data.size with h | h
   · exact h
   · rw [List.getElem?_eq_none (by rw [av,bu]; exact h)] at hv; cases hv
 have h1 : (w.drew.alloc (.cells (bytesRow s cap) 5 ((bytesRow s cap).size,(bytesRow s cap).size + 1))).cell? ⟨w.heap.size,j,none⟩ = (bytesRow s cap)[j]?:=by
   have : (w.drew.alloc (.cells (bytesRow s cap) 5 ((bytesRow s cap).size,(bytesRow s cap).size + 1))).heap[w.heap.size]? = some (.cells (bytesRow s cap) 5 ((bytesRow s cap).size,(bytesRow s cap).size + 1)):=heap_alloc_new w.drew _; unfold World.cell?; rw [this]; rfl
 rw [Lib.add_plain,Nat.zero_add,h1,bytesRow_at s cap j hj,← hv]
 have h2 : j < (u8s (bt s)).length:=by rw [av,bu]; exact hj
 rw [List.getElem?_eq_getElem h2]
 simp [u8s,bt]
theorem read_any {s : ByteArray} (w : World) (hs : s.size ≤ 100000) (hg : digs (bt s)) :
   Calls Tryz.prog 138 #[.string s] w (RetNat w (dval (dg s))):=by
 obtain ⟨i0,hi,hz0,hz1,hz2⟩:=info_parts ep
 obtain ⟨B,hB⟩ : ∃ B,B = w.heap.size:=⟨_,rfl⟩
 have HB:=Lib.hid hB
 clear hB
 have hd:=dg_small hg
 have hdl:=dg_length s
 have HDL:=Lib.hid hdl
 have HG:=Lib.hid hg
 clear hg hdl
 go_enter Tryz.func138,Tryz.ntmps138
 go_wp2
 go_loopw [3,4] (fun v i wr=>∃ j : Nat,(j = 0 ∨ 9 * (j - 1) < s.size) ∧ i = .int .i64 ((s.size : Int) - 9 * j) ∧ Own wr B 81 v (u32s (chunks (dg s) j)) ∧ Below w.heap.size w wr) (fun _ i _=>(intOf i + 9).toNat)
 case atStart=>exact ⟨0,.inl rfl,int_eq (by omega),Own.nil _ _ _,Below.refl _ _⟩
 case round =>
   obtain ⟨j,hj,rfl,hown,hb⟩:=hrel
   by_cases hlt : 9 * j < s.size
   · obtain ⟨e,he⟩ : ∃ e : Nat,e = s.size - 9 * j:=⟨_,rfl⟩
     have hei : (s.size : Int) - 9 * (j : Int) = (e : Int):=by omega
     rw [hei]
     obtain ⟨lo,hlo⟩ : ∃ lo : Nat,lo = e - 9:=⟨_,rfl⟩
     have hmax : max (0 : Int) ((e : Int) - 9) = (lo : Int):=by omega
     have he1 : 0 < e:=by omega
     have he2 : e ≤ s.size:=by omega
     have hlo1 : lo < e:=by omega
     have hlo2 : e ≤ lo + 9:=by omega
     have hI1 : (e : Int) ≤ (s.size : Int):=by omega
     have hI2 : (lo : Int) ≤ (e : Int):=by omega
     have hI0 : (0 : Int) ≤ (lo : Int):=by omega
     obtain ⟨m,hm⟩ : ∃ m : Nat,m = e - lo:=⟨_,rfl⟩
     have hm9 : m ≤ 9:=by omega
     have hme1 : lo + m ≤ e:=by omega
     have hme2 : e ≤ lo + m:=by omega
     obtain ⟨pc,hpc⟩ : ∃ pc,s.extract lo e = pc:=⟨_,rfl⟩
     have hpm : pc.size = m:=by rw [← hpc,ByteArray.size_extract]; omega
     have hrowc:=row_bytes wr pc (grownCap wr pc.size 0 5); have hbt : bt pc = ((bt s).drop lo).take m:=by rw [← hpc,bt_extract,hm]
     rw [hbt] at hrowc; have hcv:=fun (W : World)=>run_bytes_of_string (P:=Tryz.prog) W 9 117 5 pc Tryz.underlying9 Tryz.underlying117 Tryz.underlying5; rw [hpm] at hrowc; rw [hpm] at hcv; have HE:=Lib.hid he; have HLO:=Lib.hid hlo; have HM:=Lib.hid hm; have HRC:=Lib.hid hrowc; clear he hlo hei hm hbt hpm hrowc
     go_wp2_with fail
     obtain ⟨cap,hcap⟩ : ∃ cap,cap = grownCap wr m 0 5:=⟨_,rfl⟩
     rw [← hcap] at HRC ⊢
     obtain ⟨W2,hW2⟩ : ∃ W2,W2 = (wr.alloc (Obj.cells (bytesRow pc cap) 5 ((bytesRow pc cap).size,(bytesRow pc cap).size + 1))).drew:=⟨_,rfl⟩
     have hR2 : Row W2 (some ⟨wr.heap.size,0,none⟩) (u8s (((bt s).drop lo).take m)):=by rw [hW2]; exact HRC.out
     have hb2 : Below w.heap.size w W2:=by rw [hW2]; exact (hb.alloc hb.size _).drew
     have hown2 : Own W2 B 81 u3 (u32s (chunks (dg s) j)):=by rw [hW2]; exact hown.below (((Below.refl _ _).alloc (Nat.le_refl _) _).drew)
     rw [← hW2]; have hml : (((bt s).drop lo).take m).length = m:=by rw [List.length_take,List.length_drop,bu]; have:=HM.out; omega
     have HML:=Lib.hid hml; clear hcap hW2 hb hown HRC hcv hpc hml
     go_loop [5,22] (fun nv kv=>∃ k : Nat,k ≤ m ∧ kv = .int .i64 (k : Int) ∧ nv = .int .u32 ((dval (((dg s).drop (s.size - lo - k)).take k) : Nat) : Int)) (fun _ kv=>m - (intOf kv).toNat)
     case atStart=>exact ⟨0,Nat.zero_le _,rfl,by rw [List.take_zero]; rfl⟩
     case round =>
       obtain ⟨k,hk,rfl,rfl⟩:=hrel
       obtain ⟨nn,hnn⟩ : ∃ nn,nn = dval (((dg s).drop (s.size - lo - k)).take k):=⟨_,rfl⟩
       rw [← hnn]
       have hnl : nn < 1000000000:=by
         have:=kl hd (p:=s.size - lo - k) (e:=s.size - lo) (by omega); rw [show s.size - lo - (s.size - lo - k) = k from by omega] at this; rw [hnn]; exact this
       have HNN:=Lib.hid hnn; clear hnn
       by_cases hkm : k < m
       · obtain ⟨ad,x,hA,hcx,hx,hxm⟩:=hR2.byte (k:=k) (by rw [HML.out]; exact hkm); obtain rfl : ad = ⟨wr.heap.size,0,none⟩:=by injection hA with hA; exact hA.symm
         have hxe : (bt s).getD (lo + k) 0 = x:=by
           rw [← hx.out,List.getD_eq_getElem?_getD,List.getD_eq_getElem?_getD,List.getElem?_take_of_lt hkm,List.getElem?_drop]
         have hxd:=HG.out (lo + k) (by rw [bu]; omega); rw [hxe] at hxd; obtain ⟨hx1,hx2⟩:=hxd; have hkc : (k : Int) < m:=by omega
         have hst:=piece_step (ds:=dg s) (p:=s.size - lo - (k + 1)) (e:=s.size - lo) (by omega) (by rw [HDL.out]; omega); rw [show s.size - lo - (s.size - lo - (k + 1)) = k + 1 from by omega,show s.size - lo - (k + 1) + 1 = s.size - lo - k from by omega,show s.size - lo - (s.size - lo - k) = k from by omega,← HNN.out,dg_at s _ (by omega),show s.size - 1 - (s.size - lo - (k + 1)) = lo + k from by omega,hxe] at hst; have hpl:=kl hd (p:=s.size - lo - (k + 1)) (e:=s.size - lo) (by omega); rw [show s.size - lo - (s.size - lo - (k + 1)) = k + 1 from by omega,hst] at hpl; have HST:=Lib.hid hst; have hcx' : W2.cell? ⟨wr.heap.size,k,none⟩ = some (.int .u8 (x : Int)):=by rw [Lib.add_plain,Nat.zero_add] at hcx; exact hcx
         clear hst hxm hxe hcx hA
         go_wp2
         go_round
         case rel=>exact ⟨k + 1,by omega,by go_num,int_eq (by rw [HST.out]; omega)⟩
         case measure=>first | (simp [intOf]; done) | (simp [intOf]; omega)
       · have hkm' : k = m:=by omega
         have HKM:=Lib.hid hkm'; clear hkm'; have hsz:=hb2.size
         go_wp2_with (at_builtin; refine wpList_append_own _ rfl _ _ 128 rfl B 81 i0 (.int .u32 0) 1 4 Tryz.underlying128 hi hz0 hz1 hz2 rfl (by decide) _ _ _ rfl (hown2.alloc _) ⟨W2.heap.size,0,none⟩ 1 1 [.int .u32 (nn : Int)] rfl rfl (one_news rfl) cx (by rw [an,dy]; unfold maxLen; omega) (by rw [an,dy]; omega) (by rw [HB.out]; simp; omega) ?_)
         intro v' w2 hown' hgrow' _; have ho3:=dp hown'; have hb3:=dn hb2 hown2 HB hgrow'; clear hown' hgrow' hown2 hb2 hR2
         go_wp2
         go_roundw
         case rel=>exact ⟨j + 1,.inr (by omega),int_eq (by have:=HE.out; omega),by
           rw [gx]
           have e1 : chunk (dg s) j = nn:=by
             have he:=HE.out; have hlo:=HLO.out; have hmm:=HM.out; rw [HNN.out,HKM.out,chunk,show s.size - lo - m = 9 * j from by omega]; rcases Nat.lt_or_ge 9 e with h | h
             · rw [show m = 9 from by omega]
             · rw [List.take_of_length_le (by rw [List.length_drop,HDL.out]; omega),List.take_of_length_le (by rw [List.length_drop,HDL.out]; omega)]
           rw [e1]; exact ho3,hb3⟩
         case measure=>first | (simp [intOf]; done) | (simp [intOf]; omega)
   · obtain ⟨A3,c3,rfl,_⟩:=hown.slice32; have hcl : (chunks (dg s) j).length ≤ 1000000:=by rw [dy]; omega
     go_wp2_with fail
     refine (stripped_any hown hcl).mono ?_; rintro e w3 ⟨⟨v,rfl,hv⟩,rfl⟩
     go_wp2
     go_ret
     exact ⟨v,rfl,⟨_,df (chunks_small hd j),by rw [ek,kd (by rw [HDL.out]; omega)],HB.out ▸ hv⟩,hb⟩
def isDec (bs : List Nat) : Prop:=digs bs ∧ (bs = [48] ∨ bs ≠ [] ∧ bs.getD 0 0 ≠ 48)
theorem of_no {s : ByteArray} (w : World) (hs : s.size ≤ 100000) (hn : ¬ isDec (bt s)) :
   Calls Tryz.prog 114 #[.string s] w fun e w'=>e = .returned (.tuple #[.slice none 0 0,.bool false]) ∧ w = w':=by
 have hdec : Calls Tryz.prog 137 #[.string s] w fun e w'=>e = .returned (.bool false) ∧ w = w':=by
   by_cases hg : digs (bt s)
   · refine isDecimal_good w hs hg false (.inr ⟨rfl,?_⟩)
     by_cases h1 : bt s = []
     · exact .inl h1
     · right
       have h2 : (bt s).getD 0 0 = 48:=by
         by_cases h3 : (bt s).getD 0 0 = 48
         · exact h3
         · exact absurd ⟨hg,.inr ⟨h1,h3⟩⟩ hn
       refine ⟨?_,h2⟩; rw [← bu]; rcases Nat.lt_or_ge 1 (bt s).length with h | h
       · exact h
       · exfalso
         match hb : bt s,h1,h,h2 with
         | [d],_,_,h2=>simp at h2; subst h2; exact hn ⟨hg,.inl hb⟩
   · exact isDecimal_bad w hs hg
 have HD:=Lib.hid hdec
 clear hdec hn
 go_enter Tryz.func114,Tryz.ntmps114
 go_wp2_with (go_at_call 137; refine HD.out.mono ?_; rintro e w' ⟨rfl,rfl⟩)
 go_returns
 exact ⟨rfl,rfl⟩
theorem of_yes {s : ByteArray} (w : World) (hs : s.size ≤ 100000) (hn : isDec (bt s)) :
   Calls Tryz.prog 114 #[.string s] w fun e w'=>∃ v,e = .returned (.tuple #[v,.bool true]) ∧ IsNat w' w.heap.size v (dval (dg s)) ∧ Below w.heap.size w w':=by
 have hdec:=isDecimal_good w hs hn.1 true (.inl ⟨rfl,hn.2⟩)
 have hread:=read_any w hs hn.1
 have HD:=Lib.hid hdec
 have HR:=Lib.hid hread
 clear hdec hn hread
 go_enter Tryz.func114,Tryz.ntmps114
 go_wp2_with (first
   | (go_at_call 137; refine HD.out.mono ?_; rintro e w' ⟨rfl,rfl⟩)
   | (go_at_call 138; refine HR.out.mono ?_; rintro e w2 ⟨v,rfl,hv,hb⟩))
 go_returns
 exact ⟨_,rfl,hv,hb⟩
end Go.Proofs.YtnbhihhjgpddcaaGreatDoor
namespace Go.Proofs.YtnbhihhjgpddcaaGreatDoor
open Go.RowKit Go.Lib
theorem gl {r : Nat} (h : r < 10) : (UInt8.ofNat (48 + r)).toNat = 48 + r:=by
 rw [UInt8.toNat_ofNat']; omega
theorem gz (n : Nat) : 0 < (decDigits n).length:=by
 by_cases h : n < 10
 · rw [bn h]; simp
 · rw [dh h]; simp
def dgl (l : List UInt8) : List Nat:=((l.map (·.toNat)).map (· - 48)).reverse
theorem dgl_snoc (l : List UInt8) (b : UInt8) : dgl (l ++ [b]) = (b.toNat - 48) :: dgl l:=by simp [dgl]
theorem kn : ∀ n : Nat,dval (dgl (decDigits n)) = n:=by
 intro n
 induction n using Nat.strongRecOn with
 | _ n ih =>
   by_cases h : n < 10
   · rw [bn h]; have:=dgl_snoc [] (UInt8.ofNat (48 + n)); rw [List.nil_append] at this; rw [this,gl h]; simp [dval,dgl]
   · rw [dh h,dgl_snoc,dval,ih (n / 10) (by omega),gl (Nat.mod_lt _ (by decide))]; have:=Nat.mod_add_div n 10; omega
theorem decDigits_inj {n m : Nat} (h : decDigits n = decDigits m) : n = m:=by
 rw [← kn n,h,kn m]
theorem decDigits_digs (n : Nat) : ∀ b ∈ decDigits n,48 ≤ b.toNat ∧ b.toNat ≤ 57:=by
 induction n using Nat.strongRecOn with
 | _ n ih =>
   intro b hb
   by_cases h : n < 10
   · rw [bn h] at hb; rw [List.mem_singleton.1 hb,gl h]; omega
   · rw [dh h] at hb; rcases List.mem_append.1 hb with h1 | h1
     · exact ih (n / 10) (by omega) b h1
     · rw [List.mem_singleton.1 h1,gl (Nat.mod_lt _ (by decide))]; have:=Nat.mod_lt n (show 0 < 10 by decide); omega
theorem decDigits_head (n : Nat) (hn : 0 < n) : ((decDigits n).map (·.toNat)).getD 0 0 ≠ 48:=by
 induction n using Nat.strongRecOn with
 | _ n ih =>
   by_cases h : n < 10
   · rw [bn h]; have:=gl h; simp only [List.map_cons,List.getD_cons_zero]; omega
   · have h1:=ih (n / 10) (by omega) (by omega); have h2:=gz (n / 10); rw [dh h,List.map_append]; rw [List.getD_eq_getElem?_getD,List.getElem?_append_left (by simpa using h2),← List.getD_eq_getElem?_getD]; exact h1
def dtext (n : Nat) : ByteArray:=⟨(decDigits n).toArray⟩
theorem ko (n : Nat) : bt (dtext n) = (decDigits n).map (·.toNat):=by simp [bt,dtext]
theorem ke (n : Nat) : (dtext n).size = (decDigits n).length:=by rw [← bu,ko,List.length_map]
theorem dtext_isDec (n : Nat) : isDec (bt (dtext n)):=by
 rw [ko]
 refine ⟨fun k hk=>?_,?_⟩
 · rw [List.length_map] at hk; have:=decDigits_digs n _ (List.getElem_mem hk); rw [List.getD_eq_getElem?_getD,List.getElem?_map,List.getElem?_eq_getElem hk]; exact this
 · rcases Nat.eq_zero_or_pos n with rfl | hn
   · left; rw [bn (by decide)]; decide
   · right; exact ⟨fun e=>by have:=gz n; rw [List.map_eq_nil_iff] at e; rw [e] at this; simp at this,decDigits_head n hn⟩
theorem dtext_val (n : Nat) : dval (dg (dtext n)) = n:=by
 rw [dg,ko]
 exact kn n
theorem ia (n : Nat) : (dtext n).toList = decDigits n:=by
 rw [ByteArray.toList_eq]; simp [dtext]
end Go.Proofs.YtnbhihhjgpddcaaGreatDoor

/- A frame that is known by its slots alone; one step an operation for regions in such frames: More steps over whole numbers: Steps over broken numbers: Contract of ratio.lowest: Contracts of package ratio's calls over right ratios: A step for a call of a function that came as a value (put in ratio.fold). A region that draws its order, in which some operations find a result's cell as it was ahead of the region: Steps in a region that stores into one old block, of operations that find it as it was: Right of any ratio that came in, of at most 8 digits a number: Contract of ratio.Parse: Contracts of the answers of stage 2 (whetstoneref02) over numbers of at most 1000 digits: Contracts of the answers of stages 2 and 3 over right numbers and ratios: Contract of whetstoneref01.Add: Contract of whetstoneref01.times: Contract of whetstoneref01.Mul: Contracts of the answers of stage 2 (whetstoneref02) over right numbers and lists of numbers: Contracts of the answers of stage 2 over right numbers: Loops by any counter, in frames that are known by their slots: A region that stores into one old block: Contracts of the answers of stage 2 over any list of right numbers: Ratios and numbers that came in, of at most 8 digits a number, whatever they are: The answers of stage 3: A ratio that came in, whatever it is, of at most 8 digits a number: -/
import Derived.Test.YtifgcjpgelbelaaGreatDoorPN2
import Derived.Lib.Hide
import Derived.Test.YtifgcjpgelbelaaGreatDoorPN3
import Derived.Lib.SmallJoins
import Derived.SizedLaws
import Derived.Test.YtifgcjpgelbelaaGreatDoorPN1
import Derived.Laws.IdiomStrings
set_option maxRecDepth 100000
set_option maxHeartbeats 16000000
set_option linter.unusedVariables false
set_option linter.unusedSimpArgs false
namespace Go.Proofs.YtifgcjpgelbelaaGreatDoor
open Go.RowKit
def slotAt : List (Nat × Option Tmp) → Tmp → Option Nat
 | [],_=>none
 | p :: r, t => match slotAt r t with
   | some i=>some i
   | none=>if p.2 = some t then some p.1 else none
theorem ef (a : Act) (d : Option Tmp) (v : Value) : (a.put d v).tmps.size = a.tmps.size:=by
 cases d <;> simp [Act.put]
theorem eh (a : Act) (d : Option Tmp) (v : Value) : (a.put d v).defers = a.defers:=by
 cases d <;> rfl
theorem aw (x : Nat → Value) : ∀ (es : List (Nat × Option Tmp)) (a : Act), (putE x a es).tmps.size = a.tmps.size
 | [],_=>rfl
 | p :: r,a=>by rw [putE,aw x r,ef]
theorem putE_defers (x : Nat → Value) : ∀ (es : List (Nat × Option Tmp)) (a : Act), (putE x a es).defers = a.defers
 | [],_=>rfl
 | p :: r,a=>by rw [putE,putE_defers x r,eh]
theorem put_eval_ne (a : Act) {d : Option Tmp} {t : Tmp} (v : Value) (h : d ≠ some t) : (a.put d v).eval (.tmp t) = a.eval (.tmp t):=by
 cases d with
 | none=>rfl
 | some d =>
   have hne : d ≠ t:=fun e=>h (by rw [e])
   show (a.tmps.setIfInBounds d v).getD t undef = a.tmps.getD t undef
   simp only [Array.getD_eq_getD_getElem?]; rw [Array.getElem?_setIfInBounds_ne hne]
theorem putE_old {x : Nat → Value} {t : Tmp} : ∀ (es : List (Nat × Option Tmp)) (a : Act), slotAt es t = none → (putE x a es).eval (.tmp t) = a.eval (.tmp t)
 | [],_,_=>rfl
 | p :: r,a,h=>by
   unfold slotAt at h; split at h
   · cases h
   · rename_i hr
     split at h
     · cases h
     · rename_i hp
       rw [putE,putE_old r _ hr,put_eval_ne _ _ hp]
theorem ap {x : Nat → Value} {t : Tmp} {i : Nat} : ∀ (es : List (Nat × Option Tmp)) (a : Act), t < a.tmps.size → slotAt es t = some i → (putE x a es).eval (.tmp t) = x i
 | [],_,_,h=>by cases h
 | p :: r,a,hs,h=>by
   unfold slotAt at h; split at h
   · rename_i hr
     injection h with h; subst h; rw [putE]; exact ap r _ (by rw [ef]; exact hs) hr
   · rename_i hr
     split at h
     · rename_i hp
       injection h with h; rw [putE,putE_old r _ hr,hp,← h]; exact cn _ _ _ hs
     · cases h
inductive Src where
 | dep (i : Nat)
 | old (t : Tmp)
 | val (v : Value)
def src (es : List (Nat × Option Tmp)) : Operand → Src
 | .tmp t => match slotAt es t with
   | some i=>.dep i
   | none=>.old t
 | .const v=>.val v
 | .global g=>.val (.pointer (some ⟨g,0,none⟩))
 | .func f=>.val (.func (.func f) #[] #[])
def Src.get (x : Nat → Value) (a : Act) : Src → Value
 | .dep i=>x i
 | .old t=>a.eval (.tmp t)
 | .val v=>v
def esIn (es : List (Nat × Option Tmp)) (N : Nat) : Bool:=es.all fun p=>match p.2 with | some t=>decide (t < N) | none=>true
theorem slotAt_lt {N : Nat} {t : Tmp} {i : Nat} : ∀ es : List (Nat × Option Tmp), esIn es N = true → slotAt es t = some i → t < N
 | [],_,h=>by cases h
 | p :: r,he,h=>by
   unfold esIn at he; rw [List.all_cons,Bool.and_eq_true] at he; unfold slotAt at h; split at h
   · rename_i hr
     exact slotAt_lt r he.2 hr
   · split at h
     · rename_i hp
       have:=he.1; rw [hp] at this; exact of_decide_eq_true this
     · cases h
theorem eval_src {x : Nat → Value} {a : Act} {es : List (Nat × Option Tmp)} {N : Nat} (hN : a.tmps.size = N) (he : esIn es N = true) (y : Operand) : (putE x a es).eval y = (src es y).get x a:=by
 cases y with
 | tmp t =>
   show _ = Src.get x a (match slotAt es t with | some i=>.dep i | none=>.old t)
   cases h : slotAt es t with
   | none=>exact putE_old es a h
   | some i=>exact ap es a (by rw [hN]; exact slotAt_lt es he h) h
 | const v=>rfl
 | global g=>rfl
 | func f=>rfl
theorem az {x : Nat → Value} {a b : Act} {es : List (Nat × Option Tmp)} {N t i : Nat} (hb : b = putE x a es)    (hN : a.tmps.size = N:=by assumption) (h : slotAt es t = some i:=by kernel_rfl) (ht : decide (t < N) = true:=by kernel_rfl) : b.eval (.tmp t) = x i:=by
 subst hb; exact ap es a (by rw [hN]; exact of_decide_eq_true ht) h
theorem ab {x : Nat → Value} {a b : Act} {es : List (Nat × Option Tmp)} {t : Nat} {v : Value} (hb : b = putE x a es)  (hv : a.eval (.tmp t) = v) (h : slotAt es t = none:=by kernel_rfl) : b.eval (.tmp t) = v:=by
 subst hb; exact (putE_old es a h).trans hv
theorem size_behind {x : Nat → Value} {a b : Act} {es : List (Nat × Option Tmp)} {N : Nat} (hb : b = putE x a es) (hN : a.tmps.size = N) : b.tmps.size = N:=by
 subst hb; rw [aw,hN]
theorem defers_behind {x : Nat → Value} {a b : Act} {es : List (Nat × Option Tmp)} (hb : b = putE x a es) (hN : a.defers = []) : b.defers = []:=by
 subst hb; rw [putE_defers,hN]
theorem bc {S0 : Nat} {ks : List PK} {x : Nat → Value} {w : World} {G : Prop} : ∀ es : List (Nat × Option Tmp), ((∀ p ∈ es, (at_ ks p.1).sem S0 x (x p.1) w) → G) → deps S0 ks x w es G
 | [],h=>h fun p hp=>by cases hp
 | p :: r,h=>fun hp=>bc r fun hr=>h fun q hq=>by
   rcases List.mem_cons.1 hq with e | hq
   · rw [e]; exact hp
   · exact hr q hq
theorem da {P : Program} {o : Oper} {a : Act} {w w' : World} {v : Value} {K : Value → World → Prop} {d N : Nat} (hd : o.dst = some d) (hN : a.tmps.size = N) (hs : decide (d < N) = true) (h : (execOp a.eval o).run P w = .ok (.value v) w') (hk : K v w') :
   o.wp P a w (fun a' w'=>a'.defers = a.defers ∧ K (retOf o.dst a') w') (fun _ _ _=>False):=by
 unfold Oper.wp
 rw [h]
 show (a.put o.dst v).defers = a.defers ∧ K (retOf o.dst (a.put o.dst v)) w'
 refine ⟨eh _ _ _,?_⟩
 rw [hd]
 show K ((a.put (some d) v).eval (.tmp d)) w'
 rw [cn a d v (by rw [hN]; exact of_decide_eq_true hs)]
 exact hk
theorem wp_skp {P : Program} {o : Oper} {a : Act} {w w' : World} {K : Value → World → Prop} (hd : o.dst = none) (h : (execOp a.eval o).run P w = .ok .skip w') (hk : K undef w') :
   o.wp P a w (fun a' w'=>a'.defers = a.defers ∧ K (retOf o.dst a') w') (fun _ _ _=>False):=by
 unfold Oper.wp
 rw [h]
 show (a.put o.dst undef).defers = a.defers ∧ K (retOf o.dst (a.put o.dst undef)) w'
 refine ⟨eh _ _ _,?_⟩
 rw [hd]
 exact hk
theorem wp_ent {P : Program} {o : Oper} {a : Act} {w : World} {K : Value → World → Prop} {d N F : Nat} {args : Array Value} (hd : o.dst = some d) (hN : a.tmps.size = N) (hs : decide (d < N) = true) (h : (execOp a.eval o).run P w = .ok (.enter F args) w)
   (hc : Calls P F args w fun e w'=>∃ v,e = .returned v ∧ K v w') :
   o.wp P a w (fun a' w'=>a'.defers = a.defers ∧ K (retOf o.dst a') w') (fun _ _ _=>False):=by
 unfold Oper.wp
 rw [h]
 refine Calls.mono hc fun e w' hh=>?_
 obtain ⟨v,rfl,hk⟩:=hh
 show (a.put o.dst v).defers = a.defers ∧ K (retOf o.dst (a.put o.dst v)) w'
 refine ⟨eh _ _ _,?_⟩
 rw [hd]
 show K ((a.put (some d) v).eval (.tmp d)) w'
 rw [cn a d v (by rw [hN]; exact of_decide_eq_true hs)]
 exact hk
def enters (P : Program) (F : FuncId) : Bool := match P.funcs[F]? with
 | some fn=>!(fn.name == "runtime.NumGoroutine") && fn.body.isSome
 | none=>false
theorem run_enters {P : Program} {F : FuncId} (h : enters P F = true) (args : Array Value) (w : World) : (callFunc F args).run P w = .ok (.enter F args) w:=by
 unfold enters at h
 cases hf : P.funcs[F]? with
 | none=>rw [hf] at h; cases h
 | some fn =>
   rw [hf] at h; simp only [Bool.and_eq_true,Bool.not_eq_true'] at h; have hn : fn.name ≠ "runtime.NumGoroutine":=by simpa using h.1
   have hb : fn.body ≠ none:=fun e=>by
     have:=h.2; rw [e] at this; cases this
   simp [callFunc,go_sem,hf,hn,hb]
section
variable {P : Program} {C : World → Prop} {S0 : Nat} {ks : List PK} {a0 : Act} {i : Nat} {es : List (Nat × Option Tmp)} {N : Nat}
theorem st_call {d F : Nat} {args : Array Operand} {ats : Array TypeId} {T : TypeId} {pos : String} {af : Array Edge} {g : Option (Nat × Bool)} (ss : List Src) (hN : a0.tmps.size = N) (he : esIn es N = true) (hd : decide (d < N) = true) (hF : enters P F = true) (hs : args.toList.map (src es) = ss)
   (h : ∀ w x,C w → (∀ p ∈ es,(at_ ks p.1).sem S0 x (x p.1) w) → Calls P F (ss.map (Src.get x a0)).toArray w fun e w'=>∃ v,e = .returned v ∧ (at_ ks i).move S0 x v w w' ∧ (at_ ks i).sem S0 x v w') :
   PkStep P C S0 ks a0 i { dst:=some d,op:=.call { callee:=.value (.func F),args:=args,argTypes:=ats },type:=T,pos:=pos,after:=af,guard:=g } es:=by
 intro w x hC
 refine bc es fun hdeps K hK=>?_
 have hargs : args.map (putE x a0 es).eval = (ss.map (Src.get x a0)).toArray:=by
   apply Array.ext'; rw [Array.toList_map,← hs,List.map_map]; refine List.map_congr_left fun y _=>?_; exact eval_src hN he y
 refine wp_ent (F:=F) (args:=(ss.map (Src.get x a0)).toArray) rfl (by rw [aw,hN]) hd ?_ ?_
 · rw [← hargs]; simp [go_sem,run_enters hF]
 · exact (h w x hC hdeps).mono fun e w' hh=>by
     obtain ⟨v,h1,h2,h3⟩:=hh; exact ⟨v,h1,hK v w' h2 h3⟩
def lookS : List (Nat × Option Tmp) → List Value → Tmp → Option Value
 | p :: r, v :: vs, t => match lookS r vs t with
   | some u=>some u
   | none=>if p.2 = some t then some v else none
 | _,_,_=>none
def look (es : List (Nat × Option Tmp)) (vs : List Value) (olds : List (Tmp × Value)) : Operand → Value
 | .tmp t => match lookS es vs t with
   | some v=>v
   | none => match olds.find? (fun p => p.1 == t) with
     | some p=>p.2
     | none=>undef
 | .const v=>v
 | .global g=>.pointer (some ⟨g,0,none⟩)
 | .func f=>.func (.func f) #[] #[]
def known (es : List (Nat × Option Tmp)) (olds : List (Tmp × Value)) : Operand → Bool
 | .tmp t=>(slotAt es t).isSome || (olds.any fun p=>p.1 == t)
 | _=>true
theorem lookS_eq {x : Nat → Value} {t : Tmp} : ∀ (es : List (Nat × Option Tmp)) (vs : List Value), es.length = vs.length → (∀ p ∈ es.zip vs, x p.1.1 = p.2) → lookS es vs t = (slotAt es t).map x
 | [],[],_,_=>rfl
 | [],_ :: _,h,_=>by simp at h
 | _ :: _,[],h,_=>by simp at h
 | p :: r,v :: vs,hl,h=>by
   have ih:=lookS_eq (t:=t) r vs (by simpa using hl) fun q hq=>h q (List.mem_cons_of_mem _ hq); unfold lookS slotAt; rw [ih]
   cases hh : slotAt r t with
   | some j=>rfl
   | none =>
     simp only [Option.map_none]; split
     · rw [Option.map_some,h (p,v) List.mem_cons_self]
     · rfl
theorem vals_of {x : Nat → Value} {w : World} : ∀ (es : List (Nat × Option Tmp)) (vs : List Value), es.map (fun p => at_ ks p.1) = vs.map kIs → (∀ p ∈ es, (at_ ks p.1).sem S0 x (x p.1) w) → ∀ p ∈ es.zip vs, x p.1.1 = p.2
 | [],_,_,_,p,hp=>by simp at hp
 | _ :: _,[],h,_,_,_=>by simp at h
 | q :: r,v :: vs,h,hd,p,hp=>by
   rw [List.map_cons,List.map_cons] at h; injection h with h1 h2; rcases List.mem_cons.1 (by simpa using hp : p ∈ (q,v) :: r.zip vs) with rfl | hp
   · have:=hd q List.mem_cons_self; rw [h1] at this; exact this
   · exact vals_of r vs h2 (fun p hp=>hd p (List.mem_cons_of_mem _ hp)) p hp
theorem di {o : Oper} {d : Nat} (vs : List Value) (olds : List (Tmp × Value)) (V : Value) (hd : o.dst = some d) (hN : a0.tmps.size = N)  
    (ho : ∀ p ∈ olds,a0.eval (.tmp p.1) = p.2)   
    (he : esIn es N = true:=by kernel_rfl) (hdN : decide (d < N) = true:=by kernel_rfl) (hc : es.map (fun p=>at_ ks p.1) = vs.map kIs:=by kernel_rfl) (hsel : (match o.op with | .select _ _=>false | _=>true) = true:=by kernel_rfl) (hk : o.op.operands.all (known es olds) = true:=by kernel_rfl) (hV : at_ ks i = kIs V:=by kernel_rfl) (hr : ∀ w,(execOp (look es vs olds) o).run P w = .ok (.value V) w:=by intro _; kernel_rfl) : PkStep P C S0 ks a0 i o es:=by
 intro w x hC
 refine bc es fun hdeps K hK=>?_
 have hl : es.length = vs.length:=by simpa using congrArg List.length hc
 have hx:=vals_of es vs hc hdeps
 have hev : execOp (putE x a0 es).eval o = execOp (look es vs olds) o:=by
   refine execOp_congr o (fun cs b e=>by rw [e] at hsel; cases hsel) fun y hy=>?_; rw [eval_src hN he y]
   cases y with
   | tmp t =>
     show Src.get x a0 (match slotAt es t with | some i=>.dep i | none=>.old t) = match lookS es vs t with | some v=>v | none=>match olds.find? (fun p=>p.1 == t) with | some p=>p.2 | none=>undef
     rw [lookS_eq es vs hl hx]; have hkn:=Array.all_eq_true'.1 hk _ hy; simp only [known,Bool.or_eq_true] at hkn
     cases hs : slotAt es t with
     | some j=>rfl
     | none =>
       rw [hs] at hkn; rcases hkn with h | h
       · cases h
       · obtain ⟨q,hq,hqt⟩:=List.any_eq_true.1 h
         cases hf : olds.find? (fun p=>p.1 == t) with
         | none=>exact absurd hqt (by simpa using List.find?_eq_none.1 hf q hq)
         | some p =>
           have h1:=List.mem_of_find?_eq_some hf; have h2 : p.1 = t:=by simpa using List.find?_some hf
           show a0.eval (.tmp t) = p.2
           rw [← h2]; exact ho p h1
   | const v=>rfl
   | global g=>rfl
   | func f=>rfl
 refine da (v:=V) (w':=w) hd (by rw [aw,hN]) hdN (by rw [hev]; exact hr w) (hK V w ?_ ?_)
 · rw [hV]; exact Below.refl _ _
 · rw [hV]; rfl
theorem fo {d j : Nat} {t : Tmp} {T : TypeId} {pos : String} {af : Array Edge} {g : Option (Nat × Bool)} {f : Value → World → Prop} {hb hs}    (hj : at_ ks j = .p f hb hs) (hi : at_ ks i = .p f hb hs) (hN : a0.tmps.size = N:=by assumption) (hd : decide (d < N) = true:=by kernel_rfl) (ht : decide (t < N) = true:=by kernel_rfl) :
   PkStep P C S0 ks a0 i { dst:=some d,op:=.move (.tmp t),type:=T,pos:=pos,after:=af,guard:=g } [(j,some t)]:=by
 intro w x hC
 refine bc _ fun hdeps K hK=>?_
 have h1:=hdeps _ (List.mem_singleton.2 rfl)
 have hev : (putE x a0 [(j,some t)]).eval (.tmp t) = x j:=ap _ _ (by rw [hN]; exact of_decide_eq_true ht) (by simp [slotAt])
 refine da (v:=x j) (w':=w) rfl (by rw [aw,hN]) hd ?_ (hK _ _ ?_ ?_)
 · show (pure (Next.value ((putE x a0 [(j,some t)]).eval (.tmp t))) : Sem Next).run P w = _
   rw [hev]; rfl
 · rw [hi]; exact Below.refl _ _
 · rw [hi]; rw [hj] at h1; exact h1
end
section
variable {P : Program} {w w' : World} {ρ : Operand → Value} {d : Option Tmp} {T : TypeId} {pos : String} {af : Array Edge} {gu : Option (Nat × Bool)}
theorem bq {α β : Type} {m : Sem α} {f : α → Sem β} {v : α} (h : m.run P w = .ok v w') : (m >>= f).run P w = (f v).run P w':=by simp [go_sem,h]
theorem ex_load {E : TypeId} {t : Tmp} {p v : Value} (h : ρ (.tmp t) = p) (hr : (Instr.loadAt E p).run P w = .ok v w) : (execOp ρ { dst:=d,op:=.load E (.tmp t),type:=T,pos:=pos,after:=af,guard:=gu }).run P w = .ok (.value v) w:=by
 show Sem.run P ((Instr.loadAt E (ρ (.tmp t))) >>= fun v=>pure (Next.value v)) w = _
 rw [h]
 rw [bq hr]; rfl
theorem ex_store {E : TypeId} {t u : Tmp} {p v : Value} (h : ρ (.tmp t) = p) (h2 : ρ (.tmp u) = v) (hr : (Instr.storeAt E p v).run P w = .ok () w') : (execOp ρ { dst:=d,op:=.store E (.tmp t) (.tmp u),type:=T,pos:=pos,after:=af,guard:=gu }).run P w = .ok .skip w':=by
 show Sem.run P ((Instr.storeAt E (ρ (.tmp t)) (ρ (.tmp u))) >>= fun _=>pure Next.skip) w = _
 rw [h,h2]
 rw [bq hr]; rfl
theorem ex_alloc {E : TypeId} {v : Value} (hr : (Instr.alloc E true (.tuple #[])).run P w = .ok v w') : (execOp ρ { dst:=d,op:=.alloc E,type:=T,pos:=pos,after:=af,guard:=gu }).run P w = .ok (.value v) w':=by
 show Sem.run P ((Instr.alloc E true (.tuple #[])) >>= fun v=>pure (Next.value v)) w = _
 rw [bq hr]; rfl
theorem ex_slice2 {E : TypeId} {t1 t2 : Tmp} {v1 v2 v : Value} (h1 : ρ (.tmp t1) = v1) (h2 : ρ (.tmp t2) = v2) (hr : (Instr.buildSlice E 2 #[(0,v1),(1,v2)]).run P w = .ok v w') : (execOp ρ { dst:=d,op:=.buildSlice E 2 #[(0,.tmp t1),(1,.tmp t2)],type:=T,pos:=pos,after:=af,guard:=gu }).run P w = .ok (.value v) w':=by
 have e : (#[(0,.tmp t1),(1,.tmp t2)] : Array (Nat × Operand)).map (fun p=>(p.1,ρ p.2)) = #[(0,v1),(1,v2)]:=by simp [h1,h2]
 show Sem.run P ((Instr.buildSlice E 2 ((#[(0,.tmp t1),(1,.tmp t2)] : Array (Nat × Operand)).map (fun p=>(p.1,ρ p.2)))) >>= fun v=>pure (Next.value v)) w = _
 rw [e]
 rw [bq hr]; rfl
theorem ex_ext {t : Tmp} {n : Nat} {vs : Array Value} {u : Value} (h : ρ (.tmp t) = .tuple vs) (hu : vs[n]? = some u) : (execOp ρ { dst:=d,op:=.extract (.tmp t) n,type:=T,pos:=pos,after:=af,guard:=gu }).run P w = .ok (.value u) w:=by
 show Sem.run P ((Instr.extract (ρ (.tmp t)) n) >>= fun v=>pure (Next.value v)) w = _
 rw [h]
 have hr : (Instr.extract (.tuple vs) n).run P w = .ok u w:=by simp [Instr.extract,go_sem,hu]
 rw [bq hr]; rfl
end
theorem old0 {a : Act} : ∀ p ∈ ([] : List (Tmp × Value)),a.eval (.tmp p.1) = p.2:=fun _ h=>by cases h
theorem old1 {a : Act} {t : Tmp} {v : Value} (h : a.eval (.tmp t) = v) : ∀ p ∈ [(t,v)],a.eval (.tmp p.1) = p.2:=fun p hp=>by rw [List.mem_singleton.1 hp]; exact h
theorem fp {G : Act → Prop} {a : Act} (h : ∀ a0,a0 = a → G a0) : G a:=h a rfl
theorem dc {P : Program} {id : Nat} {draw : Bool} {ops : Array Oper} {Q : Exit → Act → World → Prop} {a0 : Act} {W0 : World} {N : Nat} (hN : a0.tmps.size = N) (B : Nat) (ks : List PK) (es : List (List (Nat × Option Tmp))) (all : List (Nat × Option Tmp)) (bs : List (Nat × Bool)) (sk : List Nat) (hm : P.follows .mixedOrders = true) (hchk : growOK ops (fun i => !sk.contains i) es all N = true) (hk : codesOK ks es = true) (hgu : guardOK ops bs sk = true) (hbs : bs.map (fun p => at_ ks p.1) = bs.map fun p => kIs (.bool p.2)) (hsk : sk.map (at_ ks) = sk.map fun _ => kIs undef)
   (hb : blks ks = []) (hB0 : B ≤ W0.heap.size) (hs : PkFrom P ops es sk (Reg B W0 []) W0.heap.size ks a0 0) (hend : ∀ w' x,Reg B W0 [] w' → (∀ i,i < ops.size → (at_ ks i).sem W0.heap.size x (x i) w') → Q .normal (putE x a0 all) w') : (Code.region id ops draw).wp P Q a0 W0:=by
 subst hN
 refine am (hm:=hm) (hchk:=hchk) (hk:=hk) (hgu:=hgu) (hbs:=hbs) (hsk:=hsk) B ks es all bs sk ?_ ?_ hB0 ?_ ?_ ?_
 · rw [hb]; exact List.nodup_nil
 · rw [hb]; intro g hg; cases hg
 · rw [hb]; intro g hg; cases hg
 · rw [hb]; exact hs
 · rw [hb]; exact hend
def Zd (W : World) (v : Value) (k : Nat) (z : Int) : Prop:=∃ b A l c n,v = .agg #[.bool b,.slice A l c] ∧ Rd W (.slice A l c) n ∧ n < 1000000000 ^ k ∧ zOf n b = z
def Zr (W : World) (v : Value) (k : Nat) (z : Int) : Prop:=∃ A l c,v = .agg #[.bool (decide (z < 0)),.slice A l c] ∧ Rr W (.slice A l c) z.natAbs ∧ z.natAbs < 1000000000 ^ k
theorem Zr.zd {W : World} {v : Value} {k : Nat} {z : Int} (h : Zr W v k z) : Zd W v k z:=by
 obtain ⟨A,l,c,e,h1,h2⟩:=h
 exact ⟨_,A,l,c,_,e,h1.rd,h2,zOf_of z⟩
theorem Zd.below {W w' : World} {v : Value} {k : Nat} {z : Int} (h : Zd W v k z) (hb : Below W.heap.size W w') : Zd w' v k z:=by
 obtain ⟨b,A,l,c,n,e,h1,h2⟩:=h
 exact ⟨b,A,l,c,n,e,h1.below hb,h2⟩
theorem Zr.below {W w' : World} {v : Value} {k : Nat} {z : Int} (h : Zr W v k z) (hb : Below W.heap.size W w') : Zr w' v k z:=by
 obtain ⟨A,l,c,e,h1,h2⟩:=h
 exact ⟨A,l,c,e,h1.below hb,h2⟩
theorem Stored.rd {w w' : World} {g : Nat} {x : Value} {n : Nat} (h : Rd w x n) (hs : Stored g w w') : Rd w' x n:=by
 obtain ⟨A,c,xs,e,r1,r2⟩:=h
 exact ⟨A,c,xs,e,hs.row r1,r2⟩
theorem Zd.stored {w w' : World} {g : Nat} {v : Value} {k : Nat} {z : Int} (h : Zd w v k z) (hs : Stored g w w') : Zd w' v k z:=by
 obtain ⟨b,A,l,c,n,e,h1,h2⟩:=h
 exact ⟨b,A,l,c,n,e,hs.rd h1,h2⟩
theorem Zr.stored {w w' : World} {g : Nat} {v : Value} {k : Nat} {z : Int} (h : Zr w v k z) (hs : Stored g w w') : Zr w' v k z:=by
 obtain ⟨A,l,c,e,h1,h2⟩:=h
 exact ⟨A,l,c,e,hs.rr h1,h2⟩
theorem pow_le {j k : Nat} (h : j ≤ k) : 1000000000 ^ j ≤ 1000000000 ^ k:=Nat.pow_le_pow_right (by decide) h
theorem Zd.mono {W : World} {v : Value} {j k : Nat} {z : Int} (h : Zd W v j z) (hk : j ≤ k) : Zd W v k z:=by
 obtain ⟨b,A,l,c,n,e,h1,h2,h3⟩:=h
 exact ⟨b,A,l,c,n,e,h1,Nat.lt_of_lt_of_le h2 (pow_le hk),h3⟩
theorem Zr.mono {W : World} {v : Value} {j k : Nat} {z : Int} (h : Zr W v j z) (hk : j ≤ k) : Zr W v k z:=by
 obtain ⟨A,l,c,e,h1,h2⟩:=h
 exact ⟨A,l,c,e,h1,Nat.lt_of_lt_of_le h2 (pow_le hk)⟩
theorem Zd.lt {W : World} {v : Value} {k : Nat} {z : Int} (h : Zd W v k z) : z.natAbs < 1000000000 ^ k:=by
 obtain ⟨b,A,l,c,n,e,h1,h2,rfl⟩:=h
 rw [ci]; exact h2
theorem Zr.lt {W : World} {v : Value} {k : Nat} {z : Int} (h : Zr W v k z) : z.natAbs < 1000000000 ^ k:=h.zd.lt
theorem Zd.drew {W : World} {v : Value} {k : Nat} {z : Int} (h : Zd W v k z) : Zd W.drew v k z:=h.below ((Below.refl _ _).drew)
def kZ (k : Nat) (z : Int) : PK:=.p (fun v w=>Zr w v k z) (fun _ _ _ h hb=>h.below hb) (fun _ _ _ _ h hs=>h.stored hs)
def TellsZ (w : World) (k : Nat) (z : Int) (e : Ending) (w' : World) : Prop:=∃ v,e = .returned v ∧ Zr w' v k z ∧ Below w.heap.size w w'
theorem dq {w w' : World} {k : Nat} {z : Int} {e : Ending} (hz : z.natAbs < 1000000000 ^ k) (h : RetInt w z.natAbs (decide (z < 0)) e w') : TellsZ w k z e w':=by
 obtain ⟨A,l,c,h1,h2,_,h3⟩:=h
 exact ⟨_,h1,⟨A,l,c,rfl,h2,hz⟩,h3⟩
theorem tellsZ_nat {w w' : World} {k n : Nat} {e : Ending} (hz : n < 1000000000 ^ k) (h : RetInt w n false e w') : TellsZ w k (n : Int) e w':=by
 refine dq (by omega) ?_
 rw [Int.natAbs_natCast,decide_eq_false (by omega)]
 exact h
theorem z_same {w : World} {v1 v2 : Value} {j k : Nat} {x y : Int} (h1 : Zr w v1 j x) (h2 : Zr w v2 k y) (e : x = y) : Calls Tryz.prog 46 #[v1,v2] w fun e w'=>e = .returned (.bool true) ∧ Below w.heap.size w w':=by
 subst e
 obtain ⟨A1,l1,c1,rfl,r1,e1⟩:=h1
 obtain ⟨A2,l2,c2,rfl,r2,e2⟩:=h2
 exact same2_yes r1 r2
def zq (x y : Int) : Int:=zOf (divQ x.natAbs (decide (x < 0)) y.natAbs (decide (y < 0))) (decide (x < 0) != decide (y < 0))
def Zs (W : World) (g : Nat) (l : List (Nat × Int)) : Prop:=∃ L : List (Nat × Bool),Ints W g L ∧ L.map (fun p=>zOf p.1 p.2) = l.map (·.2) ∧ ∀ q ∈ l,q.2.natAbs < 1000000000 ^ q.1
theorem Zs.below {W w' : World} {g : Nat} {l : List (Nat × Int)} (h : Zs W g l) (hb : Below W.heap.size W w') : Zs w' g l:=by
 obtain ⟨L,h1,h2⟩:=h
 exact ⟨L,h1.below hb,h2⟩
theorem Zs.lt {W : World} {g : Nat} {l : List (Nat × Int)} (h : Zs W g l) {L : List (Nat × Bool)} (hL : L.map (fun p=>zOf p.1 p.2) = l.map (·.2)) {m : Nat} (hm : ∀ q ∈ l,q.1 ≤ m) : ∀ p ∈ L,p.1 < 1000000000 ^ m:=fun p hp=>by
 obtain ⟨_,_,_,h3⟩:=h
 have : zOf p.1 p.2 ∈ l.map (·.2):=by rw [← hL]; exact List.mem_map.2 ⟨p,hp,rfl⟩
 obtain ⟨q,hq,e⟩:=List.mem_map.1 this
 have h4:=h3 q hq
 rw [e,ci] at h4
 exact Nat.lt_of_lt_of_le h4 (pow_le (hm q hq))
def zsum (zs : List Int) : Int:=zs.foldl (· + ·) 0
def zprod (zs : List Int) : Int:=zs.foldl (· * ·) 1
def zgcd (zs : List Int) : Nat:=zs.foldl (fun d z=>Nat.gcd z.natAbs d) 0
theorem zadd_map (L : List (Nat × Bool)) : zadd L = zsum (L.map fun p=>zOf p.1 p.2):=by
 unfold zadd zsum
 rw [List.foldl_map]
theorem zmul_map (L : List (Nat × Bool)) : zmul L = zprod (L.map fun p=>zOf p.1 p.2):=by
 unfold zmul zprod
 rw [List.foldl_map]
theorem gcds_map (L : List (Nat × Bool)) : gcds L 0 = zgcd (L.map fun p=>zOf p.1 p.2):=by
 unfold gcds zgcd
 rw [List.foldl_map]
 simp only [ci]
theorem take_map (L : List (Nat × Bool)) (k : Nat) : (L.take k).map (fun p=>zOf p.1 p.2) = (L.map fun p=>zOf p.1 p.2).take k:=List.map_take
theorem z_add {w : World} {g c0 : Nat} {l : List (Nat × Int)} (m : Nat) (h : Zs w g l) (hB : ∀ i (hi : i < l.length),(zsum ((l.map (·.2)).take i)).natAbs + l[i].2.natAbs < 1000000000 ^ m) (h0 : l ≠ []) (hk : ∀ q ∈ l,q.1 ≤ m) (hm : m ≤ 4000) (hl : l.length ≤ 100000) :
   Calls Tryz.prog 47 #[.slice (some ⟨g,0,none⟩) l.length c0] w (TellsZ w m (zsum (l.map (·.2)))):=by
 have h':=h
 obtain ⟨L,h1,h2,h3⟩:=h
 have hlen : l.length = L.length:=by simpa using (congrArg List.length h2).symm
 have hb : ∀ k (hk : k < L.length),addBound m (zadd (L.take k)) (zOf L[k].1 L[k].2):=fun i hi=>by
   have:=hB i (by omega); rw [← h2,← take_map,← zadd_map] at this
   have e : zOf L[i].1 L[i].2 = l[i].2:=by
     have:=congrArg (fun q=>q[i]?) h2
     simpa [hi,show i < l.length by omega] using this
   rw [← e] at this; exact this
 rw [← h2,← zadd_map,hlen]
 refine (add_int h1 (h'.lt h2 hk) hb hm (by omega)).mono fun _ _ q=>dq ?_ q
 have hne : 0 < L.length:=by
   rcases Nat.eq_zero_or_pos L.length with e | e
   · exact absurd (List.eq_nil_of_length_eq_zero (by omega)) h0
   · exact e
 have h5:=hb (L.length - 1) (by omega)
 have h6:=zadd_succ (L:=L) (k:=L.length - 1) (by omega)
 rw [show L.length - 1 + 1 = L.length by omega,List.take_length] at h6
 unfold addBound at h5
 rw [h6]
 exact Nat.lt_of_le_of_lt (Int.natAbs_add_le _ _) h5
theorem z_mul {w : World} {g c0 : Nat} {l : List (Nat × Int)} (m : Nat) (h : Zs w g l) (hB : ∀ i (hi : i < l.length),(zprod ((l.map (·.2)).take i)).natAbs < 1000000000 ^ m ∧ (zprod ((l.map (·.2)).take i)).natAbs * l[i].2.natAbs < 1000000000 ^ m) (h0 : l ≠ []) (hk : ∀ q ∈ l,q.1 ≤ m) (hm0 : 0 < m) (hm : m ≤ 4000) (hl : l.length ≤ 100000) :
   Calls Tryz.prog 49 #[.slice (some ⟨g,0,none⟩) l.length c0] w (TellsZ w m (zprod (l.map (·.2)))):=by
 have h':=h
 obtain ⟨L,h1,h2,h3⟩:=h
 have hlen : l.length = L.length:=by simpa using (congrArg List.length h2).symm
 have hb : ∀ k (hk : k < L.length),mulBound m (zmul (L.take k)) (zOf L[k].1 L[k].2):=fun i hi=>by
   have:=hB i (by omega); rw [← h2,← take_map,← zmul_map] at this
   have e : zOf L[i].1 L[i].2 = l[i].2:=by
     have:=congrArg (fun q=>q[i]?) h2
     simpa [hi,show i < l.length by omega] using this
   rw [← e] at this; exact ⟨this.1,this.2,hm0⟩
 rw [← h2,← zmul_map,hlen]
 refine (mul_int h1 (h'.lt h2 hk) hb hm (by omega)).mono fun _ _ q=>dq ?_ q
 have hne : 0 < L.length:=by
   rcases Nat.eq_zero_or_pos L.length with e | e
   · exact absurd (List.eq_nil_of_length_eq_zero (by omega)) h0
   · exact e
 have h5:=hb (L.length - 1) (by omega)
 have h6:=zmul_succ (L:=L) (k:=L.length - 1) (by omega)
 rw [show L.length - 1 + 1 = L.length by omega,List.take_length] at h6
 rw [h6]
 show ((zmul _) * _).natAbs < _
 rw [Int.natAbs_mul]
 exact h5.2.1
theorem z_gcd {w : World} {g c0 : Nat} {l : List (Nat × Int)} (k : Nat) (h : Zs w g l) (hk : ∀ q ∈ l,q.1 ≤ k) (hk4 : k ≤ 4000) (hl : l.length ≤ 100000) :
   Calls Tryz.prog 51 #[.slice (some ⟨g,0,none⟩) l.length c0] w (TellsZ w k (zgcd (l.map (·.2)) : Nat)):=by
 have h':=h
 obtain ⟨L,h1,h2,h3⟩:=h
 have hlen : l.length = L.length:=by simpa using (congrArg List.length h2).symm
 have hb:=h'.lt h2 hk
 rw [← h2,← gcds_map,hlen]
 exact (gcd_any h1 hb hk4 (by omega)).mono fun _ _ q=>tellsZ_nat (gcds_lt (Nat.pow_pos (by decide)) hb) q
def ZL (w : World) (v : Value) (l : List (Nat × Int)) : Prop:=∃ g,v = .slice (some ⟨g,0,none⟩) l.length l.length ∧ Zs w g l
theorem ZL.lt {w : World} {v : Value} {l : List (Nat × Int)} (h : ZL w v l) : ∀ q ∈ l,q.2.natAbs < 1000000000 ^ q.1:=by
 obtain ⟨_,_,_,_,_,h⟩:=h
 exact h
def LocZ (W : World) (g k : Nat) (z : Int) : Prop:=∃ b A l c,Holds_ W g #[.bool b,.slice A l c] ∧ Zd W (.agg #[.bool b,.slice A l c]) k z
def LocR (W : World) (g k : Nat) (z : Int) : Prop:=∃ A l c,Holds_ W g #[.bool (decide (z < 0)),.slice A l c] ∧ Zr W (.agg #[.bool (decide (z < 0)),.slice A l c]) k z
theorem LocZ.below {W w' : World} {g k : Nat} {z : Int} (h : LocZ W g k z) (hb : Below W.heap.size W w') : LocZ w' g k z:=by
 obtain ⟨b,A,l,c,h1,h2⟩:=h
 exact ⟨b,A,l,c,h1.step hb,h2.below hb⟩
theorem LocR.below {W w' : World} {g k : Nat} {z : Int} (h : LocR W g k z) (hb : Below W.heap.size W w') : LocR w' g k z:=by
 obtain ⟨A,l,c,h1,h2⟩:=h
 exact ⟨A,l,c,h1.step hb,h2.below hb⟩
theorem Reg.rd {B : Nat} {W0 w : World} {G : List Nat} (h : Reg B W0 G w) {v : Value} {n : Nat} (hr : Rd W0 v n) : Rd w v n:=by
 obtain ⟨A,c,xs,h1,h2,h3⟩:=hr
 refine ⟨A,c,xs,h1,fun j u hu=>?_,h3⟩
 obtain ⟨ad,e,hc⟩:=h2 j u hu
 refine ⟨ad,e,?_⟩
 have hG : (ad.add j).block ∉ G:=fun hg=>by
   obtain ⟨cs0,_,⟨⟨T,h4⟩,h5⟩,_⟩:=h.held _ hg; obtain ⟨d,_,hd⟩:=List.mem_map.1 (List.mem_of_getElem? hu); simp only [World.cell?,h4] at hc; split at hc
   · cases hc
   · exact h5 u (Array.mem_of_getElem? hc) d hd.symm
 rw [World.cell?_of_block (h.old _ (cell_lt hc) hG)]
 exact hc
theorem Reg.holds {B : Nat} {W0 w : World} (h : Reg B W0 [] w) {g : Nat} {cs : Array Value} (hg : Holds_ W0 g cs) : Holds_ w g cs:=by
 have hlt:=hg.lt
 obtain ⟨⟨T,h4⟩,h5⟩:=hg
 exact ⟨⟨T,(h.old g hlt (by simp)).trans h4⟩,h5⟩
theorem Reg.locR {B : Nat} {W0 w : World} (h : Reg B W0 [] w) {g k : Nat} {z : Int} (hl : LocR W0 g k z) : LocR w g k z:=by
 obtain ⟨A,l,c,h1,A',l',c',e,h2,h3⟩:=hl
 exact ⟨A,l,c,h.holds h1,A',l',c',e,h.rr h2,h3⟩
theorem run_store2 {w : World} {g : Nat} {b : Bool} {A : Option Addr} {l c : Nat} (h0 : w.frozen? ⟨g,0,none⟩ = false) (h1 : w.frozen? ⟨g,1,none⟩ = false) {u0 v0 : Value} (h2 : w.cell? ⟨g,0,none⟩ = some u0) (h3 : w.cell? ⟨g,1,none⟩ = some v0) : (Instr.storeAt 24 (.pointer (some ⟨g,0,none⟩)) (.agg #[.bool b,.slice A l c])).run Tryz.prog w = .ok () (put2 w g (.bool b) (.slice A l c)):=by go_simp; rfl
theorem run_alloc {w : World} : (Instr.alloc 24 true (.tuple #[])).run Tryz.prog w = .ok (.pointer (some ⟨w.heap.size,0,none⟩)) (w.alloc (.cells #[.bool false,.slice none 0 0] 24)):=by go_simp
def isZ (k : Nat) (z : Int) (cs : Array Value) (w : World) : Prop:=∃ A l c,cs = #[.bool (decide (z < 0)),.slice A l c] ∧ Zr w (.agg #[.bool (decide (z < 0)),.slice A l c]) k z
def kPutZ (e k : Nat) (z : Int) : PK:=.put e (isZ k z) (fun _ _ _ ⟨A,l,c,h1,h2⟩ hb=>⟨A,l,c,h1,h2.below hb⟩) (fun _ _ _ _ ⟨A,l,c,h1,h2⟩ hs=>⟨A,l,c,h1,h2.stored hs⟩)
theorem Lens.below {W w' : World} {g : Nat} {ns : List Nat} (h : Lens W g ns) (hb : Below W.heap.size W w') : Lens w' g ns:=fun j n hj=>by
 obtain ⟨A,c,h1⟩:=h j n hj
 exact ⟨A,c,(hb.cell (cell_lt h1)).trans h1⟩
theorem rr {S0 : Nat} {x : Nat → Value} {v : Value} {w : World} {k : Nat} {z : Int} (h : (kZ k z).sem S0 x v w) : Zr w v k z:=h
def Told (c : PK) (S0 : Nat) (x : Nat → Value) (w : World) (e : Ending) (w' : World) : Prop:=∃ v,e = .returned v ∧ c.move S0 x v w w' ∧ c.sem S0 x v w'
theorem tz {P : Program} {F : FuncId} {vs : Array Value} {w : World} {S0 : Nat} {x : Nat → Value} {k : Nat} {z : Int} (h : Calls P F vs w (TellsZ w k z)) : Calls P F vs w (Told (kZ k z) S0 x w) :=
 h.mono fun _ _ ⟨v,e,h1,h2⟩=>⟨v,e,h2,h1⟩
theorem ti {P : Program} {F : FuncId} {vs : Array Value} {w : World} {S0 : Nat} {x : Nat → Value} {V : Value} (h : Calls P F vs w fun e w'=>e = .returned V ∧ Below w.heap.size w w') : Calls P F vs w (Told (kIs V) S0 x w) :=
 h.mono fun _ _ ⟨e,h1⟩=>⟨V,e,h1,rfl⟩
section
variable {G : List Nat} {C : World → Prop} {S0 B : Nat} {ks : List PK} {a0 : Act} {i : Nat} {N : Nat} {W0 : World} {P : Program} {T : TypeId} {pos : String} {af : Array Edge} {gu : Option (Nat × Bool)} {ats : Array TypeId}
theorem st_alloc {d : Nat}    (hi : at_ ks i = .fresh 2) (hN : a0.tmps.size = N:=by assumption) (hd : decide (d < N) = true:=by kernel_rfl) (hS : S0 ≤ W0.heap.size:=by exact Nat.le_refl _) :
   PkStep Tryz.prog (Reg B W0 G) S0 ks a0 i { dst:=some d,op:=.alloc 24,type:=T,pos:=pos,after:=af,guard:=gu } []:=by
 intro w x hC K hK
 have hsz:=hC.below.size
 refine da (v:=.pointer (some ⟨w.heap.size,0,none⟩)) (w':=w.alloc (.cells #[.bool false,.slice none 0 0] 24)) rfl hN hd ?_ (hK _ _ ?_ ?_)
 · exact ex_alloc run_alloc
 · rw [hi]; exact ⟨(Below.refl _ _).alloc (Nat.le_refl _) _,_,rfl,Nat.le_refl _⟩
 · rw [hi]; exact ⟨_,_,rfl,Nat.le_trans hS hsz,eb _ (noDig_bool _) (noDig_slice _ _ _) _,rfl⟩
theorem st_put {t u e j k : Nat} {z : Int}     (he : at_ ks e = .fresh 2) (hj : at_ ks j = kZ k z) (hi : at_ ks i = kPutZ e k z) (hN : a0.tmps.size = N:=by assumption) (ht : decide (t < N) = true:=by kernel_rfl) (hu : decide (u < N) = true:=by kernel_rfl) (htu : decide (t = u) = false:=by kernel_rfl) :
   PkStep Tryz.prog (Reg B W0 G) S0 ks a0 i { dst:=none,op:=.store 24 (.tmp t) (.tmp u),type:=T,pos:=pos,after:=af,guard:=gu } [(e,some t),(j,some u)]:=by
 intro w x hC
 refine bc _ fun hdeps K hK=>?_
 have h1:=hdeps (e,some t) (by simp)
 have h2:=hdeps (j,some u) (by simp)
 have htu' : t ≠ u:=of_decide_eq_false htu
 have e1 : (putE x a0 [(e,some t),(j,some u)]).eval (.tmp t) = x e:=ap _ _ (by rw [hN]; exact of_decide_eq_true ht) (by simp [slotAt,Ne.symm htu'])
 have e2 : (putE x a0 [(e,some t),(j,some u)]).eval (.tmp u) = x j:=ap _ _ (by rw [hN]; exact of_decide_eq_true hu) (by simp [slotAt])
 simp only [he,hj] at h1 h2
 obtain ⟨g,cs,hx,hg0,hg,hsz⟩:=h1
 obtain ⟨u0,v0,rfl⟩:=size_two hsz
 obtain ⟨A,l,c,hy,hr,hlt⟩:=h2
 obtain ⟨m1,m2,m3,m4⟩:=hg.two
 have hst:=stored_put2 hg (noDig_bool (decide (z < 0))) (noDig_slice A l c)
 refine wp_skp (w':=put2 w g (.bool (decide (z < 0))) (.slice A l c)) rfl ?_ (hK _ _ ?_ ?_)
 · exact ex_store (e1.trans hx) (e2.trans hy) (run_store2 m3 m4 m1 m2)
 · rw [hi]; exact ⟨g,hx,hg0,hst⟩
 · rw [hi]; exact ⟨g,_,hx,hg0,aj hg (noDig_bool _) (noDig_slice _ _ _),A,l,c,rfl,A,l,c,rfl,hst.rr hr,hlt⟩
theorem cg {d F j1 t1 : Nat} {c1 c : PK} (hN : a0.tmps.size = N)    (h1 : at_ ks j1 = c1) (hi : at_ ks i = c)
   (h : ∀ {w x v1},C w → c1.sem S0 x v1 w → Calls P F #[v1] w (Told c S0 x w)) (hd : decide (d < N) = true:=by kernel_rfl) (ht1 : decide (t1 < N) = true:=by kernel_rfl) (hF : enters P F = true:=by kernel_rfl) :
   PkStep P C S0 ks a0 i { dst:=some d,op:=.call { callee:=.value (.func F),args:=#[.tmp t1],argTypes:=ats },type:=T,pos:=pos,after:=af,guard:=gu } [(j1,some t1)] :=
 st_call (ss:=[.dep j1]) hN (by simp [esIn]; exact of_decide_eq_true ht1) hd hF (by simp [src,slotAt]) fun w x hC hdeps=>by
   have g1:=hdeps (j1,some t1) (by simp); rw [h1] at g1; rw [hi]; exact @h w x (x j1) hC g1
theorem an {d F j1 t1 j2 t2 : Nat} {c1 c2 c : PK}       (h1 : at_ ks j1 = c1) (h2 : at_ ks j2 = c2) (hi : at_ ks i = c)
   (h : ∀ {w x v1 v2},C w → c1.sem S0 x v1 w → c2.sem S0 x v2 w → Calls P F #[v1,v2] w (Told c S0 x w)) (hN : a0.tmps.size = N:=by assumption) (hd : decide (d < N) = true:=by kernel_rfl) (ht1 : decide (t1 < N) = true:=by kernel_rfl) (ht2 : decide (t2 < N) = true:=by kernel_rfl) (hne : decide (t1 = t2) = false:=by kernel_rfl) (hF : enters P F = true:=by kernel_rfl) :
   PkStep P C S0 ks a0 i { dst:=some d,op:=.call { callee:=.value (.func F),args:=#[.tmp t1,.tmp t2],argTypes:=ats },type:=T,pos:=pos,after:=af,guard:=gu } [(j1,some t1),(j2,some t2)] :=
 st_call (ss:=[.dep j1,.dep j2]) hN (by simp [esIn]; exact ⟨of_decide_eq_true ht1,of_decide_eq_true ht2⟩) hd hF (by have:=of_decide_eq_false hne; simp [src,slotAt,Ne.symm this]) fun w x hC hdeps=>by
   have g1:=hdeps (j1,some t1) (by simp); have g2:=hdeps (j2,some t2) (by simp); rw [h1] at g1; rw [h2] at g2; rw [hi]; exact @h w x (x j1) (x j2) hC g1 g2
theorem st_call0 {d F : Nat} {args : Array Operand} {c : PK} (vs : List Value)    (hs : args.toList.map (src []) = vs.map Src.val) (hi : at_ ks i = c) (h : ∀ {w x},C w → Calls P F vs.toArray w (Told c S0 x w)) (hN : a0.tmps.size = N:=by assumption) (hd : decide (d < N) = true:=by kernel_rfl) (hF : enters P F = true:=by kernel_rfl) :
   PkStep P C S0 ks a0 i { dst:=some d,op:=.call { callee:=.value (.func F),args:=args,argTypes:=ats },type:=T,pos:=pos,after:=af,guard:=gu } [] :=
 st_call (ss:=vs.map Src.val) hN rfl hd hF hs fun w x hC _=>by
   have e : (vs.map Src.val).map (Src.get x a0) = vs:=by
     rw [List.map_map]; exact List.map_id _
   rw [e,hi]; exact @h w x hC
theorem du {d j t n : Nat} {c cj : PK}    (hj : at_ ks j = cj) (hi : at_ ks i = c)
   (h : ∀ w x v,cj.sem S0 x v w → ∃ vs u,v = .tuple vs ∧ vs[n]? = some u ∧ c.move S0 x u w w ∧ c.sem S0 x u w) (hN : a0.tmps.size = N:=by assumption) (hd : decide (d < N) = true:=by kernel_rfl) (ht : decide (t < N) = true:=by kernel_rfl) :
   PkStep P C S0 ks a0 i { dst:=some d,op:=.extract (.tmp t) n,type:=T,pos:=pos,after:=af,guard:=gu } [(j,some t)]:=by
 intro w x hC
 refine bc _ fun hdeps K hK=>?_
 have g1:=hdeps (j,some t) (by simp)
 rw [hj] at g1
 obtain ⟨vs,u,hx,hu,h2,h3⟩:=h w x _ g1
 have e1 : (putE x a0 [(j,some t)]).eval (.tmp t) = x j:=ap _ _ (by rw [hN]; exact of_decide_eq_true ht) (by simp [slotAt])
 refine da (v:=u) (w':=w) rfl (by rw [aw,hN]) hd ?_ (hK _ _ (by rw [hi]; exact h2) (by rw [hi]; exact h3))
 exact ex_ext (e1.trans hx) hu
end
theorem then_n {next : Act → World → Prop} {Q : Exit → Act → World → Prop} {a : Act} {w : World} (h : next a w) : Exit.then next Q .normal a w:=h
theorem ret_one {P : Program} {fn : Func} {R : Ending → World → Prop} {a : Act} {w : World} {v : Value} {t : Tmp} (hres : fn.results = #[.tmp t]) (hd : a.defers = []) (hv : a.eval (.tmp t) = v) (hR : R (.returned v) w) : bodyPost P fn R .ret a w:=by
 refine bodyPost_ret (v:=v) ?_ hd hR
 have h : a.tmps[t]?.getD undef = v:=by
   rw [← Array.getD_eq_getD_getElem?]; exact hv
 simp [results,hres,go_sem,h]
theorem region_k {P : Program} {Q : Exit → Act → World → Prop} {c : Code} {a : Act} {w : World} (h : ∀ K : Act → World → Prop,(∀ a w,Q .normal a w → K a w) → c.wp P (Exit.then K Q) a w) : c.wp P Q a w :=
 wp_mono (h (Q .normal) fun _ _ h=>h) fun e a w h=>by cases e <;> exact h
theorem then_r {next : Act → World → Prop} {Q : Exit → Act → World → Prop} {a : Act} {w : World} (h : Q .ret a w) : Exit.then next Q .ret a w:=h
end Go.Proofs.YtifgcjpgelbelaaGreatDoor
namespace Go.Proofs.YtifgcjpgelbelaaGreatDoor
open Go.ChangeShapes Go.WideShapes Go.ChangeAt Go.WideMaps Go.WideElems Go.RowKit
def IntData {H : Type} (d : DataW H) (b : Bool) (n : Nat) : Prop:=(d = .agg [.lit (.bool b),.nil] ∧ n = 0) ∨ ∃ els rest,d = .agg [.lit (.bool b),.slice els rest] ∧ els.length = n
def Az9 : Nat → List Nat → List (Nat × Option Tmp)
 | _,[]=>[]
 | i,t :: l=>(i,if t = 999 then none else some t) :: Az9 (i + 1) l
def Ez9 (sl : List Nat) (el : List (List Nat)) : List (List (Nat × Option Tmp)):=el.map fun e=>e.map fun i=>(i,some (sl.getD i 0))
theorem Wl9 {P : Program} {id : Nat} {draw : Bool} {ops : Array Oper} {next : Act → World → Prop} {Q : Exit → Act → World → Prop} {a0 : Act} {w W0 : World} {N : Nat} (bb : Below w.heap.size w W0) (ks : List PK) (el : List (List Nat)) (sl : List Nat) (bs : List (Nat × Bool)) (sk : List Nat) (Hs9 : PkFrom P ops (Ez9 sl el) sk (Reg w.heap.size W0 []) W0.heap.size ks a0 0) (hend : ∀ w' x a1, Reg w.heap.size W0 [] w' → (∀ i, i < ops.size → (at_ ks i).sem W0.heap.size x (x i) w') → a1 = putE x a0 (Az9 0 sl) → a1.tmps.size = N → a1.defers = [] → Below w.heap.size w w' → next a1 w')
   (hN : a0.tmps.size = N:=by assumption) (hD : a0.defers = []:=by assumption) (hm : P.follows .mixedOrders = true:=by kernel_rfl) (hchk : growOK ops (fun i=>!sk.contains i) (Ez9 sl el) (Az9 0 sl) N = true:=by kernel_rfl) (hk : codesOK ks (Ez9 sl el) = true:=by kernel_rfl) (hgu : guardOK ops bs sk = true:=by kernel_rfl) (hbs : bs.map (fun p=>at_ ks p.1) = bs.map fun p=>kIs (.bool p.2):=by kernel_rfl) (hsk : sk.map (at_ ks) = sk.map fun _=>kIs undef:=by kernel_rfl) (hb : blks ks = []:=by kernel_rfl) : (Code.region id ops draw).wp P (Exit.then next Q) a0 W0 :=
 dc hN w.heap.size ks (Ez9 sl el) (Az9 0 sl) bs sk hm hchk hk hgu hbs hsk hb bb.size Hs9 fun w' x h1 h2=>then_n (hend w' x _ h1 h2 rfl (size_behind rfl hN) (defers_behind rfl hD) (bb.trans h1.below))
theorem Sn9 {x : Nat → Value} {a b : Act} {es : List (Nat × Option Tmp)} {N n S0 : Nat} {ks : List PK} {w : World} (ha : b = putE x a es) (hall : ∀ i,i < n → (at_ ks i).sem S0 x (x i) w) (t i : Nat) {V : Value} (hN : a.tmps.size = N:=by assumption) (h1 : slotAt es t = some i:=by kernel_rfl) (h2 : decide (t < N) = true:=by kernel_rfl) (h3 : decide (i < n) = true:=by kernel_rfl) (h4 : at_ ks i = kIs V:=by exact rfl) : b.eval (.tmp t) = V:=by
 have h5:=hall i (of_decide_eq_true h3)
 rw [h4] at h5
 exact (az (h:=h1) (ht:=h2) ha).trans h5
theorem p01 {P : Program} {ops : Array Oper} {es : List (List (Nat × Option Tmp))} {sk : List Nat} {C : World → Prop} {S0 : Nat} {ks : List PK} {a0 : Act} {i N d : Nat} {o : Oper} {V : Value} {s0 : Tmp} {u0 : Value} (q0 : a0.eval (.tmp s0) = u0) (hh : PkFrom P ops es sk C S0 ks a0 (i + 1)) (ho : ops[i]? = some o:=by exact rfl) (he : es.getD i [] = []:=by exact rfl) (hd : o.dst = some d:=by exact rfl) (hV : at_ ks i = kIs V:=by exact rfl) (hN : a0.tmps.size = N:=by assumption) (h7 : esIn [] N = true:=by kernel_rfl) (hdN : decide (d < N) = true:=by kernel_rfl) (hsel : (match o.op with | .select _ _=>false | _=>true) = true:=by kernel_rfl) (hk : o.op.operands.all (known [] [(s0,u0)]) = true:=by kernel_rfl) (hr : ∀ w,(execOp (look [] [] [(s0,u0)]) o).run P w = .ok (.value V) w:=by intro _; kernel_rfl) : PkFrom P ops es sk C S0 ks a0 i :=
 aa ho he (di (he:=h7) (hdN:=hdN) (hc:=rfl) (hsel:=hsel) (hk:=hk) (hV:=hV) (hr:=hr) [] [(s0,u0)] V hd hN (old1 q0)) hh
theorem p10 {P : Program} {ops : Array Oper} {es : List (List (Nat × Option Tmp))} {sk : List Nat} {C : World → Prop} {S0 : Nat} {ks : List PK} {a0 : Act} {i N d : Nat} {o : Oper} {V : Value} {j0 t0 : Nat} {v0 : Value} (hh : PkFrom P ops es sk C S0 ks a0 (i + 1)) (ho : ops[i]? = some o:=by exact rfl) (he : es.getD i [] = [(j0,some t0)]:=by exact rfl) (hd : o.dst = some d:=by exact rfl) (h0 : at_ ks j0 = kIs v0:=by exact rfl) (hV : at_ ks i = kIs V:=by exact rfl) (hN : a0.tmps.size = N:=by assumption) (h7 : esIn [(j0,some t0)] N = true:=by kernel_rfl) (hdN : decide (d < N) = true:=by kernel_rfl) (hsel : (match o.op with | .select _ _=>false | _=>true) = true:=by kernel_rfl) (hk : o.op.operands.all (known [(j0,some t0)] []) = true:=by kernel_rfl) (hr : ∀ w,(execOp (look [(j0,some t0)] [v0] []) o).run P w = .ok (.value V) w:=by intro _; kernel_rfl) : PkFrom P ops es sk C S0 ks a0 i :=
 aa ho he (di (he:=h7) (hdN:=hdN) (hc:=(by simp only [List.map_cons,List.map_nil,h0])) (hsel:=hsel) (hk:=hk) (hV:=hV) (hr:=hr) [v0] [] V hd hN old0) hh
theorem p20 {P : Program} {ops : Array Oper} {es : List (List (Nat × Option Tmp))} {sk : List Nat} {C : World → Prop} {S0 : Nat} {ks : List PK} {a0 : Act} {i N d : Nat} {o : Oper} {V : Value} {j0 t0 : Nat} {v0 : Value} {j1 t1 : Nat} {v1 : Value} (hh : PkFrom P ops es sk C S0 ks a0 (i + 1)) (ho : ops[i]? = some o:=by exact rfl) (he : es.getD i [] = [(j0,some t0),(j1,some t1)]:=by exact rfl) (hd : o.dst = some d:=by exact rfl) (h0 : at_ ks j0 = kIs v0:=by exact rfl) (h1 : at_ ks j1 = kIs v1:=by exact rfl) (hV : at_ ks i = kIs V:=by exact rfl) (hN : a0.tmps.size = N:=by assumption) (h7 : esIn [(j0,some t0),(j1,some t1)] N = true:=by kernel_rfl) (hdN : decide (d < N) = true:=by kernel_rfl) (hsel : (match o.op with | .select _ _=>false | _=>true) = true:=by kernel_rfl) (hk : o.op.operands.all (known [(j0,some t0),(j1,some t1)] []) = true:=by kernel_rfl) (hr : ∀ w,(execOp (look [(j0,some t0),(j1,some t1)] [v0,v1] []) o).run P w = .ok (.value V) w:=by intro _; kernel_rfl) : PkFrom P ops es sk C S0 ks a0 i :=
 aa ho he (di (he:=h7) (hdN:=hdN) (hc:=(by simp only [List.map_cons,List.map_nil,h0,h1])) (hsel:=hsel) (hk:=hk) (hV:=hV) (hr:=hr) [v0,v1] [] V hd hN old0) hh
def gk (g n : Nat) : PK:=kIs (.pointer (some ⟨g,n,none⟩))
def KT9 : PK:=kIs (.bool true)
def KF9 : PK:=kIs (.bool false)
def KU9 : PK:=kIs undef
theorem gl {a b : Act} (ha : b = a) (t g : Nat) (h : a.eval (.tmp t) = .pointer (some ⟨g,0,none⟩):=by kernel_rfl) : b.eval (.tmp t) = .pointer (some ⟨g,0,none⟩):=by subst ha; exact h
theorem gn {P : Program} {c d : Code} {Q : Exit → Act → World → Prop} {a : Act} {w : World} (h : c.wp P (Exit.then (fun a' w'=>d.wp P Q a' w') Q) a w) : (c.seq d).wp P Q a w:=wp_seq h
theorem go {P : Program} {next : Act → World → Prop} {Q : Exit → Act → World → Prop} {a : Act} {w : World} (h : next a w) : Code.skip.wp P (Exit.then next Q) a w:=wp_skip (then_n h)
theorem Nf9 {G : Act → Prop} {a : Act} (N : Nat) (h : ∀ a0,a0 = a → a0.tmps.size = N → a0.defers = [] → G a0) (Hs9 : a.tmps.size = N:=by kernel_rfl) (hd : a.defers = []:=by exact rfl) : G a:=h a rfl Hs9 hd
theorem Te9 {a b : Act} {t : Tmp} {V : Value} (ha : b = a) (h : a.eval (.tmp t) = V:=by kernel_rfl) : b.eval (.tmp t) = V:=by subst ha; exact h
theorem O19 {w : World} {p1 : Obj} {G : World → Prop} (h : ∀ W,Below w.heap.size w W → W.heap[w.heap.size]? = some p1 → G W) : G (w.alloc p1):=h _ (bal (Below.refl _ _) _) (new_at (by simp))
theorem O29 {w : World} {p1 p2 : Obj} {G : World → Prop} (h : ∀ W,Below w.heap.size w W → W.heap[w.heap.size]? = some p1 → W.heap[w.heap.size + 1]? = some p2 → G W) : G ((w.alloc p1).alloc p2) :=
 h _ (bal (bal (Below.refl _ _) _) _) (by rw [Below.heap_alloc _ _ _ (by simp <;> omega)]; exact new_at (by simp)) (new_at (by simp))
theorem O39 {w : World} {p1 p2 p3 : Obj} {G : World → Prop} (h : ∀ W,Below w.heap.size w W → W.heap[w.heap.size]? = some p1 → W.heap[w.heap.size + 1]? = some p2 → W.heap[w.heap.size + 1 + 1]? = some p3 → G W) : G (((w.alloc p1).alloc p2).alloc p3) :=
 h _ (bal (bal (bal (Below.refl _ _) _) _) _) (by rw [Below.heap_alloc _ _ _ (by simp <;> omega)]; rw [Below.heap_alloc _ _ _ (by simp <;> omega)]; exact new_at (by simp)) (by rw [Below.heap_alloc _ _ _ (by simp <;> omega)]; exact new_at (by simp)) (new_at (by simp))
theorem Hs9 {n S0 : Nat} {ks : List PK} {x : Nat → Value} {w : World} (hall : ∀ i,i < n → (at_ ks i).sem S0 x (x i) w) (i : Nat) (h3 : decide (i < n) = true:=by kernel_rfl) : (at_ ks i).sem S0 x (x i) w:=hall i (of_decide_eq_true h3)
theorem Rk9 {P : Program} {Q : Exit → Act → World → Prop} {c : Code} {a : Act} {w : World} (h : ∀ K : Act → World → Prop,Hid (∀ a w,Q .normal a w → K a w) → c.wp P (Exit.then K Q) a w) : c.wp P Q a w:=region_k fun K hK=>h K (Lib.hid hK)
end Go.Proofs.YtifgcjpgelbelaaGreatDoor
namespace Go.Proofs.YtifgcjpgelbelaaGreatDoor
open Go.RowKit
def ZRs (W : World) (g : Nat) (l : List (Nat × Int)) : Prop:=∀ j q,l[j]? = some q → ∃ A n c,W.cell? ⟨g,j * 2,none⟩ = some (.bool (decide (q.2 < 0))) ∧ W.cell? ⟨g,j * 2 + 1,none⟩ = some (.slice A n c) ∧ Zr W (.agg #[.bool (decide (q.2 < 0)),.slice A n c]) q.1 q.2
theorem ZRs.below {W w' : World} {g : Nat} {l : List (Nat × Int)} (h : ZRs W g l) (hb : Below W.heap.size W w') : ZRs w' g l:=fun j q hj=>by
 obtain ⟨A,n,c,h1,h2,h3⟩:=h j q hj
 exact ⟨A,n,c,(hb.cell (cell_lt h1)).trans h1,(hb.cell (cell_lt h2)).trans h2,h3.below hb⟩
theorem Reg.zr {B : Nat} {W0 w : World} {G : List Nat} (h : Reg B W0 G w) {v : Value} {k : Nat} {z : Int} (hr : Zr W0 v k z) : Zr w v k z:=by
 obtain ⟨A,l,c,e,h2,h3⟩:=hr
 exact ⟨A,l,c,e,h.rr h2,h3⟩
theorem run_loadAt {w : World} {g o : Nat} {u v : Value} (h0 : w.cell? ⟨g,o,none⟩ = some u) (h1 : w.cell? ⟨g,o + 1,none⟩ = some v) : (Instr.loadAt 24 (.pointer (some ⟨g,o,none⟩))).run Tryz.prog w = .ok (.agg #[u,v]) w:=by go_simp
section
variable {C : World → Prop} {S0 B : Nat} {ks : List PK} {a0 : Act} {i : Nat} {N : Nat} {W0 : World} {P : Program} {T : TypeId} {pos : String} {af : Array Edge} {gu : Option (Nat × Bool)}
end
theorem each_none {w : World} {fn : Value} {A : Option Addr} {c : Nat} : Calls Tryz.prog 96 #[fn,.slice A 0 c] w fun e w'=>(∃ v,e = .returned v) ∧ w' = w:=by
 go_enter Tryz.func96,Tryz.ntmps96
 go_wp2_with fail
 go_loopw [8] (fun i wr=>i = .int .i64 0 ∧ wr = w) (fun _ _=>0)
 case atStart=>exact ⟨rfl,rfl⟩
 case round =>
   obtain ⟨rfl,rfl⟩:=hrel
   go_wp2
   go_end0
   exact ⟨⟨_,rfl⟩,rfl⟩
theorem z_add0 {w : World} {A : Option Addr} {c : Nat} : Calls Tryz.prog 47 #[.slice A 0 c] w (TellsZ w 1 0):=by
 have hmf : ∀ (fn : Fn) (first cap : Array Value) (w : World),(Instr.makeFunc fn first cap).run Tryz.prog w = .ok (.func fn first cap) w:=fun _ _ _ _=>rfl
 obtain ⟨w1,hw1⟩ : ∃ w1,w1 = w.alloc (Obj.cells #[Value.bool false,Value.slice none 0 0] 24):=⟨_,rfl⟩
 have b1 : Below w.heap.size w w1:=by rw [hw1]; exact bal (Below.refl _ _) _
 have s1 : w1.heap.size = w.heap.size + 1:=by rw [hw1]; simp
 have K1 : w1.heap[w.heap.size]? = some (Obj.cells #[Value.bool false,Value.slice none 0 0] 24):=by rw [hw1]; exact heap_alloc_new _ _
 have HW1:=Lib.hid hw1
 have HK1:=Lib.hid K1
 have HB1:=Lib.hid b1
 have HS1:=Lib.hid s1
 clear hw1 K1 b1 s1
 go_enter Tryz.func47,Tryz.ntmps47
 go_wp2_with fail
 rw [← HW1.out]
 refine each_none.mono ?_
 rintro e w2 ⟨⟨v,rfl⟩,rfl⟩
 have hg : (w1.alloc (Obj.cells #[Value.slice none 0 0,Value.bool false] 91)).heap[w.heap.size + 1]? = some (.cells #[.slice none 0 0,.bool false] 91 (0,0)):=by rw [← HS1.out]; exact heap_alloc_new _ _
 obtain ⟨q1,q2,_,_⟩:=cell_of_two hg
 have hb:=bal (Below.refl w1.heap.size w1) (Obj.cells #[Value.slice none 0 0,Value.bool false] 91)
 have K2:=(hb.block w.heap.size (by have:=HS1.out; omega)).trans HK1.out
 have HK2:=Lib.hid K2
 have HB2:=Lib.hid (HB1.out.trans (hb.mono (by have:=HS1.out; omega)))
 have hz:=hb.size
 have hz1:=HS1.out
 have HZ:=Lib.hid (show w.heap.size + 1 ≤ (w1.alloc (Obj.cells #[Value.slice none 0 0,Value.bool false] 91)).heap.size by omega)
 have HT:=Lib.hid (told_any (b:=false) (rr_nil (w1.alloc (Obj.cells #[Value.slice none 0 0,Value.bool false] 91))) (fun _=>rfl))
 clear hg hb K2 hz hz1
 go_wp2_with fail
 refine HT.out.mono ?_
 rintro e w4 ⟨A4,k4,c4,rfl,h4,z4,hb4⟩
 have K4:=(hb4.block w.heap.size (by have:=HZ.out; omega)).trans HK2.out
 have bw4:=bstep HB2.out hb4
 obtain ⟨m1,m2,m3,m4⟩:=cell_of_two K4
 obtain ⟨n1,n2,n3⟩:=ar (a':=.bool false) (b':=.slice A4 k4 c4) K4 (fun d h=>by cases h) (fun d h=>by cases h) h4
 clear hb4 K4 q1 q2
 go_wp2
 refine bodyPost_ret (v:=.agg #[.bool false,.slice A4 k4 c4]) (by simp [results,Tryz.results47,go_sem,n1,n2]) rfl ?_
 exact ⟨_,rfl,⟨A4,k4,c4,rfl,n3,by decide⟩,(bw4.setCell (Nat.le_refl _) _).setCell (Nat.le_refl _) _⟩
theorem z_mul0 {w : World} {A : Option Addr} {c : Nat} : Calls Tryz.prog 49 #[.slice A 0 c] w (TellsZ w 1 1):=by
 have hmf : ∀ (fn : Fn) (first cap : Array Value) (w : World),(Instr.makeFunc fn first cap).run Tryz.prog w = .ok (.func fn first cap) w:=fun _ _ _ _=>rfl
 obtain ⟨w1,hw1⟩ : ∃ w1,w1 = w.alloc (Obj.cells #[Value.bool false,Value.slice none 0 0] 24):=⟨_,rfl⟩
 have b1 : Below w.heap.size w w1:=by rw [hw1]; exact bal (Below.refl _ _) _
 have s1 : w1.heap.size = w.heap.size + 1:=by rw [hw1]; simp
 have K1 : w1.heap[w.heap.size]? = some (Obj.cells #[Value.bool false,Value.slice none 0 0] 24):=by rw [hw1]; exact heap_alloc_new _ _
 have HW1:=Lib.hid hw1
 have HK1:=Lib.hid K1
 clear hw1 K1
 go_enter Tryz.func49,Tryz.ntmps49
 go_wp2_with fail
 rw [← HW1.out]
 have hone:=rr_lit1 w1
 rw [s1] at hone
 have hsg:=signed_s false hone
 rw [show sgn 1 false = false from rfl] at hsg
 refine hsg.mono ?_
 clear hsg hone
 rintro e w5 ⟨A5,k5,c5,rfl,h5,_,b5⟩
 have HB5:=Lib.hid (bstep (bal (Below.refl w1.heap.size w1) _) b5)
 have hz5 : w1.heap.size ≤ w5.heap.size:=HB5.out.size
 have H5:=Lib.hid h5
 clear b5 h5
 go_wp2_with fail
 refine each_none.mono ?_
 rintro e w2 ⟨⟨v,rfl⟩,rfl⟩
 have hg : (w5.alloc (Obj.cells #[Value.slice A5 k5 c5,Value.bool false] 91)).heap[w5.heap.size]? = some (.cells #[.slice A5 k5 c5,.bool false] 91 (0,0)):=heap_alloc_new _ _
 obtain ⟨q1,q2,_,_⟩:=cell_of_two hg
 have hb:=bal HB5.out (Obj.cells #[Value.slice A5 k5 c5,Value.bool false] 91)
 have K2:=(hb.block w.heap.size (by omega)).trans HK1.out
 have bw2:=b1.trans (hb.mono (by omega))
 have hz:=hb.size
 have HK2:=Lib.hid K2
 have HT:=Lib.hid (told_any (b:=false) (H5.out.alloc (Obj.cells #[Value.slice A5 k5 c5,Value.bool false] 91)) (fun h=>by cases h))
 clear hb hg HK1 K2
 go_wp2_with fail
 refine HT.out.mono ?_
 rintro e w4 ⟨A4,k4,c4,rfl,h4,z4,hb4⟩
 have K4:=(hb4.block w.heap.size (by omega)).trans HK2.out
 have bw4:=bstep bw2 hb4
 obtain ⟨m1,m2,m3,m4⟩:=cell_of_two K4
 obtain ⟨n1,n2,n3⟩:=ar (a':=.bool false) (b':=.slice A4 k4 c4) K4 (fun d h=>by cases h) (fun d h=>by cases h) h4
 clear hb4 K4 q1 q2
 go_wp2
 refine bodyPost_ret (v:=.agg #[.bool false,.slice A4 k4 c4]) (by simp [results,Tryz.results49,go_sem,n1,n2]) rfl ?_
 exact ⟨_,rfl,⟨A4,k4,c4,rfl,n3,by decide⟩,(bw4.setCell (Nat.le_refl _) _).setCell (Nat.le_refl _) _⟩
def AtR (W : World) (g o k : Nat) (z : Int) : Prop:=∃ A l c,W.cell? ⟨g,o,none⟩ = some (.bool (decide (z < 0))) ∧ W.cell? ⟨g,o + 1,none⟩ = some (.slice A l c) ∧ Zr W (.agg #[.bool (decide (z < 0)),.slice A l c]) k z
theorem AtR.below {W w' : World} {g o k : Nat} {z : Int} (h : AtR W g o k z) (hb : Below W.heap.size W w') : AtR w' g o k z:=by
 obtain ⟨A,l,c,h1,h2,h3⟩:=h
 exact ⟨A,l,c,(hb.cell (cell_lt h1)).trans h1,(hb.cell (cell_lt h2)).trans h2,h3.below hb⟩
theorem Reg.atR {B : Nat} {W0 w : World} {G : List Nat} (h : Reg B W0 G w) {g o k : Nat} {z : Int} (hg : g ∉ G) (hl : AtR W0 g o k z) : AtR w g o k z:=by
 obtain ⟨A,l,c,h1,h2,h3⟩:=hl
 exact ⟨A,l,c,((h.cell (cell_lt h1) hg _).1).trans h1,((h.cell (cell_lt h2) hg _).1).trans h2,h.zr h3⟩
def Pr (W : World) (v : Value) (k : Nat) (x y : Int) : Prop:=∃ A l c A' l' c',v = .agg #[.bool (decide (x < 0)),.slice A l c,.bool (decide (y < 0)),.slice A' l' c'] ∧ (Rr W (.slice A l c) x.natAbs ∧ x.natAbs < 1000000000 ^ k) ∧ Rr W (.slice A' l' c') y.natAbs ∧ y.natAbs < 1000000000 ^ k
theorem Pr.below {W W' : World} {v : Value} {k : Nat} {x y : Int} (h : Pr W v k x y) (hb : Below W.heap.size W W') : Pr W' v k x y:=by
 obtain ⟨A,l,c,A',l',c',e,h1,h2,h3⟩:=h
 exact ⟨A,l,c,A',l',c',e,⟨h1.1.below hb,h1.2⟩,h2.below hb,h3⟩
theorem Pr.stored {W w' : World} {g : Nat} {v : Value} {k : Nat} {x y : Int} (h : Pr W v k x y) (hs : Stored g W w') : Pr w' v k x y:=by
 obtain ⟨A,l,c,A',l',c',e,h1,h2,h3⟩:=h
 exact ⟨A,l,c,A',l',c',e,⟨hs.rr h1.1,h1.2⟩,hs.rr h2,h3⟩
theorem Pr.mono {W : World} {v : Value} {j k : Nat} {x y : Int} (h : Pr W v j x y) (hk : j ≤ k) : Pr W v k x y:=by
 obtain ⟨A,l,c,A',l',c',e,h1,h2,h3⟩:=h
 exact ⟨A,l,c,A',l',c',e,⟨h1.1,Nat.lt_of_lt_of_le h1.2 (pow_le hk)⟩,h2,Nat.lt_of_lt_of_le h3 (pow_le hk)⟩
theorem size_four {cs : Array Value} (h : cs.size = 4) : ∃ a b c d,cs = #[a,b,c,d]:=by
 obtain ⟨l⟩:=cs
 match l,h with
 | [a,b,c,d],_=>exact ⟨a,b,c,d,rfl⟩
 | [],h=>simp at h
 | [_],h=>simp at h
 | [_,_],h=>simp at h
 | [_,_,_],h=>simp at h
 | _ :: _ :: _ :: _ :: _ :: _,h=>simp at h
theorem Reg.four {B : Nat} {W0 w : World} {G : List Nat} (h : Reg B W0 G w) {g : Nat} (hg : g ∈ G) {cs0 : Array Value} (h0 : Holds_ W0 g cs0) (hs : cs0.size = 4) : ∃ a b c d,Holds_ w g #[a,b,c,d]:=by
 obtain ⟨cs1,cs,h1,h2,h3⟩:=h.held g hg
 have e:=h0.size_eq h1
 obtain ⟨a,b,c,d,rfl⟩:=size_four (cs:=cs) (by rw [h3,← e,hs])
 exact ⟨a,b,c,d,h2⟩
theorem Holds_.four {w : World} {g : Nat} {a b c d : Value} (h : Holds_ w g #[a,b,c,d]) : w.cell? ⟨g,0,none⟩ = some a ∧ w.cell? ⟨g,1,none⟩ = some b ∧ w.cell? ⟨g,2,none⟩ = some c ∧ w.cell? ⟨g,3,none⟩ = some d ∧ w.frozen? ⟨g,0,none⟩ = false ∧ w.frozen? ⟨g,1,none⟩ = false ∧ w.frozen? ⟨g,2,none⟩ = false ∧ w.frozen? ⟨g,3,none⟩ = false:=by
 obtain ⟨⟨T,h1⟩,_⟩:=h
 refine ⟨?_,?_,?_,?_,?_,?_,?_,?_⟩ <;> simp [World.cell?,World.frozen?,h1]
section
variable {P : Program} {w w' : World} {ρ : Operand → Value} {d : Option Tmp} {T : TypeId} {pos : String} {af : Array Edge} {gu : Option (Nat × Bool)}
end
section
variable {G : List Nat} {C : World → Prop} {S0 B : Nat} {ks : List PK} {a0 : Act} {i : Nat} {N : Nat} {W0 : World} {P : Program} {T : TypeId} {pos : String} {af : Array Edge} {gu : Option (Nat × Bool)}
theorem st_loadB {d t g o k : Nat} {z : Int} (hl : AtR W0 g o k z)  (hp : a0.eval (.tmp t) = .pointer (some ⟨g,o,none⟩))   (hi : at_ ks i = kZ k z) (hG : g ∉ G:=by simp only [List.mem_singleton]; omega) (hN : a0.tmps.size = N:=by assumption) (hd : decide (d < N) = true:=by kernel_rfl) :
   PkStep Tryz.prog (Reg B W0 G) S0 ks a0 i { dst:=some d,op:=.load 24 (.tmp t),type:=T,pos:=pos,after:=af,guard:=gu } []:=by
 intro w x hC K hK
 obtain ⟨A,m,c,h1,h2,h3⟩:=hC.atR hG hl
 refine da (v:=.agg #[.bool (decide (z < 0)),.slice A m c]) (w':=w) rfl hN hd ?_ (hK _ _ ?_ ?_)
 · exact ex_load hp (run_loadAt h1 h2)
 · rw [hi]; exact Below.refl _ _
 · rw [hi]; exact h3
end
theorem wp_region_res {P : Program} {id : Nat} {draw : Bool} {ops : Array Oper} {Q : Exit → Act → World → Prop} {a0 : Act} {W0 : World} {N : Nat} (hN : a0.tmps.size = N) (B g : Nat) {cs : Array Value} (hg : Holds_ W0 g cs) (hBg : B ≤ g) (ks : List PK) (es : List (List (Nat × Option Tmp))) (all : List (Nat × Option Tmp)) (bs : List (Nat × Bool)) (sk : List Nat) (hm : P.follows .mixedOrders = true) (hchk : growOK ops (fun i => !sk.contains i) es all N = true) (hk : codesOK ks es = true) (hgu : guardOK ops bs sk = true) (hbs : bs.map (fun p => at_ ks p.1) = bs.map fun p => kIs (.bool p.2)) (hsk : sk.map (at_ ks) = sk.map fun _ => kIs undef)
   (hb : blks ks = [g]) (hB0 : B ≤ W0.heap.size) (hs : PkFrom P ops es sk (Reg B W0 [g]) W0.heap.size ks a0 0) (hend : ∀ w' x,Reg B W0 [g] w' → (∀ i,i < ops.size → (at_ ks i).sem W0.heap.size x (x i) w') → Q .normal (putE x a0 all) w') : (Code.region id ops draw).wp P Q a0 W0:=by
 subst hN
 refine am (hm:=hm) (hchk:=hchk) (hk:=hk) (hgu:=hgu) (hbs:=hbs) (hsk:=hsk) B ks es all bs sk ?_ ?_ hB0 ?_ ?_ ?_
 · rw [hb]; exact List.nodup_cons.2 ⟨by simp,List.nodup_nil⟩
 · rw [hb]; intro g' hg'; rw [List.mem_singleton.1 hg']; exact hBg
 · rw [hb]; intro g' hg'; rw [List.mem_singleton.1 hg']; exact ⟨_,hg⟩
 · rw [hb]; exact hs
 · rw [hb]; exact hend
theorem Wr9 {P : Program} {id : Nat} {draw : Bool} {ops : Array Oper} {next : Act → World → Prop} {Q : Exit → Act → World → Prop} {a0 : Act} {w W0 : World} {N g : Nat} {cs : Array Value} (bb : Below w.heap.size w W0) (hg : Holds_ W0 g cs) (ks : List PK) (el : List (List Nat)) (sl : List Nat) (bs : List (Nat × Bool)) (sk : List Nat) (Hs9 : PkFrom P ops (Ez9 sl el) sk (Reg w.heap.size W0 [g]) W0.heap.size ks a0 0) (hend : ∀ w' x a1, Reg w.heap.size W0 [g] w' → (∀ i, i < ops.size → (at_ ks i).sem W0.heap.size x (x i) w') → a1 = putE x a0 (Az9 0 sl) → a1.tmps.size = N → a1.defers = [] → Below w.heap.size w w' → next a1 w')
   (hN : a0.tmps.size = N:=by assumption) (hD : a0.defers = []:=by assumption) (hBg : w.heap.size ≤ g:=by omega) (hm : P.follows .mixedOrders = true:=by kernel_rfl) (hchk : growOK ops (fun i=>!sk.contains i) (Ez9 sl el) (Az9 0 sl) N = true:=by kernel_rfl) (hk : codesOK ks (Ez9 sl el) = true:=by kernel_rfl) (hgu : guardOK ops bs sk = true:=by kernel_rfl) (hbs : bs.map (fun p=>at_ ks p.1) = bs.map fun p=>kIs (.bool p.2):=by kernel_rfl) (hsk : sk.map (at_ ks) = sk.map fun _=>kIs undef:=by kernel_rfl) (hb : blks ks = [g]:=by kernel_rfl) : (Code.region id ops draw).wp P (Exit.then next Q) a0 W0 :=
 wp_region_res hN w.heap.size g hg hBg ks (Ez9 sl el) (Az9 0 sl) bs sk hm hchk hk hgu hbs hsk hb bb.size Hs9 fun w' x h1 h2=>then_n (hend w' x _ h1 h2 rfl (size_behind rfl hN) (defers_behind rfl hD) (bb.trans h1.below))
def TellsP (w : World) (k : Nat) (x y : Int) (e : Ending) (w' : World) : Prop:=∃ v,e = .returned v ∧ Pr w' v k x y ∧ Below w.heap.size w w'
theorem Reg.at0 {B : Nat} {W0 w : World} (h : Reg B W0 [] w) {g o k : Nat} {z : Int} (hl : AtR W0 g o k z) : AtR w g o k z:=h.atR (by simp) hl
section
variable {G : List Nat} {S0 B : Nat} {ks : List PK} {a0 : Act} {i : Nat} {N : Nat} {W0 : World} {T : TypeId} {pos : String} {af : Array Edge} {gu : Option (Nat × Bool)}
theorem run_loadS {w : World} {g o : Nat} {s : Bool} (h0 : w.cell? ⟨g,o,none⟩ = some (.bool s)) : (Instr.loadAt 4 (.pointer (some ⟨g,o,none⟩))).run Tryz.prog w = .ok (.bool s) w:=by go_simp
theorem aq {d t j g o k : Nat} {z : Int} {s : Bool} (hl : AtR W0 g o k z) (hs : decide (z < 0) = s)     (hj : at_ ks j = kIs (.pointer (some ⟨g,o,none⟩))) (hi : at_ ks i = kIs (.bool s)) (hG : g ∉ G:=by simp) (hN : a0.tmps.size = N:=by assumption) (hd : decide (d < N) = true:=by kernel_rfl) (ht : decide (t < N) = true:=by kernel_rfl) :
   PkStep Tryz.prog (Reg B W0 G) S0 ks a0 i { dst:=some d,op:=.load 4 (.tmp t),type:=T,pos:=pos,after:=af,guard:=gu } [(j,some t)]:=by
 intro w x hC
 refine bc _ fun hdeps K hK=>?_
 have g1:=hdeps (j,some t) (by simp)
 rw [hj] at g1
 have g2 : x j = .pointer (some ⟨g,o,none⟩):=g1
 have e1 : (putE x a0 [(j,some t)]).eval (.tmp t) = x j:=ap _ _ (by rw [hN]; exact of_decide_eq_true ht) (by simp [slotAt])
 obtain ⟨A,m,c,h1,_,_⟩:=hC.atR hG hl
 rw [hs] at h1
 refine da (v:=.bool s) (w':=w) rfl (by rw [aw,hN]) hd (ex_load (e1.trans g2) (run_loadS h1)) (hK _ _ ?_ ?_)
 · rw [hi]; exact Below.refl _ _
 · rw [hi]; rfl
end
section
variable {C : World → Prop} {S0 : Nat} {ks : List PK} {a0 : Act} {i : Nat} {N : Nat} {P : Program} {T : TypeId} {pos : String} {af : Array Edge} {gu : Option (Nat × Bool)} {ats : Array TypeId}
end
def AtP (W : World) (g o k : Nat) (x y : Int) : Prop:=∃ A l c A' l' c',W.cell? ⟨g,o,none⟩ = some (.bool (decide (x < 0))) ∧ W.cell? ⟨g,o + 1,none⟩ = some (.slice A l c) ∧ W.cell? ⟨g,o + 2,none⟩ = some (.bool (decide (y < 0))) ∧ W.cell? ⟨g,o + 3,none⟩ = some (.slice A' l' c') ∧ Pr W (.agg #[.bool (decide (x < 0)),.slice A l c,.bool (decide (y < 0)),.slice A' l' c']) k x y
theorem AtP.below {W w' : World} {g o k : Nat} {x y : Int} (h : AtP W g o k x y) (hb : Below W.heap.size W w') : AtP w' g o k x y:=by
 obtain ⟨A,l,c,A',l',c',h1,h2,h3,h4,h5⟩:=h
 exact ⟨A,l,c,A',l',c',(hb.cell (cell_lt h1)).trans h1,(hb.cell (cell_lt h2)).trans h2,(hb.cell (cell_lt h3)).trans h3,(hb.cell (cell_lt h4)).trans h4,h5.below hb⟩
theorem AtP.stored {W w' : World} {g j o k : Nat} {x y : Int} (h : AtP W g o k x y) (hs : Stored j W w') (hne : g ≠ j) : AtP w' g o k x y:=by
 obtain ⟨A,l,c,A',l',c',h1,h2,h3,h4,h5⟩:=h
 exact ⟨A,l,c,A',l',c',(World.cell?_of_block (hs.other _ hne)).trans h1,(World.cell?_of_block (hs.other _ hne)).trans h2,(World.cell?_of_block (hs.other _ hne)).trans h3,(World.cell?_of_block (hs.other _ hne)).trans h4,h5.stored hs⟩
def PRs (W : World) (g : Nat) (l : List (Nat × Int × Int)) : Prop:=∀ j q,l[j]? = some q → AtP W g (j * 4) q.1 q.2.1 q.2.2
theorem PRs.below {W w' : World} {g : Nat} {l : List (Nat × Int × Int)} (h : PRs W g l) (hb : Below W.heap.size W w') : PRs w' g l:=fun j q hj=>(h j q hj).below hb
theorem Pr.parts {W : World} {v : Value} {k : Nat} {x y : Int} (h : Pr W v k x y) : ∃ A l c A' l' c',v = .agg #[.bool (decide (x < 0)),.slice A l c,.bool (decide (y < 0)),.slice A' l' c'] ∧ Pr W (.agg #[.bool (decide (x < 0)),.slice A l c,.bool (decide (y < 0)),.slice A' l' c']) k x y:=by
 obtain ⟨A,l,c,A',l',c',rfl,h⟩:=h
 exact ⟨A,l,c,A',l',c',rfl,A,l,c,A',l',c',rfl,h⟩
theorem Pr.two {W : World} {A A' : Option Addr} {l c l' c' k : Nat} {x y : Int} (h : Pr W (.agg #[.bool (decide (x < 0)),.slice A l c,.bool (decide (y < 0)),.slice A' l' c']) k x y) : Zr W (.agg #[.bool (decide (x < 0)),.slice A l c]) k x ∧ Zr W (.agg #[.bool (decide (y < 0)),.slice A' l' c']) k y:=by
 obtain ⟨B,m,d,B',m',d',e,h1,h2⟩:=h
 injection e with e; injection e with e
 injection e with _ e; injection e with e1 e; injection e with _ e; injection e with e2 _
 injection e1 with a b c; subst a; subst b; subst c
 injection e2 with a b c; subst a; subst b; subst c
 exact ⟨⟨_,_,_,rfl,h1⟩,⟨_,_,_,rfl,h2⟩⟩
theorem AtP.two {W : World} {g k : Nat} {x y : Int} (h : AtP W g 0 k x y) : AtR W g 0 k x ∧ AtR W g 2 k y:=by
 obtain ⟨A,l,c,A',l',c',h1,h2,h3,h4,h5⟩:=h
 exact ⟨⟨A,l,c,h1,h2,h5.two.1⟩,⟨A',l',c',h3,h4,h5.two.2⟩⟩
section
variable {G : List Nat} {S0 B : Nat} {ks : List PK} {a0 : Act} {i : Nat} {N : Nat} {W0 : World} {T : TypeId} {pos : String} {af : Array Edge} {gu : Option (Nat × Bool)}
end
def kResZ (g k : Nat) (z : Int) : PK:=.cell g (isZ k z) (fun _ _ _ ⟨A,l,c,h1,h2⟩ hb=>⟨A,l,c,h1,h2.below hb⟩) (fun _ _ _ _ ⟨A,l,c,h1,h2⟩ hs=>⟨A,l,c,h1,h2.stored hs⟩)
theorem Holds_.two' {w : World} {g : Nat} {a b : Value} (h : Holds_ w g #[a,b]) : w.cell? ⟨g,0,none⟩ = some a ∧ w.cell? ⟨g,1,none⟩ = some b ∧ w.frozen? ⟨g,0,none⟩ = false ∧ w.frozen? ⟨g,1,none⟩ = false:=h.two
theorem LocR.atR {W : World} {g k : Nat} {z : Int} (h : LocR W g k z) : AtR W g 0 k z:=by
 obtain ⟨A,l,c,h1,h2⟩:=h
 obtain ⟨m1,m2,_,_⟩:=h1.two
 exact ⟨A,l,c,m1,m2,h2⟩
theorem put_locG {S0 : Nat} {x : Nat → Value} {v : Value} {w : World} {e k : Nat} {z : Int} (h : (kPutZ e k z).sem S0 x v w) : ∃ g,x e = .pointer (some ⟨g,0,none⟩) ∧ S0 ≤ g ∧ LocR w g k z:=by
 obtain ⟨g,cs,h1,hg,h2,A,l,c,rfl,h3⟩:=h
 exact ⟨g,h1,hg,A,l,c,h2,h3⟩
section
variable {G : List Nat} {S0 B : Nat} {ks : List PK} {a0 : Act} {i : Nat} {N : Nat} {W0 : World} {T : TypeId} {pos : String} {af : Array Edge} {gu : Option (Nat × Bool)}
theorem dj {t u j g k : Nat} {z : Int} {a b : Value} (h0 : Holds_ W0 g #[a,b])  (hp : a0.eval (.tmp t) = .pointer (some ⟨g,0,none⟩))    (hj : at_ ks j = kZ k z) (hi : at_ ks i = kResZ g k z) (hG : g ∈ G:=by simp) (hN : a0.tmps.size = N:=by assumption) (hu : decide (u < N) = true:=by kernel_rfl) (htu : decide (t = u) = false:=by kernel_rfl) :
   PkStep Tryz.prog (Reg B W0 G) S0 ks a0 i { dst:=none,op:=.store 24 (.tmp t) (.tmp u),type:=T,pos:=pos,after:=af,guard:=gu } [(j,some u)]:=by
 intro w x hC
 refine bc _ fun hdeps K hK=>?_
 have g1:=hdeps (j,some u) (by simp)
 rw [hj] at g1
 obtain ⟨A,l,c,hx,hr,hlt⟩:=(show Zr w (x j) k z from g1)
 have htu' : t ≠ u:=of_decide_eq_false htu
 have e1 : (putE x a0 [(j,some u)]).eval (.tmp t) = .pointer (some ⟨g,0,none⟩):=(putE_old _ _ (by simp [slotAt,Ne.symm htu'])).trans hp
 have e2 : (putE x a0 [(j,some u)]).eval (.tmp u) = x j:=ap _ _ (by rw [hN]; exact of_decide_eq_true hu) (by simp [slotAt])
 obtain ⟨u0,v0,hg⟩:=hC.two hG h0
 obtain ⟨m1,m2,m3,m4⟩:=hg.two
 have hst:=stored_put2 hg (noDig_bool (decide (z < 0))) (noDig_slice A l c)
 refine wp_skp (w':=put2 w g (.bool (decide (z < 0))) (.slice A l c)) rfl ?_ (hK _ _ ?_ ?_)
 · exact ex_store e1 (e2.trans hx) (run_store2 m3 m4 m1 m2)
 · rw [hi]; exact hst
 · rw [hi]; exact ⟨_,aj hg (noDig_bool _) (noDig_slice _ _ _),A,l,c,rfl,A,l,c,rfl,hst.rr hr,hlt⟩
end
theorem cw {fn : Func} {R : Ending → World → Prop} {a : Act} {w : World} {t g k : Nat} {z : Int} {cs : Array Value} (hres : fn.results = #[.cell t 24 ]) (hd : a.defers = []) (hp : a.eval (.tmp t) = .pointer (some ⟨g,0,none⟩)) (hg : Holds_ w g cs) (hP : isZ k z cs w) (hR : ∀ v,Zr w v k z → R (.returned v) w) : bodyPost Tryz.prog fn R .ret a w:=by
 obtain ⟨A,l,c,rfl,h⟩:=hP
 obtain ⟨m1,m2,m3,m4⟩:=hg.two'
 refine bodyPost_ret (v:=.agg #[.bool (decide (z < 0)),.slice A l c]) ?_ hd (hR _ h)
 have hp' : a.tmps[t]?.getD undef = .pointer (some ⟨g,0,none⟩):=by
   rw [← Array.getD_eq_getD_getElem?]; exact hp
 simp [results,hres,go_sem,hp',m1,m2]
theorem wp_region_pkE {P : Program} {id : Nat} {draw : Bool} {ops : Array Oper} {Q : Exit → Act → World → Prop} {a0 : Act} {W0 : World} (B : Nat) (ks : List PK) (es : List (List (Nat × Option Tmp))) (all : List (Nat × Option Tmp)) (bs : List (Nat × Bool)) (sk : List Nat) (hm : P.follows .mixedOrders = true) (hchk : growOK ops (fun i => !sk.contains i) es all a0.tmps.size = true) (hk : codesOK ks es = true) (hgu : guardOK ops bs sk = true) (hbs : bs.map (fun p => at_ ks p.1) = bs.map fun p => kIs (.bool p.2)) (hsk : sk.map (at_ ks) = sk.map fun _ => kIs undef)
   (hn : (blks ks).Nodup) (hB : ∀ g ∈ blks ks,B ≤ g) (hB0 : B ≤ W0.heap.size) (ht : ∀ g ∈ blks ks,∃ cs,Holds_ W0 g cs)
   (E : (Nat → Bool) → World → Prop) (hE0 : ∀ W',W' = W0 ∨ W' = W0.drew → E (fun i=>decide (ops.size ≤ i)) W') (hEs : ∀ i,i < ops.size → ∀ L x v w w',E L w → Reg B W0 (blks ks) w → L i = false → (sk.contains i = false → ∀ p ∈ es.getD i [],L p.1 = true) → (at_ ks i).move W0.heap.size x v w w' → E (upd L i true) w')
   (hs : ∀ i o,ops[i]? = some o → sk.contains i = false → ∀ L,L i = false → PkStep P (fun w=>Reg B W0 (blks ks) w ∧ E L w) W0.heap.size ks a0 i o (es.getD i [])) (hend : ∀ w' x,Reg B W0 (blks ks) w' → (∀ i,i < ops.size → (at_ ks i).sem W0.heap.size x (x i) w') → Q .normal (putE x a0 all) w') : (Code.region id ops draw).wp P Q a0 W0:=by
 have hchk':=hchk
 unfold growOK at hchk'
 simp only [Bool.and_eq_true,decide_eq_true_eq] at hchk'
 have hall:=hchk'.1.1.1
 have hops:=hchk'.2
 have hlt : ∀ i o,ops[i]? = some o → ∀ p ∈ es.getD i [],p.1 < ops.size:=fun i o ho p hp=>by
   have hl : i < ops.size:=(Array.getElem?_eq_some_iff.1 ho).1; have h:=List.all_eq_true.1 hops i (List.mem_range.2 hl); rw [ho] at h; simp only [Bool.and_eq_true] at h; have:=List.all_eq_true.1 h.1.2 p hp; simp only [Bool.and_eq_true,decide_eq_true_eq] at this; exact this.1.2
 have hinto : ∀ i e,(at_ ks i).into = some e → i < ks.length ∧ (at_ ks e).isFresh = true ∧ (∃ p ∈ es.getD i [],p.1 = e) ∧ ∀ j,i ≠ j → (at_ ks j).into ≠ some e:=fun i e hi=>by
   have hl : i < ks.length:=by
     rcases Nat.lt_or_ge i ks.length with h | h
     · exact h
     · unfold at_ at hi; rw [List.getD_eq_getElem?_getD,List.getElem?_eq_none h] at hi; simp [kAny,PK.into] at hi
   have h:=List.all_eq_true.1 hk i (List.mem_range.2 hl); rw [hi] at h; simp only [Bool.and_eq_true] at h; obtain ⟨⟨⟨h1,h2⟩,h3⟩,_⟩:=h; refine ⟨hl,h1,?_,fun j hj hj2=>?_⟩
   · obtain ⟨p,hp,hh⟩:=List.any_eq_true.1 h2; exact ⟨p,hp,of_decide_eq_true hh⟩
   · have hlj : j < ks.length:=by
       rcases Nat.lt_or_ge j ks.length with h | h
       · exact h
       · unfold at_ at hj2; rw [List.getD_eq_getElem?_getD,List.getElem?_eq_none h] at hj2; simp [kAny,PK.into] at hj2
     have:=List.all_eq_true.1 h3 j (List.mem_range.2 hlj); simp [hj,hj2] at this
 have href : ∀ i e,(at_ ks i).ref = some e → ∃ p ∈ es.getD i [],p.1 = e:=fun i e hi=>by
   have hl : i < ks.length:=by
     rcases Nat.lt_or_ge i ks.length with h | h
     · exact h
     · unfold at_ at hi; rw [List.getD_eq_getElem?_getD,List.getElem?_eq_none h] at hi; simp [kAny,PK.ref] at hi
   have h:=List.all_eq_true.1 hk i (List.mem_range.2 hl); simp only [Bool.and_eq_true,hi] at h; obtain ⟨p,hp,hh⟩:=List.any_eq_true.1 h.2; exact ⟨p,hp,of_decide_eq_true hh⟩
 obtain ⟨Inv,hInv⟩ : ∃ Inv : (Nat → Bool) → (Nat → Value) → World → Prop,Inv = fun L x w=>Reg B W0 (blks ks) w ∧ (∀ i,i < ops.size → L i = true → (at_ ks i).sem W0.heap.size x (x i) w) ∧ (∀ i j,i < ops.size → j < ops.size → i ≠ j → L i = true → L j = true → (at_ ks i).isNew = true → (at_ ks j).isNew = true → blockOf (x i) ≠ blockOf (x j)) ∧ ∀ i e,i < ops.size → L i = true → (at_ ks i).ref = some e → e < ops.size ∧ L e = true:=⟨_,rfl⟩
 have hgo : ∀ i,i < ops.size → ∀ L x w,Inv L x w → L i = false → (∀ e,(at_ ks i).ref = some e → e < ops.size ∧ L e = true) → ∀ v w',(at_ ks i).move W0.heap.size x v w w' → (at_ ks i).sem W0.heap.size x v w' → Inv (upd L i true) (upd x i v) w':=by
   intro i hil L x w hI hi hin v w' h1 h2; rw [hInv] at hI ⊢
   have hintoi : ∀ j e,j < ops.size → L j = true → (at_ ks j).ref = some e → e ≠ i:=fun j e hj hLj he hei=>by
     have:=(hI.2.2.2 j e hj hLj he).2; rw [hei,hi] at this; cases this
   have hintoii : ∀ e,(at_ ks i).ref = some e → e ≠ i:=fun e he hei=>by
     have:=(hin e he).2; rw [hei,hi] at this; cases this
   -- the class
   have hR : Reg B W0 (blks ks) w':=by
     cases e : at_ ks i with
     | p f k1 k2=>rw [e] at h1; exact hI.1.step hB0 h1
     | fresh n=>rw [e] at h1; exact hI.1.step hB0 h1.1
     | list n f k1 k2=>rw [e] at h1; exact hI.1.step hB0 h1.1
     | same e1=>rw [e] at h1; exact hI.1.step hB0 h1
     | cell g f k1 k2 =>
       rw [e] at h1; have hg : g ∈ blks ks:=blk_mem (i:=i) (by rw [e]; rfl); exact hI.1.store (.inl hg) (hB g hg) h1
     | put n f k1 k2 =>
       rw [e] at h1; obtain ⟨g,_,hg,hst⟩:=h1; exact hI.1.store (.inr hg) (by omega) hst
   have hkeep : ∀ j,j < ops.size → L j = true → (at_ ks j).sem W0.heap.size x (x j) w':=fun j hj hLj=>by
     have hij : i ≠ j:=fun hh=>by rw [hh,hLj] at hi; cases hi
     have hsem:=hI.2.1 j hj hLj
     cases e : at_ ks i with
     | p f k1 k2=>rw [e] at h1; exact PK.step hsem h1
     | fresh n=>rw [e] at h1; exact PK.step hsem h1.1
     | list n f k1 k2=>rw [e] at h1; exact PK.step hsem h1.1
     | same e1=>rw [e] at h1; exact PK.step hsem h1
     | cell g f k1 k2 =>
       rw [e] at h1
       have hgl : g < W0.heap.size:=by
         obtain ⟨cs,hh⟩:=ht g (blk_mem (i:=i) (by rw [e]; rfl)); exact hh.lt
       refine PK.store hsem h1 (fun hb=>hij (blk_inj hn (i:=i) (j:=j) (g:=g) (by rw [e]; rfl) hb)) (fun e2 he2 hx=>?_) fun hf hnw hbl=>?_
       rotate_left 1
       · cases ej : at_ ks j with
         | list n3 f3 k3 k4 =>
           rw [ej] at hsem; obtain ⟨g',q1,q2,_⟩:=hsem; rw [q1] at hbl; injection hbl with hbl; have : g' = g:=hbl; omega
         | fresh n=>rw [ej] at hf; cases hf
         | _=>rw [ej] at hnw; cases hnw
       cases ej : at_ ks j with
       | put e3 f3 k3 k4 =>
         rw [ej] at hsem he2; obtain ⟨g',_,q1,q2,_⟩:=hsem; injection he2 with he2; subst he2; rw [q1] at hx; injection hx with hx; injection hx with hx; injection hx with hx; omega
       | _=>rw [ej] at he2; cases he2
     | put e1 f k1 k2 =>
       rw [e] at h1; obtain ⟨g,hxe,hg,hst⟩:=h1; obtain ⟨_,q1,_,q3⟩:=hinto i e1 (by rw [e]; rfl); obtain ⟨he1l,hLe1⟩:=hin e1 (by rw [e]; rfl); refine PK.store hsem hst (fun hb=>?_) (fun e2 he2 hx=>?_) fun hf hnw hbl=>?_
       · obtain ⟨cs,hh⟩:=ht g (blk_mem hb); have:=hh.lt; omega
       rotate_left 1
       · have hne : e1 ≠ j:=fun hh=>by rw [← hh,q1] at hf; cases hf
         exact hI.2.2.1 e1 j he1l hj hne hLe1 hLj (PK.new_of_fresh q1) hnw (by rw [hxe,hbl]; rfl)
       ·
         have hne : e1 ≠ e2:=fun hh=>q3 j hij (hh ▸ he2); have q4:=hinto j e2 he2; have q5:=hI.2.2.2 j e2 hj hLj (PK.ref_of_into he2); exact hI.2.2.1 e1 e2 he1l q5.1 hne hLe1 q5.2 (PK.new_of_fresh q1) (PK.new_of_fresh q4.2.1) (by rw [hxe,hx])
   refine ⟨hR,fun j hj hLj=>?_,fun j k hj hk' hjk hLj hLk hfj hfk=>?_,fun j e hj hLj he=>?_⟩
   · by_cases e : j = i
     · subst e; rw [bj]; exact PK.sem_upd h2 hintoii
     · rw [au _ _ e] at hLj; rw [au _ _ e]; exact PK.sem_upd (hkeep j hj hLj) fun e2 he2=>hintoi j e2 hj hLj he2
   · have old : ∀ k,k < ops.size → L k = true → (at_ ks k).isNew = true → ∃ g',blockOf (x k) = some g' ∧ g' < w.heap.size:=fun k hkl hLk hfk=>by
       have hsem:=hI.2.1 k hkl hLk
       cases e2 : at_ ks k with
       | fresh m =>
         rw [e2] at hsem; obtain ⟨g',cs,q1,_,q3,_⟩:=hsem; exact ⟨g',by rw [q1]; rfl,q3.lt⟩
       | list m f3 k3 k4 =>
         rw [e2] at hsem; obtain ⟨g',q1,_,q3,_⟩:=hsem; exact ⟨g',by rw [q1]; rfl,q3⟩
       | _=>rw [e2] at hfk; cases hfk
     have new : (at_ ks i).isNew = true → ∃ g',blockOf v = some g' ∧ w.heap.size ≤ g':=fun hfi=>by
       cases e1 : at_ ks i with
       | fresh n =>
         rw [e1] at h1; obtain ⟨_,g,hg,hgs⟩:=h1; exact ⟨g,by rw [hg]; rfl,hgs⟩
       | list n f3 k3 k4 =>
         rw [e1] at h1; obtain ⟨_,g,hg,hgs⟩:=h1; exact ⟨g,by rw [hg]; rfl,hgs⟩
       | _=>rw [e1] at hfi; cases hfi
     have fr : ∀ k,k ≠ i → k < ops.size → L k = true → (at_ ks k).isNew = true → (at_ ks i).isNew = true → blockOf v ≠ blockOf (x k):=fun k _ hkl hLk hfk hfi hv=>by
       obtain ⟨g',q1,q2⟩:=old k hkl hLk hfk; obtain ⟨g,q3,q4⟩:=new hfi; rw [q1,q3] at hv; injection hv with hv; omega
     by_cases e : j = i
     · subst e; rw [bj,au _ _ (fun h=>hjk h.symm)]; rw [au _ _ (fun h=>hjk h.symm)] at hLk; exact fr k (fun h=>hjk h.symm) hk' hLk hfk hfj
     · rw [au _ _ e] at hLj ⊢
       by_cases e' : k = i
       · subst e'; rw [bj]; exact fun h=>fr j e hj hLj hfj hfk h.symm
       · rw [au _ _ e'] at hLk ⊢; exact hI.2.2.1 j k hj hk' hjk hLj hLk hfj hfk
   · by_cases e' : j = i
     · subst e'; refine ⟨(hin e he).1,?_⟩; rw [au _ _ (hintoii e he)]; exact (hin e he).2
     · rw [au _ _ e'] at hLj; have q:=hI.2.2.2 j e hj hLj he; refine ⟨q.1,?_⟩; rw [au _ _ (hintoi j e hj hLj he)]; exact q.2
 refine wp_region_grow hm (fun L x w=>Inv L x w ∧ E L w) (fun i=>!sk.contains i) es all hchk ?_ (fun i o g ho hg L x w hI hL=>?_) (fun i hil hWi L x w hI hi=>?_) (fun i o ho hW L x w hI hi hd K hK=>?_) (fun L x w' hL hI=>?_)
 · intro W' hW'; refine ⟨?_,hE0 W' hW'⟩; rw [hInv]; exact ⟨Reg.start ht hW',fun i hi h=>absurd (of_decide_eq_true h) (by omega),fun i _ hi _ _ h=>absurd (of_decide_eq_true h) (by omega),fun i _ hi h=>absurd (of_decide_eq_true h) (by omega)⟩
 · replace hI:=hI.1; rw [hInv] at hI; have hil : i < ops.size:=(Array.getElem?_eq_some_iff.1 ho).1; have h:=List.all_eq_true.1 hgu i (List.mem_range.2 hil); rw [ho] at h; simp only [hg,Bool.or_eq_true] at h; rcases h with h | h
   · obtain ⟨p,hp,hh⟩:=List.any_eq_true.1 h; simp only [Bool.and_eq_true,decide_eq_true_eq,beq_iff_eq] at hh; obtain ⟨⟨h1,h2⟩,h3⟩:=hh; have hs1:=hI.2.1 g.1 h2 hL
     have hk1 : at_ ks g.1 = kIs (.bool p.2):=by
       rw [← h1]; exact List.map_inj_left.1 hbs p hp
     rw [hk1] at hs1; exact .inl ⟨p.2,hs1,h3⟩
   · simp only [Bool.and_eq_true,decide_eq_true_eq] at h; obtain ⟨⟨h1,h2⟩,h3⟩:=h; have hs1:=hI.2.1 g.1 h1 hL; have hk1 : at_ ks g.1 = kIs undef:=List.map_inj_left.1 hsk g.1 (by simpa using h2); rw [hk1] at hs1; exact .inr ⟨hs1,by rw [h3]; rfl⟩
 · have hm : i ∈ sk:=by simpa using hWi
   have hk1 : at_ ks i = kIs undef:=List.map_inj_left.1 hsk i hm; have hmv : (at_ ks i).move W0.heap.size x undef w w:=by rw [hk1]; exact Below.refl _ _
   have hI1:=hI.1; rw [hInv] at hI1; exact ⟨hgo i hil L x w hI.1 hi (fun e he=>by rw [hk1] at he; cases he) undef w hmv (by rw [hk1]; rfl),hEs i hil L x undef w w hI.2 hI1.1 hi (fun h=>absurd (show sk.contains i = true by simpa using hm) (by rw [h]; decide)) hmv⟩
 · have hil : i < ops.size:=(Array.getElem?_eq_some_iff.1 ho).1; have hI':=hI.1; rw [hInv] at hI'; refine deps_use (es.getD i []) (fun p hp=>hI'.2.1 p.1 (hlt i o ho p hp) (hd p hp)) (hs i o ho (by simpa using hW) L hi w x ⟨hI'.1,hI.2⟩) K fun v w' h1 h2=>hK v w' ⟨hgo i hil L x w hI.1 hi (fun e he=>?_) v w' h1 h2,hEs i hil L x v w w' hI.2 hI'.1 hi (fun _=>hd) h1⟩; obtain ⟨p,hp,hpe⟩:=href i e he; exact ⟨hpe ▸ hlt i o ho p hp,hpe ▸ hd p hp⟩
 · replace hI:=hI.1; rw [hInv] at hI; exact hend w' x hI.1 fun i hi=>hI.2.1 i hi (hL i hi)
def waits (es : List (List (Nat × Option Tmp))) (sk : List Nat) (n s j : Nat) : Bool:=decide (j = s) || decide (s < n) && !sk.contains s && (es.getD s []).any fun p=>decide (p.1 = j) || decide (p.1 < n) && !sk.contains p.1 && (es.getD p.1 []).any fun q=>decide (q.1 = j)
theorem waits_not {es : List (List (Nat × Option Tmp))} {sk : List Nat} {n s j : Nat} {L : Nat → Bool} (h : waits es sk n s j = true) (hj : L j = false) (hd : ∀ i,i < n → sk.contains i = false → L i = true → ∀ p ∈ es.getD i [],L p.1 = true) : L s = false:=by
 cases hs : L s with
 | false=>rfl
 | true =>
   exfalso
   unfold waits at h; rw [Bool.or_eq_true] at h; rcases h with h | h
   · rw [of_decide_eq_true h] at hj; rw [hj] at hs; cases hs
   · rw [Bool.and_eq_true,Bool.and_eq_true] at h; obtain ⟨⟨h1,h2⟩,h⟩:=h; obtain ⟨p,hp,h⟩:=List.any_eq_true.1 h; have hp1:=hd s (of_decide_eq_true h1) (by simpa using h2) hs p hp; rw [Bool.or_eq_true] at h; rcases h with h | h
     · rw [of_decide_eq_true h,hj] at hp1; cases hp1
     · rw [Bool.and_eq_true,Bool.and_eq_true] at h; obtain ⟨⟨h3,h4⟩,h⟩:=h; obtain ⟨q,hq,h⟩:=List.any_eq_true.1 h; have hq1:=hd p.1 (of_decide_eq_true h3) (by simpa using h4) hp1 q hq; rw [of_decide_eq_true h,hj] at hq1; cases hq1
def PkFromL (P : Program) (ops : Array Oper) (es : List (List (Nat × Option Tmp))) (sk : List Nat) (B : Nat) (W0 : World) (g : Nat) (ks : List PK) (a0 : Act) (js : List Nat) (i : Nat) : Prop :=
 ∀ k o,i ≤ k → ops[k]? = some o → sk.contains k = false → PkStep P (fun w=>Reg B W0 [g] w ∧ (js.contains k = true → w.heap[g]? = W0.heap[g]?)) W0.heap.size ks a0 k o (es.getD k [])
section
variable {P : Program} {ops : Array Oper} {es : List (List (Nat × Option Tmp))} {sk : List Nat} {B : Nat} {W0 : World} {g : Nat} {ks : List PK} {a0 : Act} {js : List Nat} {i : Nat} {o : Oper} {e : List (Nat × Option Tmp)}
theorem ax (ho : ops[i]? = some o) (he : es.getD i [] = e) (h : PkStep P (Reg B W0 [g]) W0.heap.size ks a0 i o e) (hr : PkFromL P ops es sk B W0 g ks a0 js (i + 1)) : PkFromL P ops es sk B W0 g ks a0 js i:=fun k o' hk ho' hs=>by
 by_cases e1 : k = i
 · subst e1; rw [ho] at ho'; injection ho' with ho'; rw [← ho',he]; exact fun w x hC=>h w x hC.1
 · exact hr k o' (by omega) ho' hs
theorem pkl_keep (ho : ops[i]? = some o) (he : es.getD i [] = e) (hj : js.contains i = true) (h : PkStep P (fun w=>Reg B W0 [g] w ∧ w.heap[g]? = W0.heap[g]?) W0.heap.size ks a0 i o e) (hr : PkFromL P ops es sk B W0 g ks a0 js (i + 1)) : PkFromL P ops es sk B W0 g ks a0 js i:=fun k o' hk ho' hs=>by
 by_cases e1 : k = i
 · subst e1; rw [ho] at ho'; injection ho' with ho'; rw [← ho',he]; exact fun w x hC=>h w x ⟨hC.1,hC.2 hj⟩
 · exact hr k o' (by omega) ho' hs
theorem pkl_nil (h : ops.size = i) : PkFromL P ops es sk B W0 g ks a0 js i:=fun k o hk ho _=>by
 have:=(Array.getElem?_eq_some_iff.1 ho).1
 omega
end
theorem wp_region_keep {P : Program} {id : Nat} {draw : Bool} {ops : Array Oper} {Q : Exit → Act → World → Prop} {a0 : Act} {W0 : World} {N : Nat}  (B g : Nat) {cs : Array Value} (hg : Holds_ W0 g cs) (hBg : B ≤ g) (s : Nat) (js : List Nat) (ks : List PK) (es : List (List (Nat × Option Tmp))) (all : List (Nat × Option Tmp)) (bs : List (Nat × Bool)) (sk : List Nat)      
    (hsg : (at_ ks s).blk = some g)  (hB0 : B ≤ W0.heap.size) (hs : PkFromL P ops es sk B W0 g ks a0 js 0) (hend : ∀ w' x,Reg B W0 [g] w' → (∀ i,i < ops.size → (at_ ks i).sem W0.heap.size x (x i) w') → Q .normal (putE x a0 all) w') (hN : a0.tmps.size = N:=by assumption) (hm : P.follows .mixedOrders = true:=by kernel_rfl) (hchk : growOK ops (fun i=>!sk.contains i) es all N = true:=by kernel_rfl) (hk : codesOK ks es = true:=by kernel_rfl) (hgu : guardOK ops bs sk = true:=by kernel_rfl) (hbs : bs.map (fun p=>at_ ks p.1) = bs.map fun p=>kIs (.bool p.2):=by kernel_rfl) (hsk : sk.map (at_ ks) = sk.map fun _=>kIs undef:=by kernel_rfl) (hb : blks ks = [g]:=by kernel_rfl) (hjs : js.all (waits es sk ops.size s) = true:=by kernel_rfl) : (Code.region id ops draw).wp P Q a0 W0:=by
 subst hN
 have hn : (blks ks).Nodup:=by rw [hb]; exact List.nodup_cons.2 ⟨by simp,List.nodup_nil⟩
 have hops:=hchk
 unfold growOK at hops
 simp only [Bool.and_eq_true,decide_eq_true_eq] at hops
 have hlt : ∀ i,i < ops.size → ∀ p ∈ es.getD i [],p.1 < ops.size:=fun i hi p hp=>by
   have h:=List.all_eq_true.1 hops.2 i (List.mem_range.2 hi); rw [Array.getElem?_eq_getElem hi] at h; simp only [Bool.and_eq_true] at h; have:=List.all_eq_true.1 h.1.2 p hp; simp only [Bool.and_eq_true,decide_eq_true_eq] at this; exact this.1.2
 refine wp_region_pkE B ks es all bs sk hm hchk hk hgu hbs hsk hn ?_ hB0 ?_ (fun L w=>(L s = false → w.heap[g]? = W0.heap[g]?) ∧ ∀ i,i < ops.size → sk.contains i = false → L i = true → ∀ p ∈ es.getD i [],L p.1 = true) ?_ ?_ ?_ ?_
 · rw [hb]; intro g' hg'; rw [List.mem_singleton.1 hg']; exact hBg
 · rw [hb]; intro g' hg'; rw [List.mem_singleton.1 hg']; exact ⟨_,hg⟩
 · intro W' hW'; refine ⟨fun _=>?_,fun i hi _ h=>absurd (of_decide_eq_true h) (by omega)⟩; rcases hW' with rfl | rfl <;> rfl
 · intro i hil L x v w w' hE hR hi hd hmv; refine ⟨fun hL=>?_,fun k hk1 hk2 hk3 p hp=>?_⟩
   · have hne : s ≠ i:=fun h=>by rw [h,bj] at hL; cases hL
     rw [au _ _ hne] at hL; have hw:=hE.1 hL; have hgw : g < w.heap.size:=Nat.lt_of_lt_of_le hg.lt hR.below.size; refine Eq.trans ?_ hw
     cases e : at_ ks i with
     | p f k1 k2=>rw [e] at hmv; exact hmv.block g hgw
     | fresh n=>rw [e] at hmv; exact hmv.1.block g hgw
     | list n f k1 k2=>rw [e] at hmv; exact hmv.1.block g hgw
     | same e1=>rw [e] at hmv; exact hmv.block g hgw
     | cell g' f k1 k2 =>
       rw [e] at hmv; refine hmv.other g fun h=>hne (blk_inj hn (i:=s) (j:=i) (g:=g) hsg ?_); rw [e,h]; rfl
     | put n f k1 k2 =>
       rw [e] at hmv; obtain ⟨g',_,hg',hst⟩:=hmv; refine hst.other g fun h=>?_; have:=hg.lt; omega
   · by_cases e : k = i
     · subst e
       by_cases e2 : p.1 = k
       · rw [e2,bj]
       · rw [au _ _ e2]; exact hd hk2 p hp
     · rw [au _ _ e] at hk3
       by_cases e2 : p.1 = i
       · rw [e2,bj]
       · rw [au _ _ e2]; exact hE.2 k hk1 hk2 hk3 p hp
 · intro i o ho hsi L hi w x hC; rw [hb] at hC; exact hs i o (Nat.zero_le _) ho hsi w x ⟨hC.1,fun hj=>hC.2.1 (waits_not (List.all_eq_true.1 hjs i (by simpa using hj)) hi hC.2.2)⟩
 · rw [hb]; exact hend
theorem keep_atR {B : Nat} {W0 w : World} {g0 : Nat} (hC : Reg B W0 [g0] w ∧ w.heap[g0]? = W0.heap[g0]?) {o k : Nat} {z : Int} (hl : AtR W0 g0 o k z) : AtR w g0 o k z:=by
 obtain ⟨A,l,c,h1,h2,h3⟩:=hl
 exact ⟨A,l,c,(World.cell?_of_block hC.2).trans h1,(World.cell?_of_block hC.2).trans h2,hC.1.zr h3⟩
section
variable {S0 B : Nat} {ks : List PK} {a0 : Act} {i : Nat} {N : Nat} {W0 : World} {T : TypeId} {pos : String} {af : Array Edge} {gu : Option (Nat × Bool)}
end
theorem Reg.holdsG {B : Nat} {W0 w : World} {G : List Nat} (h : Reg B W0 G w) {g : Nat} (hg : g ∉ G) {cs : Array Value} (hh : Holds_ W0 g cs) : Holds_ w g cs:=by
 have hl:=hh.lt
 obtain ⟨⟨T,e⟩,hn⟩:=hh
 exact ⟨⟨T,(h.old g hl hg).trans e⟩,hn⟩
theorem Pr.tight {W : World} {v : Value} {j k : Nat} {x y : Int} (h : Pr W v j x y) (hx : x.natAbs < 1000000000 ^ k) (hy : y.natAbs < 1000000000 ^ k) : Pr W v k x y:=by
 obtain ⟨A,l,c,A',l',c',e,h1,h2,_⟩:=h
 exact ⟨A,l,c,A',l',c',e,⟨h1.1,hx⟩,h2,hy⟩
theorem AtR.tight {W : World} {g o j k : Nat} {x : Int} (h : AtR W g o j x) (hx : x.natAbs < 1000000000 ^ k) : AtR W g o k x:=by
 obtain ⟨A,l,c,h1,h2,A',l',c',e,h3,_⟩:=h
 exact ⟨A,l,c,h1,h2,A',l',c',e,h3,hx⟩
theorem PRs.lt {W : World} {g : Nat} {l : List (Nat × Int × Int)} (h : PRs W g l) {j : Nat} {q : Nat × Int × Int} (hj : l[j]? = some q) : q.2.1.natAbs < 1000000000 ^ q.1 ∧ q.2.2.natAbs < 1000000000 ^ q.1:=by
 obtain ⟨_,_,_,_,_,_,_,_,_,_,_,_,_,_,_,_,_,h5,_,h7⟩:=h j q hj
 exact ⟨h5.2,h7⟩
section
variable {C : World → Prop} {S0 : Nat} {ks : List PK} {a0 : Act} {i : Nat} {N : Nat} {P : Program} {T : TypeId} {pos : String} {af : Array Edge} {gu : Option (Nat × Bool)} {ats : Array TypeId}
end
def SaysB (w : World) (b : Bool) (e : Ending) (w' : World) : Prop:=e = .returned (.bool b) ∧ Below w.heap.size w w'
def LensP (W : World) (g : Nat) (l : List (Nat × Nat)) : Prop:=∀ j q,l[j]? = some q → (∃ A c,W.cell? ⟨g,j * 4 + 1,none⟩ = some (.slice A q.1 c)) ∧ ∃ A c,W.cell? ⟨g,j * 4 + 3,none⟩ = some (.slice A q.2 c)
theorem LensP.below {W w' : World} {g : Nat} {l : List (Nat × Nat)} (h : LensP W g l) (hb : Below W.heap.size W w') : LensP w' g l:=fun j q hj=>by
 obtain ⟨⟨A,c,h1⟩,A',c',h2⟩:=h j q hj
 exact ⟨⟨A,c,(hb.cell (cell_lt h1)).trans h1⟩,A',c',(hb.cell (cell_lt h2)).trans h2⟩
def MaxL (w : World) : Prop:=∃ m : Int,w.cell? ⟨0,0,none⟩ = some (.int .i64 m)
theorem MaxL.below {W w' : World} (h : MaxL W) (hb : Below W.heap.size W w') : MaxL w':=by
 obtain ⟨m,h⟩:=h
 exact ⟨m,(hb.cell (cell_lt h)).trans h⟩
section
variable {C : World → Prop} {S0 : Nat} {ks : List PK} {a0 : Act} {i : Nat} {N : Nat} {P : Program} {T : TypeId} {pos : String} {af : Array Edge} {gu : Option (Nat × Bool)} {ats : Array TypeId}
end
def Zc (W : World) (v : Value) (k : Nat) (z : Int) : Prop:=∃ (b : Bool) (A : Option Addr) (c : Nat) (xs : List Nat),v = .agg #[.bool b,.slice A xs.length c] ∧ Row W A (u32s xs) ∧ small 4294967296 xs ∧ xs.length ≤ 1100 ∧ val xs < 1000000000 ^ k ∧ zOf (val xs) b = z
theorem Zc.below {W w' : World} {v : Value} {k : Nat} {z : Int} (h : Zc W v k z) (hb : Below W.heap.size W w') : Zc w' v k z:=by
 obtain ⟨b,A,c,xs,h1,h2,h3⟩:=h
 exact ⟨b,A,c,xs,h1,h2.below hb,h3⟩
theorem zOf_natAbs (z : Int) : zOf z.natAbs (decide (z < 0)) = z:=by
 unfold zOf
 by_cases h : z < 0
 · rw [decide_eq_true h,if_pos rfl]; omega
 · rw [decide_eq_false h,if_neg (by decide)]; omega
theorem Zr.zc {W : World} {v : Value} {k : Nat} {z : Int} (h : Zr W v k z) (hk : k ≤ 1100) : Zc W v k z:=by
 obtain ⟨A,l,c,rfl,h1,h2⟩:=h
 obtain ⟨xs,rfl,hr,hx,hv,hl⟩:=fi h1 h2
 exact ⟨_,A,c,xs,rfl,hr,fun d hd=>Nat.lt_trans (hx.1 d hd) (by decide),Nat.le_trans hl hk,by rw [hv]; exact h2,by rw [hv,zOf_natAbs]⟩
theorem r2_norm {w : World} {v : Value} {k : Nat} {z : Int} (h : Zc w v k z) (hk : k ≤ 2000) : Calls Tryz.prog 101 #[v] w (TellsZ w k z):=by
 obtain ⟨b,A,c,xs,rfl,hr,hs,hl,hv,rfl⟩:=h
 have hof:=fun (W : World) (hW : Below w.heap.size w W)=>ref2of_any (c:=c) b (hr.below hW) hs hl hv hk
 have HOF:=Lib.hid hof
 obtain ⟨n,hn⟩ : ∃ n,n = xs.length:=⟨_,rfl⟩
 obtain ⟨m,hm⟩ : ∃ m,m = val xs:=⟨_,rfl⟩
 rw [← hn] at HOF ⊢
 rw [← hm] at HOF ⊢
 have HM:=Lib.hid (show m < 1000000000 ^ k from hm ▸ hv)
 have hfin : ∀ (e : Ending) (w' : World),RetInt w m (sgn m b) e w' → TellsZ w k (zOf m b) e w':=fun e w' h=>dq (by rw [ci]; exact HM.out) (by rw [ci,gg]; exact h)
 have HFIN:=Lib.hid hfin
 clear hof hr hs hl hv hn hm hfin
 refine Calls.mono ?_ HFIN.out
 obtain ⟨s,hs⟩ : ∃ s,s = sgn m b:=⟨_,rfl⟩
 rw [← hs] at HOF ⊢
 clear hs HFIN HM
 go_enter Tryz.func101,Tryz.ntmps101
 go_wp2_with fail
 refine (HOF.out _ (bal (bal (Below.refl _ _) _) _)).mono ?_
 rintro e w1 ⟨A1,k1,c1,rfl,h1,h2,hb⟩
 have K1:=(hb.block (w.heap.size + 1) (by simp)).trans (new_at (by simp))
 obtain ⟨m1,m2,m3,m4⟩:=cell_of_two K1
 have hb1:=bstep (bal (bal (Below.refl w.heap.size w) _) _) hb
 have hts:=fun (b' : Bool)=>ar (a':=.bool b') (b':=.slice A1 k1 c1) K1 (fun d h=>by cases h) (fun d h=>by cases h) h1
 have HTS:=Lib.hid hts
 have H2:=Lib.hid h2
 clear hts hb h1 h2 K1
 go_wp2
 obtain ⟨n1,n2,n3⟩:=HTS.out s
 refine bodyPost_ret (v:=.agg #[.bool s,.slice A1 k1 c1]) (by simp [results,Tryz.results101,go_sem,n1,n2]) rfl ?_
 exact ⟨A1,k1,c1,rfl,n3,H2.out,(hb1.setCell (by simp) _).setCell (by simp) _⟩
theorem vr_div {w : World} {A1 A2 : Option Addr} {k1 c1 k2 c2 n1 n2 N : Nat} (h1 : Rr w (.slice A1 k1 c1) n1) (h2 : Rr w (.slice A2 k2 c2) n2) (hn1 : n1 < 1000000000 ^ N) (hn2 : n2 < 1000000000 ^ N) (hN : N ≤ 1100) (h0 : 0 < n2) :
   Calls Tryz.prog 110 #[.slice A1 k1 c1,.slice A2 k2 c2] w (RetD w (n1 / n2) (n1 % n2)):=by
 obtain ⟨xs,rfl,r1,x1,rfl,l1⟩:=fi h1 hn1
 obtain ⟨ys,rfl,r2,x2,rfl,l2⟩:=fi h2 hn2
 exact refDiv_yes r1 r2 (fun d hd=>Nat.lt_trans (x1.1 d hd) (by decide)) (fun d hd=>Nat.lt_trans (x2.1 d hd) (by decide)) (by omega) (by omega) hn1 hn2 (by omega) h0
def IntsC (W : World) (g : Nat) (L : List (Nat × Bool)) : Prop:=∀ j p,L[j]? = some p → ∃ A c xs,W.cell? ⟨g,j * 2,none⟩ = some (.bool p.2) ∧ W.cell? ⟨g,j * 2 + 1,none⟩ = some (.slice A (List.length xs) c) ∧ Row W A (u32s xs) ∧ small 4294967296 xs ∧ xs.length ≤ 1100 ∧ val xs = p.1
theorem IntsC.below {W w' : World} {g : Nat} {L : List (Nat × Bool)} (h : IntsC W g L) (hb : Below W.heap.size W w') : IntsC w' g L:=fun j p hp=>by
 obtain ⟨A,c,xs,h1,h2,h3,h4⟩:=h j p hp
 exact ⟨A,c,xs,(hb.cell (cell_lt h1)).trans h1,(hb.cell (cell_lt h2)).trans h2,h3.below hb,h4⟩
def kRow (z : Int) : PK:=.p (fun v w=>Rr w v z.natAbs) (fun _ _ _ h hb=>h.below hb) (fun _ _ _ _ h hs=>hs.rr h)
theorem run_loadRow {w : World} {g o : Nat} {A : Option Addr} {l c : Nat} (h0 : w.cell? ⟨g,o,none⟩ = some (.slice A l c)) : (Instr.loadAt 22 (.pointer (some ⟨g,o,none⟩))).run Tryz.prog w = .ok (.slice A l c) w:=by go_simp
section
variable {G : List Nat} {S0 B : Nat} {ks : List PK} {a0 : Act} {i : Nat} {N : Nat} {W0 : World} {T : TypeId} {pos : String} {af : Array Edge} {gu : Option (Nat × Bool)}
theorem ah {d t j g o k : Nat} {z : Int} (hl : AtR W0 g o k z)     (hj : at_ ks j = kIs (.pointer (some ⟨g,o + 1,none⟩))) (hi : at_ ks i = kRow z) (hG : g ∉ G:=by simp) (hN : a0.tmps.size = N:=by assumption) (hd : decide (d < N) = true:=by kernel_rfl) (ht : decide (t < N) = true:=by kernel_rfl) :
   PkStep Tryz.prog (Reg B W0 G) S0 ks a0 i { dst:=some d,op:=.load 22 (.tmp t),type:=T,pos:=pos,after:=af,guard:=gu } [(j,some t)]:=by
 intro w x hC
 refine bc _ fun hdeps K hK=>?_
 have g1:=hdeps (j,some t) (by simp)
 rw [hj] at g1
 have g2 : x j = .pointer (some ⟨g,o + 1,none⟩):=g1
 have e1 : (putE x a0 [(j,some t)]).eval (.tmp t) = x j:=ap _ _ (by rw [hN]; exact of_decide_eq_true ht) (by simp [slotAt])
 obtain ⟨A,m,c,_,h2,A',m',c',e,h3,_⟩:=hC.atR hG hl
 injection e with e; injection e with e; injection e with _ e; injection e with e _
 injection e with q1 q2 q3
 subst q1; subst q2; subst q3
 refine da (v:=.slice A m c) (w':=w) rfl (by rw [aw,hN]) hd (ex_load (e1.trans g2) (run_loadRow h2)) (hK _ _ ?_ ?_)
 · rw [hi]; exact Below.refl _ _
 · rw [hi]; exact h3
end
theorem r2_of {w : World} (n : Int) (h1 : -9223372036854775808 ≤ n) (h2 : n ≤ 9223372036854775807) (hn : n.natAbs < 1000000000 ^ 1) : Calls Tryz.prog 99 #[.int .i64 n] w (TellsZ w 1 n) :=
 (ref2Of_any n n.natAbs h1 h2 rfl).mono fun _ _ h=>dq hn h
theorem vals_take_succ {L : List Arow} {k : Nat} (hk : k < L.length) : (vals L).take (k + 1) = (vals L).take k ++ [val L[k].2.2]:=by
 rw [List.take_add_one,List.getElem?_eq_getElem (by simpa [vals] using hk)]
 simp only [vals,List.getElem_map,Option.toList_some]
theorem dval_bound {ds : List Nat} (h : dright ds) {N : Nat} (hv : dval ds < 1000000000 ^ N) : ds.length ≤ 9 * N:=by
 refine dright_length h ?_
 rw [Nat.pow_mul]; exact hv
theorem refAdd {w : World} {N : Nat} {A : Option Addr} {c : Nat} {L : List Arow} (hL : fu w A L) (hrow : ∀ r ∈ L,r.2.2.length ≤ 1100) (hacc : ∀ k,k ≤ L.length → ((vals L).take k).foldl (fun a b=>a + b) 0 < 1000000000 ^ N) (hN : N ≤ 10000) (hlen : L.length ≤ 100000) :
   Calls Tryz.prog 132 #[.slice A L.length c] w (RetNat w ((vals L).foldl (fun a b=>a + b) 0)):=by
 have HAcc:=Lib.hid hacc
 have HRow:=Lib.hid hrow
 clear hacc hrow
 obtain ⟨n,hn⟩ : ∃ n : Nat,n = L.length:=⟨_,rfl⟩
 have hn1 : n ≤ 100000:=by omega
 rw [← hn]
 have HN:=Lib.hid hn
 clear hn hlen
 go_enter Tryz.func132,Tryz.ntmps132
 go_wp2
 go_loopw [3, 4] (fun v iv wr => ∃ (k : Nat) (A' : Option Addr) (c' : Nat) (os : List Nat), k ≤ n ∧ iv = .int .i64 (k : Int) ∧ v = .slice A' os.length c' ∧ Row wr A' (u8s os) ∧ dright os ∧ Hid (dval os = ((vals L).take k).foldl (fun a b => a + b) 0) ∧ Below w.heap.size w wr)
   (fun _ iv _=>n - (intOf iv).toNat)
 case atStart=>exact ⟨0,none,0,[],Nat.zero_le _,rfl,rfl,Row.nil _ _,⟨ak _,.inl rfl⟩,by simp [Hid,dval],Below.refl _ _⟩
 case round =>
   obtain ⟨k,A',c',os,hk,rfl,rfl,hro,hos,HO,hb⟩:=hrel; have hsz:=hb.size; have hol : os.length ≤ 90000:=Nat.le_trans (dval_bound hos (by rw [HO.out]; exact HAcc.out k (by rw [← HN.out]; exact hk))) (by omega)
   by_cases hlt : k < n
   · have hkL : k < L.length:=by rw [← HN.out]; exact hlt
     obtain ⟨ad,rfl,hce⟩:=(hL.1.below hb).at_ (k:=k) (by rw [List.length_map]; exact hkL); rw [List.getElem_map] at hce; have hT:=vals_take_succ hkL
     obtain ⟨r,hr⟩ : ∃ r,r = L[k]:=⟨_,rfl⟩
     rw [← hr] at hce hT; have hrm : r ∈ L:=by rw [hr]; exact List.getElem_mem _
     have hrl:=HRow.out r hrm; obtain ⟨hrd0,hdsm,_⟩:=hL.2 _ hrm; obtain ⟨Ar,cr,ds⟩:=r; have hce' : wr.cell? (ad.add k) = some (.slice Ar ds.length cr):=hce; have hrd : Row wr Ar (u32s ds):=Row.below hrd0 hb; have hrl' : ds.length ≤ 1100:=hrl; have hread:=refRead (c:=cr) hrd hdsm hrl'; have HRD:=Lib.hid hread; have HT:=Lib.hid hT
     obtain ⟨M,hM1,hM2⟩ : ∃ M,M ≤ 1101 ∧ 1101 ≤ M:=⟨1101,Nat.le_refl _,Nat.le_refl _⟩
     have hdl : val ds < 1000000000 ^ M:=Nat.lt_of_lt_of_le (val_lt32 hdsm) (Nat.pow_le_pow_right (by decide) (by omega)); have HDL:=Lib.hid hdl; clear hr hce hrm hrl hread hT hkL hrd0 hdl
     go_wp2_with fail
     refine HRD.out.mono ?_; rintro e w2 ⟨A2,c2,es,rfl,hr2,hlc2,hes,hv2,hb2⟩; have hel : es.length ≤ 9 * M:=dval_bound hes (by rw [hv2]; exact HDL.out); have hpl:=refPlus (c1:=c') (c2:=c2) (hro.below hb2) hr2 hos.1 hes.1 (by omega) (by omega); have HPL:=Lib.hid hpl; have hb2':=hb.trans (hb2.mono hsz); have HV2:=Lib.hid hv2; clear hpl hb2 hb hv2 hrd hdsm
     go_wp2_with fail
     refine HPL.out.mono ?_; rintro e w3 ⟨A3,c3,fs,rfl,hr3,hlc3,hfs,hv3,hb3⟩; have hb3':=hb2'.trans (hb3.mono hb2'.size); have HV3:=Lib.hid hv3; clear hb3 hb2' hv3
     go_wp2
     go_roundw
     case rel=>exact ⟨k + 1,A3,c3,fs,by omega,by go_num,rfl,hr3,hfs,by
       show _ = _
       rw [HT.out,List.foldl_append,← HO.out,HV3.out,HV2.out]; rfl,hb3'⟩
     case measure=>simp [intOf]; omega
   · have hwr:=refWrite (c:=c') hro hos (by omega); have HW:=Lib.hid hwr; have hk' : k = n:=by omega
     have HV : Hid (dval os = (vals L).foldl (fun a b=>a + b) 0):=by
       show _ = _
       rw [HO.out,hk',HN.out,List.take_of_length_le (by simp [vals])]
     clear hwr
     go_wp2_with fail
     refine HW.out.mono ?_; rintro e w4 ⟨v,rfl,⟨rs,h1,h2,h3⟩,hb4⟩
     go_wp2
     go_ret
     exact ⟨_,rfl,⟨rs,h1,by rw [h2]; exact HV.out,h3.mono hsz⟩,hb.trans (hb4.mono hsz)⟩
def i64s (ds : List Nat) : List Value:=ds.map fun (d : Nat)=>Value.int .i64 (d : Int)
theorem i64s_length (ds : List Nat) : (i64s ds).length = ds.length:=by simp [i64s]
theorem info_int : (Tryz.prog.info? 3).map (fun i=>(i.zero,i.size,i.bytes)) = some (some (.int .i64 0),1,8):=by kernel_rfl
theorem own_zeros64 {w : World} {B n : Nat} {v : Value} (h : w.ownsRow B 3 1 v n (madeCells #[Value.int .i64 0] n).toList) : Own w B 3 v (i64s (List.replicate n 0)):=by
 rw [toList_madeCells_one,show List.replicate n (Value.int .i64 0) = i64s (List.replicate n 0) from by simp [i64s]] at h
 exact Own.mk_ h
theorem own_set64 {w : World} {B g n c : Nat} {ds : List Nat} (h : Own w B 3 (.slice (some ⟨g,0,none⟩) n c) (i64s ds)) (k d : Nat) :
   Own (w.setCell ⟨g,k,none⟩ (.int .i64 (d : Int))) B 3 (.slice (some ⟨g,0,none⟩) n c) (i64s (ds.set k d)):=by
 have hn:=h.lt.1
 have hh : w.ownsRow B 3 1 (.slice (some ⟨g,0,none⟩) n c) n (i64s ds):=by rw [hn]; rw [hn] at h; exact h
 have:=(hh.stored k (.int .i64 (d : Int))).1
 rw [show (i64s ds).set k (.int .i64 (d : Int)) = i64s (ds.set k d) from by simp [i64s,List.map_set]] at this
 exact Own.mk_ this
theorem own_cell64 {w : World} {B T g n c : Nat} {ds : List Nat} (h : Own w B T (.slice (some ⟨g,0,none⟩) n c) (i64s ds)) {k : Nat} (hk : k < ds.length) : w.cell? ⟨g,k,none⟩ = some (.int .i64 ((ds.getD k 0 : Nat) : Int)) ∧ w.frozen? ⟨g,k,none⟩ = false:=by
 obtain ⟨h1,h2⟩:=own_cell h (k:=k) (by rw [i64s_length]; exact hk)
 refine ⟨?_,h2⟩
 rw [h1]
 simp [i64s,List.getD_eq_getElem?_getD,List.getElem?_eq_getElem hk]
theorem dval_set {ps : List Nat} {k : Nat} (hk : k < ps.length) (d : Nat) : dval (ps.set k d) + 10 ^ k * ps.getD k 0 = dval ps + 10 ^ k * d:=by
 induction ps generalizing k with
 | nil=>simp at hk
 | cons p ps ih =>
   cases k with
   | zero=>simp [dval]; omega
   | succ k =>
     have:=ih (k:=k) (by simpa using hk); simp only [List.set_cons_succ,dval,List.getD_cons_succ,Nat.pow_succ]; rw [Nat.mul_comm (10 ^ k) 10,Nat.mul_assoc,Nat.mul_assoc]; omega
theorem dval_replicate (n : Nat) : dval (List.replicate n 0) = 0:=by
 induction n with
 | zero=>rfl
 | succ k ih=>rw [List.replicate_succ,dval,ih]
theorem dmul_step {ps ys : List Nat} {i j p x y V : Nat} (hk : i + j < ps.length) (hp : p = ps.getD (i + j) 0) (hy : ys.getD j 0 = y) (h : dval ps = V + x * 10 ^ i * dval (ys.take j)) :
   dval (ps.set (i + j) (p + x * y)) = V + x * 10 ^ i * dval (ys.take (j + 1)):=by
 have h1:=dval_set hk (p + x * y)
 rw [← hp,Nat.mul_add,h] at h1
 rw [bf,hy,Nat.mul_add (x * 10 ^ i),show x * 10 ^ i * (10 ^ j * y) = 10 ^ (i + j) * (x * y) from by rw [Nat.pow_add]; ac_rfl]
 omega
theorem take_set_succ {os : List Nat} {k d : Nat} (h : k < os.length) : (os.set k d).take (k + 1) = os.take k ++ [d]:=by
 rw [List.take_add_one,List.getElem?_set_self h,List.take_set_of_le (Nat.le_refl _)]; rfl
theorem dcarry_step {os ps : List Nat} {k cy s : Nat} (hk : k < os.length) (hs : ps.getD k 0 = s) (h : dval (os.take k) + 10 ^ k * cy = dval (ps.take k)) :
   dval ((os.set k ((cy + s) % 10)).take (k + 1)) + 10 ^ (k + 1) * ((cy + s) / 10) = dval (ps.take (k + 1)):=by
 rw [take_set_succ hk,be,bf,hs,List.length_take,Nat.min_eq_left (by omega),Nat.pow_succ,Nat.mul_assoc]
 simp only [dval,Nat.mul_zero,Nat.add_zero]
 have h2:=Nat.mod_add_div (cy + s) 10
 have h3 : 10 ^ k * (cy + s) = 10 ^ k * ((cy + s) % 10) + 10 ^ k * (10 * ((cy + s) / 10)):=by rw [← Nat.mul_add,h2]
 rw [Nat.mul_add] at h3
 omega
theorem getD_set_same {ps : List Nat} {k d : Nat} (hk : k < ps.length) : (ps.set k d).getD k 0 = d:=by
 rw [List.getD_eq_getElem?_getD,List.getElem?_set_self hk]; rfl
theorem getD_set_le {ps : List Nat} {k d M : Nat} (h : ∀ t,ps.getD t 0 ≤ M) (hd : d ≤ M) (t : Nat) : (ps.set k d).getD t 0 ≤ M:=by
 by_cases ht : t = k
 · subst ht; rcases Nat.lt_or_ge t ps.length with hl | hl
   · rw [getD_set_same hl]; exact hd
   · rw [List.set_eq_of_length_le hl]; exact h t
 · rw [cp _ (by omega)]; exact h t
theorem xy_le {x y : Nat} (hx : x < 10) (hy : y < 10) : x * y ≤ 81:=Nat.mul_le_mul (show x ≤ 9 by omega) (show y ≤ 9 by omega)
theorem refTimes {w : World} {A1 A2 : Option Addr} {c1 c2 : Nat} {xs ys : List Nat} (hr1 : Row w A1 (u8s xs)) (hr2 : Row w A2 (u8s ys)) (hx : small 10 xs) (hy : small 10 ys) (hl1 : xs.length ≤ 100000) (hl2 : ys.length ≤ 100000) :
   Calls Tryz.prog 135 #[.slice A1 xs.length c1,.slice A2 ys.length c2] w (RetDec w (dval xs * dval ys)):=by
 obtain ⟨i0,hi,hz0,hz1,hz2⟩:=info_parts info_int
 obtain ⟨j0,hj,hy0,hy1,hy2⟩:=info_parts gh
 obtain ⟨n,hn⟩ : ∃ n : Nat,n = xs.length:=⟨_,rfl⟩
 obtain ⟨m,hm⟩ : ∃ m : Nat,m = ys.length:=⟨_,rfl⟩
 have hn1 : n ≤ 100000:=by omega
 have hm1 : m ≤ 100000:=by omega
 rw [← hn,← hm]
 have HN:=Lib.hid hn
 have HM:=Lib.hid hm
 clear hn hm
 rcases Nat.eq_zero_or_pos n with rfl | hn0
 · go_enter Tryz.func135,Tryz.ntmps135
   go_wp2
   all_goals
     go_ret
     exact ⟨none,0,[],rfl,Row.nil _ _,Nat.le_refl _,⟨ak _,.inl rfl⟩,by rw [List.eq_nil_of_length_eq_zero HN.out.symm]; simp [dval],Below.refl _ _⟩
 rcases Nat.eq_zero_or_pos m with rfl | hm0
 · have hnz : ((n : Int) == 0) = false:=by rw [beq_eq_false_iff_ne]; omega
   go_enter Tryz.func135,Tryz.ntmps135
   go_wp2
   all_goals
     go_ret
     exact ⟨none,0,[],rfl,Row.nil _ _,Nat.le_refl _,⟨ak _,.inl rfl⟩,by rw [List.eq_nil_of_length_eq_zero (l:=ys) HM.out.symm]; simp [dval],Below.refl _ _⟩
 have hnz : ((n : Int) == 0) = false:=by rw [beq_eq_false_iff_ne]; omega
 have hmz : ((m : Int) == 0) = false:=by rw [beq_eq_false_iff_ne]; omega
 go_enter Tryz.func135,Tryz.ntmps135
 go_wp2_with (at_make; refine wpList_make_full _ rfl _ _ 140 rfl w.heap.size 3 i0 (.int .i64 0) 1 Tryz.underlying140 hi hz0 hz1 .i64 .i64 ((n : Int) + (m : Int)) ((n : Int) + (m : Int)) (n + m) rfl rfl (by omega) (by omega) (by rw [hz2]; omega) (by unfold maxLen; omega) (by simp) ?_)
 intro w1 hown hgrow
 have ho1:=own_zeros64 hown
 have hb1 : Below w.heap.size w w1:=(Below.refl _ _).grown hgrow (Nat.le_refl _) (fun k h=>by cases h)
 clear hown hgrow
 go_wp2_with fail
 go_loopw [6] (fun iv wr => ∃ (i : Nat) (ps : List Nat), i ≤ n ∧ iv = .int .i64 (i : Int) ∧ Own wr w.heap.size 3 (.slice (some ⟨w.heap.size, 0, none⟩) (n + m) (n + m)) (i64s ps) ∧ Hid (ps.length = n + m ∧ dval ps = dval (xs.take i) * dval ys ∧ ∀ t, ps.getD t 0 ≤ 81 * i) ∧ Below w.heap.size w wr)
   (fun iv _=>n - (intOf iv).toNat)
 case atStart=>exact ⟨0,List.replicate (n + m) 0,Nat.zero_le _,rfl,ho1,⟨by simp,by rw [dval_replicate]; simp [dval],fun t=>by
   rw [List.getD_eq_getElem?_getD,List.getElem?_replicate]
   split <;> simp⟩,hb1⟩
 case round =>
   obtain ⟨i,ps,hi1,rfl,hp,HO,hb⟩:=hrel; have hsz:=hb.size
   by_cases hlt : i < n
   · obtain ⟨ad1,x,rfl,hxc,hxx,hxm⟩:=(hr1.below hb).byte (k:=i) (by rw [← HN.out]; exact hlt); have hx10:=hx x hxm; clear hxm
     go_wp2_with fail
     obtain ⟨V,hV⟩ : ∃ V,V = dval ps:=⟨_,rfl⟩
     have HV:=Lib.hid hV
     obtain ⟨wo,hwo⟩ : ∃ wo : World,wo = wr:=⟨_,rfl⟩
     have hb0 : Below w.heap.size w wo:=hwo ▸ hb; have hp0 : Own wo w.heap.size 3 (.slice (some ⟨w.heap.size,0,none⟩) (n + m) (n + m)) (i64s ps):=hwo ▸ hp; rw [← hwo]; clear hwo hb hp hsz hxc hV
     go_loopw [7] (fun jv wr => ∃ (j : Nat) (qs : List Nat), j ≤ m ∧ jv = .int .i64 (j : Int) ∧ Own wr w.heap.size 3 (.slice (some ⟨w.heap.size, 0, none⟩) (n + m) (n + m)) (i64s qs) ∧ Hid (qs.length = n + m ∧ dval qs = V + x * 10 ^ i * dval (ys.take j) ∧ (∀ t, qs.getD t 0 ≤ 81 * i + 81) ∧ ∀ t, i + j ≤ t → qs.getD t 0 ≤ 81 * i) ∧ Below w.heap.size w wr)
       (fun jv _=>m - (intOf jv).toNat)
     case atStart=>exact ⟨0,ps,Nat.zero_le _,rfl,hp0,⟨HO.out.1,by rw [HV.out]; simp [dval],fun t=>Nat.le_trans (HO.out.2.2 t) (by omega),fun t _=>HO.out.2.2 t⟩,hb0⟩
     case round =>
       obtain ⟨j,qs,hj1,rfl,hq,HQ,hbq⟩:=hrel; have hszq:=hbq.size
       by_cases hjm : j < m
       · obtain ⟨ad2,y,rfl,hyc,hyy,hym⟩:=(hr2.below hbq).byte (k:=j) (by rw [← HM.out]; exact hjm); have hy10:=hy y hym; obtain ⟨ad1',x',e1,hxc,hxx',_⟩:=(hr1.below hbq).byte (k:=i) (by rw [← HN.out]; exact hlt); injection e1 with e1; subst e1; obtain rfl : x' = x:=hxx'.out.symm.trans hxx.out; obtain ⟨hqc,hqf⟩:=own_cell64 hq (k:=i + j) (by rw [HQ.out.1]; omega)
         obtain ⟨p,hpe⟩ : ∃ p,p = qs.getD (i + j) 0:=⟨_,rfl⟩
         have hpb : p ≤ 81 * i:=by rw [hpe]; exact HQ.out.2.2.2 _ (Nat.le_refl _)
         rw [← hpe] at hqc; have hzb:=xy_le hx10 hy10; have hst:=dmul_step (ps:=qs) (ys:=ys) (i:=i) (j:=j) (p:=p) (x:=x') (y:=y) (V:=V) (by rw [HQ.out.1]; omega) hpe hyy.out HQ.out.2.1
         obtain ⟨z,hz⟩ : ∃ z,z = x' * y:=⟨_,rfl⟩
         have hzi : (x' : Int) * (y : Int) = (z : Int):=by rw [hz]; simp
         rw [← hz] at hzb hst; have HST:=Lib.hid hst; have hij : (i : Int) + (j : Int) < (n : Int) + (m : Int):=by omega
         have hij0 : 0 ≤ (i : Int) + (j : Int):=by omega
         clear hst hpe hz hym hxx'
         go_wp2
         go_region
         all_goals
           go_wp2
           go_roundw
           case rel=>exact ⟨j + 1,qs.set (i + j) (p + z),by omega,by go_num,by
             have:=own_set64 hq (i + j) (p + z); rw [show ((p + z : Nat) : Int) = (p : Int) + (z : Int) from by omega] at this
             exact this,⟨by rw [List.length_set]; exact HQ.out.1,HST.out,getD_set_le HQ.out.2.2.1 (by omega),fun t ht=>by rw [cp _ (by omega)]; exact HQ.out.2.2.2 t (by omega)⟩,Below.drew (hbq.setCell (Nat.le_refl _) _)⟩
           case measure=>first | (simp [intOf]; done) | (simp [intOf]; omega)
       · have hjm' : j = m:=by omega
         have HJ:=Lib.hid hjm'; clear hjm'
         go_wp2
         go_roundw
         case rel=>exact ⟨i + 1,qs,by omega,by go_num,hq,⟨HQ.out.1,by
           rw [HQ.out.2.1,HJ.out,HM.out,List.take_length,HV.out,HO.out.2.1,bf,hxx.out,Nat.add_mul,Nat.mul_comm x],fun t=>Nat.le_trans (HQ.out.2.2.1 t) (by omega)⟩,hbq⟩
         case measure=>first | (simp [intOf]; done) | (simp [intOf]; omega)
   · have hin : i = n:=by omega
     have hPv : dval ps = dval xs * dval ys:=by rw [HO.out.2.1,hin,HN.out,List.take_length]
     have hPb : ∀ t,ps.getD t 0 ≤ 81 * n:=by rw [← hin]; exact HO.out.2.2
     have hPl:=HO.out.1; have HPV:=Lib.hid hPv; have HPB:=Lib.hid hPb; have HPL:=Lib.hid hPl; clear hin hPv hPb hPl
     go_wp2_with (at_make; refine wpList_make_full _ rfl _ _ 124 rfl wr.heap.size 5 j0 (.int .u8 0) 1 Tryz.underlying124 hj hy0 hy1 .i64 .i64 ((n : Int) + (m : Int)) ((n : Int) + (m : Int)) (n + m) rfl rfl (by omega) (by omega) (by rw [hy2]; omega) (by unfold maxLen; omega) (by simp) ?_)
     intro w4 hown4 hgrow4; have ho4:=fl hown4; have hb4 : Below wr.heap.size wr w4:=(Below.refl _ _).grown hgrow4 (Nat.le_refl _) (fun k h=>by cases h); clear hown4 hgrow4
     obtain ⟨W2,hW2⟩ : ∃ W2,W2 = wr:=⟨_,rfl⟩
     rw [← hW2] at hp hb hsz hb4 ho4 ⊢; clear hW2
     obtain ⟨g2,hg2⟩ : ∃ g2,g2 = W2.heap.size:=⟨_,rfl⟩
     rw [← hg2] at hsz hb4 ho4 ⊢; have HG:=Lib.hid hg2; clear hg2
     go_wp2_with fail
     go_loopw [9, 10] (fun cv kv wr => ∃ (k cy : Nat) (os : List Nat), k ≤ n + m ∧ kv = .int .i64 (k : Int) ∧ cv = .int .i64 (cy : Int) ∧ cy ≤ 81 * n ∧ Own wr g2 5 (.slice (some ⟨g2, 0, none⟩) (n + m) (n + m)) (u8s os) ∧ Hid (os.length = n + m ∧ small 10 os ∧ dval (os.take k) + 10 ^ k * cy = dval (ps.take k)) ∧ Below g2 W2 wr)
       (fun _ kv _=>n + m - (intOf kv).toNat)
     case atStart=>exact ⟨0,0,List.replicate (n + m) 0,Nat.zero_le _,rfl,rfl,Nat.zero_le _,ho4,⟨by simp,bm _ _ (by decide),by simp [dval]⟩,hb4⟩
     case round =>
       obtain ⟨k,cy,os,hk,rfl,rfl,hcy,ho,HQ,hbk⟩:=hrel
       by_cases hkm : k < n + m
       · obtain ⟨hqc,hqf⟩:=own_cell64 (hp.below (hbk.mono (Nat.le_of_eq HG.out.symm))) (k:=k) (by rw [HPL.out]; omega)
         obtain ⟨s,hse⟩ : ∃ s,s = ps.getD k 0:=⟨_,rfl⟩
         have hsb : s ≤ 81 * n:=by rw [hse]; exact HPB.out _
         rw [← hse] at hqc; obtain ⟨hoc,hof⟩:=own_cell ho (k:=k) (by rw [ae,HQ.out.1]; omega); have hst:=dcarry_step (os:=os) (ps:=ps) (k:=k) (cy:=cy) (s:=s) (by rw [HQ.out.1]; omega) hse.symm HQ.out.2.2; have HST:=Lib.hid hst; have hkm2 : (k : Int) < (n : Int) + (m : Int):=by omega
         clear hst hse
         go_wp2
         go_roundw
         case rel=>exact ⟨k + 1,(cy + s) / 10,os.set k ((cy + s) % 10),by omega,by go_num,by go_num,by omega,own_set8 ho k ((cy + s) % 10),⟨by rw [List.length_set]; exact HQ.out.1,df HQ.out.2.1 _ (Nat.mod_lt _ (by decide)),HST.out⟩,hbk.setCell (Nat.le_refl _) _⟩
         case measure=>first | (simp [intOf]; done) | (simp [intOf]; omega)
       · have hkn : k = n + m:=by omega
         have hV : dval os = dval xs * dval ys:=by
           have h:=HQ.out.2.2; rw [hkn,List.take_of_length_le (by rw [HQ.out.1]; exact Nat.le_refl _),List.take_of_length_le (by rw [HPL.out]; exact Nat.le_refl _),HPV.out] at h
           have h2 : dval xs * dval ys < 10 ^ (n + m):=by
             rw [Nat.pow_add,HN.out,HM.out]; exact Nat.mul_lt_mul'' (dval_lt hx) (dval_lt hy)
           rcases Nat.eq_zero_or_pos cy with h3 | h3
           · rw [h3] at h; simpa using h
           · have h4 : 10 ^ (n + m) * 1 ≤ 10 ^ (n + m) * cy:=Nat.mul_le_mul_left _ h3; omega
         have HV:=Lib.hid hV; have hol : os.length ≤ 1000000:=by rw [HQ.out.1]; omega
         have htr:=ff (c:=n + m) ho.row8 hol (by rw [HQ.out.1]; exact Nat.le_refl _); rw [HQ.out.1] at htr; have HTR:=Lib.hid htr; have hsl : (strip os).length ≤ n + m:=by rw [← HQ.out.1]; exact strip_length os
         have hbF : Below w.heap.size w wr:=hb.trans (hbk.mono (by rw [HG.out]; exact hb.size)); clear htr hV hkn
         go_wp2_with fail
         refine HTR.out.mono ?_; rintro e w' ⟨⟨rfl,hrt⟩,rfl⟩
         go_wp2
         go_ret
         exact ⟨_,_,_,rfl,hrt,hsl,ct HQ.out.2.1,by rw [dp]; exact HV.out,hbF⟩
theorem dright_one : dright [1]:=⟨fun x hx=>by rw [List.mem_singleton.1 hx]; decide,.inr (by simp)⟩
theorem refMul {w : World} {N : Nat} {A : Option Addr} {c : Nat} {L : List Arow} (hL : fu w A L) (hrow : ∀ r ∈ L,r.2.2.length ≤ 1100) (hacc : ∀ k,k ≤ L.length → ((vals L).take k).foldl (fun a b=>a * b) 1 < 1000000000 ^ N) (hN : N ≤ 10000) (hlen : L.length ≤ 100000) :
   Calls Tryz.prog 106 #[.slice A L.length c] w (RetNat w ((vals L).foldl (fun a b=>a * b) 1)):=by
 have HAcc:=Lib.hid hacc
 have HRow:=Lib.hid hrow
 clear hacc hrow
 obtain ⟨n,hn⟩ : ∃ n : Nat,n = L.length:=⟨_,rfl⟩
 have hn1 : n ≤ 100000:=by omega
 rw [← hn]
 have HN:=Lib.hid hn
 clear hn hlen
 go_enter Tryz.func106,Tryz.ntmps106
 go_wp2
 go_loopw [3, 4] (fun v iv wr => ∃ (k : Nat) (A' : Option Addr) (c' : Nat) (os : List Nat), k ≤ n ∧ iv = .int .i64 (k : Int) ∧ v = .slice A' os.length c' ∧ Row wr A' (u8s os) ∧ dright os ∧ Hid (dval os = ((vals L).take k).foldl (fun a b => a * b) 1) ∧ Below w.heap.size w wr)
   (fun _ iv _=>n - (intOf iv).toNat)
 case atStart=>exact ⟨0,some ⟨w.heap.size,0,none⟩,1,[1],Nat.zero_le _,rfl,rfl,(own_lit8 w 1 (Nat.le_refl _)).row8,dright_one,by simp [Hid,dval],(Below.refl _ _).alloc (Nat.le_refl _) _⟩
 case round =>
   obtain ⟨k,A',c',os,hk,rfl,rfl,hro,hos,HO,hb⟩:=hrel; have hsz:=hb.size; have hol : os.length ≤ 90000:=Nat.le_trans (dval_bound hos (by rw [HO.out]; exact HAcc.out k (by rw [← HN.out]; exact hk))) (by omega)
   by_cases hlt : k < n
   · have hkL : k < L.length:=by rw [← HN.out]; exact hlt
     obtain ⟨ad,rfl,hce⟩:=(hL.1.below hb).at_ (k:=k) (by rw [List.length_map]; exact hkL); rw [List.getElem_map] at hce; have hT:=vals_take_succ hkL
     obtain ⟨r,hr⟩ : ∃ r,r = L[k]:=⟨_,rfl⟩
     rw [← hr] at hce hT; have hrm : r ∈ L:=by rw [hr]; exact List.getElem_mem _
     have hrl:=HRow.out r hrm; obtain ⟨hrd0,hdsm,_⟩:=hL.2 _ hrm; obtain ⟨Ar,cr,ds⟩:=r; have hce' : wr.cell? (ad.add k) = some (.slice Ar ds.length cr):=hce; have hrd : Row wr Ar (u32s ds):=Row.below hrd0 hb; have hrl' : ds.length ≤ 1100:=hrl; have hread:=refRead (c:=cr) hrd hdsm hrl'; have HRD:=Lib.hid hread; have HT:=Lib.hid hT
     obtain ⟨M,hM1,hM2⟩ : ∃ M,M ≤ 1101 ∧ 1101 ≤ M:=⟨1101,Nat.le_refl _,Nat.le_refl _⟩
     have hdl : val ds < 1000000000 ^ M:=Nat.lt_of_lt_of_le (val_lt32 hdsm) (Nat.pow_le_pow_right (by decide) (by omega)); have HDL:=Lib.hid hdl; clear hr hce hrm hrl hread hT hkL hrd0 hdl
     go_wp2_with fail
     refine HRD.out.mono ?_; rintro e w2 ⟨A2,c2,es,rfl,hr2,hlc2,hes,hv2,hb2⟩; have hel : es.length ≤ 9 * M:=dval_bound hes (by rw [hv2]; exact HDL.out); have hpl:=refTimes (c1:=c') (c2:=c2) (hro.below hb2) hr2 hos.1 hes.1 (by omega) (by omega); have HPL:=Lib.hid hpl; have hb2':=hb.trans (hb2.mono hsz); have HV2:=Lib.hid hv2; clear hpl hb2 hb hv2 hrd hdsm
     go_wp2_with fail
     refine HPL.out.mono ?_; rintro e w3 ⟨A3,c3,fs,rfl,hr3,hlc3,hfs,hv3,hb3⟩; have hb3':=hb2'.trans (hb3.mono hb2'.size); have HV3:=Lib.hid hv3; clear hb3 hb2' hv3
     go_wp2
     go_roundw
     case rel=>exact ⟨k + 1,A3,c3,fs,by omega,by go_num,rfl,hr3,hfs,by
       show _ = _
       rw [HT.out,List.foldl_append,← HO.out,HV3.out,HV2.out]; rfl,hb3'⟩
     case measure=>simp [intOf]; omega
   · have hwr:=refWrite (c:=c') hro hos (by omega); have HW:=Lib.hid hwr; have hk' : k = n:=by omega
     have HV : Hid (dval os = (vals L).foldl (fun a b=>a * b) 1):=by
       show _ = _
       rw [HO.out,hk',HN.out,List.take_of_length_le (by simp [vals])]
     clear hwr
     go_wp2_with fail
     refine HW.out.mono ?_; rintro e w4 ⟨v,rfl,⟨rs,h1,h2,h3⟩,hb4⟩
     go_wp2
     go_ret
     exact ⟨_,rfl,⟨rs,h1,by rw [h2]; exact HV.out,h3.mono hsz⟩,hb.trans (hb4.mono hsz)⟩
theorem r2_mk {w : World} {v : Value} {n k : Nat} (b : Bool) (h : Rr w v n) (hn : n < 1000000000 ^ k) (hk : k ≤ 1100) : Calls Tryz.prog 105 #[.bool b,v] w (TellsZ w k (zOf n b)):=by
 obtain ⟨A,l,c,rfl⟩:=h.shape
 obtain ⟨xs,rfl,hr,hx,hv,hl⟩:=fi h hn
 refine (ref2of_any (c:=c) (N:=k) b hr (fun d hd=>Nat.lt_trans (hx.1 d hd) (by decide)) (by omega) (by rw [hv]; exact hn) (by omega)).mono fun e w' he=>dq (by rw [ci]; exact hn) ?_
 rw [ci,gg,← hv]
 exact he
theorem right_small {xs : List Nat} (h : right xs) : small 4294967296 xs:=fun d hd=>Nat.lt_trans (h.1 d hd) (by decide)
theorem vr_sub {w : World} {A1 A2 : Option Addr} {k1 c1 k2 c2 n1 n2 N : Nat} (h1 : Rr w (.slice A1 k1 c1) n1) (h2 : Rr w (.slice A2 k2 c2) n2) (hn1 : n1 < 1000000000 ^ N) (hn2 : n2 < 1000000000 ^ N) (hN : N ≤ 1100) :
   Calls Tryz.prog 133 #[.slice A1 k1 c1,.slice A2 k2 c2] w (RetSB w (n1 - n2) (decide (n2 ≤ n1))):=by
 obtain ⟨xs,rfl,r1,x1,rfl,l1⟩:=fi h1 hn1
 obtain ⟨ys,rfl,r2,x2,rfl,l2⟩:=fi h2 hn2
 exact all_refSub r1 r2 (right_small x1) (right_small x2) (by omega) (by omega) hn1 (by omega)
def kRR (n1 n2 : Nat) : PK:=.list 2 (fun g w=>∃ v1 v2,w.heap[g]? = some (.cells #[v1,v2] 22 (0,0)) ∧ Rr w v1 n1 ∧ Rr w v2 n2) (fun _ _ _ ⟨v1,v2,h1,h2,h3⟩ hb=>⟨v1,v2,(hb.block _ (lt_block h1)).trans h1,h2.below hb,h3.below hb⟩) (fun _ _ _ _ ⟨v1,v2,h1,h2,h3⟩ hs hne=>⟨v1,v2,(hs.other _ hne).trans h1,hs.rr h2,hs.rr h3⟩)
def kRB (z : Int) (ok : Bool) : PK:=.p (fun v w=>∃ a,v = .tuple #[a,.bool ok] ∧ Rr w a z.natAbs) (fun _ _ _ ⟨a,h1,h2⟩ hb=>⟨a,h1,h2.below hb⟩) (fun _ _ _ _ ⟨a,h1,h2⟩ hs=>⟨a,h1,hs.rr h2⟩)
theorem ext_row {S0 : Nat} {z : Int} {ok : Bool} : ∀ w x v,(kRB z ok).sem S0 x v w → ∃ vs u,v = .tuple vs ∧ vs[0]? = some u ∧ (kRow z).move S0 x u w w ∧ (kRow z).sem S0 x u w:=fun _ _ _ ⟨a,h1,h2⟩=>⟨_,a,h1,rfl,Below.refl _ _,h2⟩
theorem ext_rok {S0 : Nat} {z : Int} {ok : Bool} : ∀ w x v,(kRB z ok).sem S0 x v w → ∃ vs u,v = .tuple vs ∧ vs[1]? = some u ∧ (kIs (.bool ok)).move S0 x u w w ∧ (kIs (.bool ok)).sem S0 x u w:=fun _ _ _ ⟨_,h1,_⟩=>⟨_,_,h1,rfl,Below.refl _ _,rfl⟩
theorem run_new2 {w : World} {A A' : Option Addr} {l c l' c' : Nat} : (Instr.buildSlice 100 2 #[(0,.slice A l c),(1,.slice A' l' c')]).run Tryz.prog w = .ok (.slice (some ⟨w.heap.size,0,none⟩) 2 2) (w.alloc (.cells #[.slice A l c,.slice A' l' c'] 22)):=by go_simp
section
variable {G : List Nat} {C : World → Prop} {S0 B : Nat} {ks : List PK} {a0 : Act} {i : Nat} {N : Nat} {W0 : World} {T : TypeId} {pos : String} {af : Array Edge} {gu : Option (Nat × Bool)}
theorem st_rows2 {d j1 t1 j2 t2 : Nat} {z1 z2 : Int}       (h1 : at_ ks j1 = kRow z1) (h2 : at_ ks j2 = kRow z2) (hi : at_ ks i = kRR z1.natAbs z2.natAbs) (hN : a0.tmps.size = N:=by assumption) (hd : decide (d < N) = true:=by kernel_rfl) (ht1 : decide (t1 < N) = true:=by kernel_rfl) (ht2 : decide (t2 < N) = true:=by kernel_rfl) (hne : decide (t1 = t2) = false:=by kernel_rfl) (hS : S0 ≤ W0.heap.size:=by exact Nat.le_refl _) :
   PkStep Tryz.prog (Reg B W0 G) S0 ks a0 i { dst:=some d,op:=.buildSlice 100 2 #[(0,.tmp t1),(1,.tmp t2)],type:=T,pos:=pos,after:=af,guard:=gu } [(j1,some t1),(j2,some t2)]:=by
 intro w x hC
 refine bc _ fun hdeps K hK=>?_
 have g1:=hdeps (j1,some t1) (by simp)
 have g2:=hdeps (j2,some t2) (by simp)
 rw [h1] at g1
 rw [h2] at g2
 have g1' : Rr w (x j1) z1.natAbs:=g1
 have g2' : Rr w (x j2) z2.natAbs:=g2
 have hne' : t1 ≠ t2:=of_decide_eq_false hne
 have e1 : (putE x a0 [(j1,some t1),(j2,some t2)]).eval (.tmp t1) = x j1:=ap _ _ (by rw [hN]; exact of_decide_eq_true ht1) (by simp [slotAt,Ne.symm hne'])
 have e2 : (putE x a0 [(j1,some t1),(j2,some t2)]).eval (.tmp t2) = x j2:=ap _ _ (by rw [hN]; exact of_decide_eq_true ht2) (by simp [slotAt])
 obtain ⟨A1,l1,c1,hx⟩:=g1'.shape
 obtain ⟨A2,l2,c2,hy⟩:=g2'.shape
 have hsz:=hC.below.size
 refine da rfl (by rw [aw,hN]) hd (ex_slice2 (e1.trans hx) (e2.trans hy) run_new2) (hK _ _ ?_ ?_)
 · rw [hi]; exact ⟨(Below.refl _ _).alloc (Nat.le_refl _) _,_,rfl,Nat.le_refl _⟩
 · rw [hi,← hx,← hy]; have ba:=fun (o : Obj)=>(Below.refl w.heap.size w).alloc (Nat.le_refl _) o; exact ⟨_,rfl,Nat.le_trans hS hsz,lt_block (heap_alloc_new w _),_,_,heap_alloc_new w _,g1'.below (ba _),g2'.below (ba _)⟩
theorem fq {d j : Nat} {t : Tmp} {f : Value → World → Prop} {hb hs}    (hj : at_ ks j = .p f hb hs) (hi : at_ ks i = .p f hb hs) (hN : a0.tmps.size = N:=by assumption) (hd : decide (d < N) = true:=by kernel_rfl) (ht : decide (t < N) = true:=by kernel_rfl) :
   PkStep Tryz.prog C S0 ks a0 i { dst:=some d,op:=.assign (.tmp t),type:=T,pos:=pos,after:=af,guard:=gu } [(j,some t)]:=by
 intro w x hC
 refine bc _ fun hdeps K hK=>?_
 have h1:=hdeps _ (List.mem_singleton.2 rfl)
 have hev : (putE x a0 [(j,some t)]).eval (.tmp t) = x j:=ap _ _ (by rw [hN]; exact of_decide_eq_true ht) (by simp [slotAt])
 refine da (v:=x j) (w':=w) rfl (by rw [aw,hN]) hd ?_ (hK _ _ ?_ ?_)
 · show (pure (Next.value ((putE x a0 [(j,some t)]).eval (.tmp t))) : Sem Next).run _ w = _
   rw [hev]; rfl
 · rw [hi]; exact Below.refl _ _
 · rw [hi]; rw [hj] at h1; exact h1
theorem ei {d : Nat} {t : Tmp} {z : Int} {v : Value} (hv : a0.eval (.tmp t) = v) (_hr : Rr W0 v z.natAbs) (hG : ∀ w,C w → Rr w v z.natAbs)   (hi : at_ ks i = kRow z) (hN : a0.tmps.size = N:=by assumption) (hd : decide (d < N) = true:=by kernel_rfl) :
   PkStep Tryz.prog C S0 ks a0 i { dst:=some d,op:=.move (.tmp t),type:=T,pos:=pos,after:=af,guard:=gu } []:=by
 intro w x hC
 refine bc _ fun _ K hK=>?_
 refine da (v:=v) (w':=w) rfl hN hd ?_ (hK _ _ ?_ ?_)
 · show (pure (Next.value (a0.eval (.tmp t))) : Sem Next).run _ w = _
   rw [hv]; rfl
 · rw [hi]; exact Below.refl _ _
 · rw [hi]; exact hG w hC
end
theorem rows_of {w : World} {v : Value} {S0 : Nat} {x : Nat → Value} {n1 n2 M : Nat} (h : (kRR n1 n2).sem S0 x v w) (hM : M ≤ 1100) (h1 : n1 < 1000000000 ^ M) (h2 : n2 < 1000000000 ^ M) : ∃ g A1 c1 xs A2 c2 ys,v = .slice (some ⟨g,0,none⟩) 2 2 ∧ fu w (some ⟨g,0,none⟩) [(A1,c1,xs),(A2,c2,ys)] ∧ xs.length ≤ 1100 ∧ ys.length ≤ 1100 ∧ val xs = n1 ∧ val ys = n2:=by
 obtain ⟨g,hv,_,_,v1,v2,hg,hr1,hr2⟩:=h
 obtain ⟨A1,k1,c1,e1⟩:=hr1.shape
 obtain ⟨A2,k2,c2,e2⟩:=hr2.shape
 subst e1
 subst e2
 obtain ⟨xs,rfl,r1,x1,q1,l1⟩:=fi hr1 h1
 obtain ⟨ys,rfl,r2,x2,q2,l2⟩:=fi hr2 h2
 refine ⟨g,A1,c1,xs,A2,c2,ys,hv,⟨fun j u hj=>?_,fun r hr=>?_⟩,by omega,by omega,q1,q2⟩
 · have hadd : (⟨g,0,none⟩ : Addr).add j = ⟨g,j,none⟩:=by unfold Addr.add; split <;> simp_all
   refine ⟨_,rfl,?_⟩; rw [hadd,cell_of_row w g j _ _ _ hg]
   simpa [sl] using hj
 · rcases List.mem_cons.1 hr with h | h
   · rw [h]; exact ⟨r1,right_small x1,by show xs.length ≤ _; omega⟩
   · rw [List.mem_singleton.1 h]; exact ⟨r2,right_small x2,by show ys.length ≤ _; omega⟩
theorem r1_add {w : World} {v : Value} {S0 : Nat} {x : Nat → Value} {n1 n2 N : Nat} (h : (kRR n1 n2).sem S0 x v w) (hn : n1 + n2 < 1000000000 ^ N) (hN : N ≤ 1100) : Calls Tryz.prog 132 #[v] w (RetR w (n1 + n2)):=by
 obtain ⟨g,A1,c1,xs,A2,c2,ys,rfl,hR,l1,l2,q1,q2⟩:=rows_of h hN (by omega) (by omega)
 have h:=refAdd (c:=2) (N:=N) hR (fun r hr=>by
     rcases List.mem_cons.1 hr with h | h
     · rw [h]; exact l1
     · rw [List.mem_singleton.1 h]; exact l2) (fun k hk=>by
     have hk2 : k ≤ 2:=hk; have h3 : k = 0 ∨ k = 1 ∨ k = 2:=by omega
     rcases h3 with rfl | rfl | rfl <;> simp [vals,q1,q2] <;> omega) (by omega) (by simp)
 refine h.mono fun e w' ⟨v,he,hv,hb⟩=>?_
 have e1 : (vals [(A1,c1,xs),(A2,c2,ys)]).foldl (fun a b=>a + b) 0 = n1 + n2:=by simp [vals,q1,q2]
 rw [e1] at hv
 have hr:=dt hv hn (by omega)
 obtain ⟨A,k,c,rfl⟩:=hr.shape
 exact ⟨A,k,c,he,hr,hb⟩
theorem r1_mul {w : World} {v : Value} {S0 : Nat} {x : Nat → Value} {n1 n2 N M : Nat} (h : (kRR n1 n2).sem S0 x v w) (hn1 : n1 < 1000000000 ^ M) (hn2 : n2 < 1000000000 ^ M) (hn : n1 * n2 < 1000000000 ^ N) (hMN : M ≤ N) (h0 : 0 < N) (hN : N ≤ 1100) : Calls Tryz.prog 106 #[v] w (RetR w (n1 * n2)):=by
 obtain ⟨g,A1,c1,xs,A2,c2,ys,rfl,hR,l1,l2,q1,q2⟩:=rows_of h (M:=M) (by omega) hn1 hn2
 have h1p : 1 < 1000000000 ^ N:=Nat.lt_of_lt_of_le (by decide) (pow_le (j:=1) h0)
 have hn1' : n1 < 1000000000 ^ N:=Nat.lt_of_lt_of_le hn1 (pow_le hMN)
 have h:=refMul (c:=2) (N:=N) hR (fun r hr=>by
     rcases List.mem_cons.1 hr with h | h
     · rw [h]; exact l1
     · rw [List.mem_singleton.1 h]; exact l2) (fun k hk=>by
     have hk2 : k ≤ 2:=hk; have h3 : k = 0 ∨ k = 1 ∨ k = 2:=by omega
     rcases h3 with rfl | rfl | rfl
     · simpa [vals] using h1p
     · simpa [vals,q1] using hn1'
     · simpa [vals,q1,q2] using hn) (by omega) (by simp)
 refine h.mono fun e w' ⟨v,he,hv,hb⟩=>?_
 have e1 : (vals [(A1,c1,xs),(A2,c2,ys)]).foldl (fun a b=>a * b) 1 = n1 * n2:=by simp [vals,q1,q2]
 rw [e1] at hv
 have hr:=dt hv hn (by omega)
 obtain ⟨A,k,c,rfl⟩:=hr.shape
 exact ⟨A,k,c,he,hr,hb⟩
theorem r1_sub {w : World} {v1 v2 : Value} {n1 n2 N : Nat} (h1 : Rr w v1 n1) (h2 : Rr w v2 n2) (hn1 : n1 < 1000000000 ^ N) (hn2 : n2 < 1000000000 ^ N) (hN : N ≤ 1100) {z : Int} {ok : Bool} (hz : z.natAbs = n1 - n2) (hok : decide (n2 ≤ n1) = ok) {S0 : Nat} {x : Nat → Value} : Calls Tryz.prog 133 #[v1,v2] w (Told (kRB z ok) S0 x w):=by
 obtain ⟨A1,k1,c1,rfl⟩:=h1.shape
 obtain ⟨A2,k2,c2,rfl⟩:=h2.shape
 refine (vr_sub h1 h2 hn1 hn2 hN).mono fun e w' ⟨A,k,c,he,hr,hb⟩=>?_
 subst hok
 exact ⟨_,he,hb,_,rfl,by rw [hz]; exact hr⟩
theorem tr {P : Program} {F : FuncId} {vs : Array Value} {w : World} {S0 : Nat} {x : Nat → Value} {z : Int} {n : Nat} (hz : z.natAbs = n) (h : Calls P F vs w (RetR w n)) : Calls P F vs w (Told (kRow z) S0 x w) :=
 h.mono fun _ _ ⟨_,_,_,he,hr,hb⟩=>⟨_,he,hb,by rw [← hz] at hr; exact hr⟩
theorem two_lt {m n k : Nat} (h1 : m < 1000000000 ^ k) (h2 : n < 1000000000 ^ k) : m + n < 1000000000 ^ (k + 1):=by
 rw [Nat.pow_succ]; omega
theorem less_lt {m n k : Nat} (h1 : m < 1000000000 ^ k) : m - n < 1000000000 ^ k:=by omega
theorem r2_mkB {w : World} {S0 : Nat} {x : Nat → Value} {v1 v2 : Value} {z : Int} {b : Bool} {k : Nat} (h1 : (kIs (.bool b)).sem S0 x v1 w) (h2 : (kRow z).sem S0 x v2 w) (hn : z.natAbs < 1000000000 ^ k) (hk : k ≤ 1100) : Calls Tryz.prog 105 #[v1,v2] w (TellsZ w k (zOf z.natAbs b)):=by
 have e : v1 = .bool b:=h1
 subst e
 exact r2_mk b h2 hn hk
theorem r2_plus_nn {M : Nat} (hM : Hid (M ≤ 1080)) {w : World} {v1 v2 : Value} {zx zy : Int} (hx : decide (zx < 0) = true) (hy : decide (zy < 0) = true) (h1 : Zr w v1 M (zx)) (h2 : Zr w v2 M (zy)) :
   Calls Tryz.prog 100 #[v1,v2] w (TellsZ w (M + 1) (zOf (((((zx).natAbs + (zy).natAbs : Nat) : Int)).natAbs) true)):=by
 obtain ⟨A1,l1,c1,rfl,r1,u1⟩:=h1
 obtain ⟨b1,hb1⟩ : ∃ s,s = decide (zx < 0):=⟨_,rfl⟩
 rw [← hb1]
 have H1:=Lib.hid (show _ ∧ _ ∧ _ from ⟨hb1,r1,u1⟩)
 clear hb1 r1 u1
 obtain ⟨A2,l2,c2,rfl,r2,u2⟩:=h2
 obtain ⟨b2,hb2⟩ : ∃ s,s = decide (zy < 0):=⟨_,rfl⟩
 rw [← hb2]
 have H2:=Lib.hid (show _ ∧ _ ∧ _ from ⟨hb2,r2,u2⟩)
 clear hb2 r2 u2
 go_enter Tryz.func100,Tryz.ntmps100
 repeat apply wp_seq
 refine Rk9 fun K HK=>?_
 go_wp2
 refine HK.out _ _ (then_n ?_)
 refine O39 (G:=fun W=>Code.wp _ _ _ _ W) ?_
 intro W_0 bb_0 K0 K1 K2
 obtain ⟨m1,n1,_,_⟩:=cell_of_two K0
 have f1_0 : AtR W_0 (w.heap.size) 0 M (zx):=⟨A1,l1,c1,by rw [← H1.out.1]; exact m1,n1,A1,l1,c1,rfl,H1.out.2.1.below bb_0,H1.out.2.2⟩
 clear m1 n1
 obtain ⟨m2,n2,_,_⟩:=cell_of_two K1
 have f2_0 : AtR W_0 (w.heap.size + 1) 0 M (zy):=⟨A2,l2,c2,by rw [← H2.out.1]; exact m2,n2,A2,l2,c2,rfl,H2.out.2.1.below bb_0,H2.out.2.2⟩
 clear m2 n2
 have R_0 : Holds_ W_0 (w.heap.size + 1 + 1) #[Value.bool false,Value.slice none 0 0]:=⟨⟨_,K2⟩,by simp [noDig]⟩
 clear K0 K1 K2
 refine Nf9 (G:=fun a=>Code.wp _ _ _ a _) 46 ?_
 intro a_0 ha hN_0 hD_0
 have e2_0:=gl ha 2 w.heap.size
 have e3_0:=gl ha 3 (w.heap.size + 1)
 have e4_0:=gl ha 4 (w.heap.size + 1 + 1)
 repeat first | apply gn | apply go
 refine Wl9 bb_0 [gk w.heap.size 0,KT9,gk (w.heap.size + 1) 0,KT9,KT9] [[],[0],[],[2],[1,3]] [7,8,9,10,11] [] [] ?_ ?_
 ·
   refine p01 (hN:=hN_0) e2_0 ?_; refine aa rfl rfl (aq (s:=true) f1_0 hx rfl rfl) ?_; refine p01 (hN:=hN_0) e3_0 ?_; refine aa rfl rfl (aq (s:=true) f2_0 hy rfl rfl) ?_; refine p20 (hN:=hN_0) ?_; exact ai rfl
 intro W_1 x a_1 hC hall ha hN_1 hD_1 bb_1
 have e2_1:=ab ha e2_0
 have e3_1:=ab ha e3_0
 have e4_1:=ab ha e4_0
 have f1_1:=hC.at0 f1_0
 have f2_1:=hC.at0 f2_0
 have R_1:=hC.holds R_0
 have e11_1:=Sn9 ha hall 11 4
 repeat first | apply gn | apply go
 refine wp_cond_true e11_1 ?_
 repeat first | apply gn | apply go
 refine Wr9 bb_1 R_1 [gk w.heap.size 0,KT9,gk w.heap.size 1,kRow (zx),gk (w.heap.size + 1) 1,kRow (zy),kRR ((zx).natAbs) ((zy).natAbs),kRow ((((zx).natAbs + (zy).natAbs : Nat) : Int)),kZ (M + 1) (zOf (((((zx).natAbs + (zy).natAbs : Nat) : Int)).natAbs) true),kResZ (w.heap.size + 1 + 1) (M + 1) (zOf (((((zx).natAbs + (zy).natAbs : Nat) : Int)).natAbs) true)] [[],[0],[],[2],[],[4],[3,5],[6],[1,7],[8]] [12,13,14,15,16,17,18,19,20,999] [] [] ?_ ?_
 ·
   refine p01 (hN:=hN_1) e2_1 ?_; refine aa rfl rfl (aq (s:=true) (hG:=(by simp only [List.mem_singleton]; omega)) f1_1 hx rfl rfl) ?_; refine p01 (hN:=hN_1) e2_1 ?_; refine aa rfl rfl (ah (hG:=(by simp only [List.mem_singleton]; omega)) f1_1 rfl rfl) ?_; refine p01 (hN:=hN_1) e3_1 ?_; refine aa rfl rfl (ah (hG:=(by simp only [List.mem_singleton]; omega)) f2_1 rfl rfl) ?_; refine aa rfl rfl (st_rows2 rfl rfl rfl) ?_; refine aa rfl rfl (cg hN_1 rfl rfl fun hC h1=>tr rfl (r1_add (N:=M + 1) h1 (two_lt H1.out.2.2 H2.out.2.2) (by first | decide | (have:=hM.out; omega)))) ?_; refine aa rfl rfl (an rfl rfl rfl fun hC h1 h2=>tz (r2_mkB h1 h2 (two_lt H1.out.2.2 H2.out.2.2) (by first | decide | (have:=hM.out; omega)))) ?_; refine aa rfl rfl (dj R_1 e4_1 rfl rfl) ?_; exact ai rfl
 intro W x a1 hC hall ha hN1 hD1 bb1
 obtain ⟨cs,hg,hP⟩:=Hs9 hall 9
 have e1:=ab (t:=4) ha e4_1
 repeat first | apply gn | apply go
 refine wp_ret ?_
 repeat (refine then_r ?_)
 exact cw (t:=4) rfl hD1 e1 hg hP fun v hv=>⟨v,rfl,hv,bb1⟩
theorem r2_plus_np_ge {M : Nat} (hM : Hid (M ≤ 1080)) {w : World} {v1 v2 : Value} {zx zy : Int} (hx : decide (zx < 0) = true) (hy : decide (zy < 0) = false) (hle : zy.natAbs ≤ zx.natAbs) (h1 : Zr w v1 M (zx)) (h2 : Zr w v2 M (zy)) :
   Calls Tryz.prog 100 #[v1,v2] w (TellsZ w M (zOf (((((zx).natAbs - (zy).natAbs : Nat) : Int)).natAbs) true)):=by
 obtain ⟨A1,l1,c1,rfl,r1,u1⟩:=h1
 obtain ⟨b1,hb1⟩ : ∃ s,s = decide (zx < 0):=⟨_,rfl⟩
 rw [← hb1]
 have H1:=Lib.hid (show _ ∧ _ ∧ _ from ⟨hb1,r1,u1⟩)
 clear hb1 r1 u1
 obtain ⟨A2,l2,c2,rfl,r2,u2⟩:=h2
 obtain ⟨b2,hb2⟩ : ∃ s,s = decide (zy < 0):=⟨_,rfl⟩
 rw [← hb2]
 have H2:=Lib.hid (show _ ∧ _ ∧ _ from ⟨hb2,r2,u2⟩)
 clear hb2 r2 u2
 go_enter Tryz.func100,Tryz.ntmps100
 repeat apply wp_seq
 refine Rk9 fun K HK=>?_
 go_wp2
 refine HK.out _ _ (then_n ?_)
 refine O39 (G:=fun W=>Code.wp _ _ _ _ W) ?_
 intro W_0 bb_0 K0 K1 K2
 obtain ⟨m1,n1,_,_⟩:=cell_of_two K0
 have f1_0 : AtR W_0 (w.heap.size) 0 M (zx):=⟨A1,l1,c1,by rw [← H1.out.1]; exact m1,n1,A1,l1,c1,rfl,H1.out.2.1.below bb_0,H1.out.2.2⟩
 clear m1 n1
 obtain ⟨m2,n2,_,_⟩:=cell_of_two K1
 have f2_0 : AtR W_0 (w.heap.size + 1) 0 M (zy):=⟨A2,l2,c2,by rw [← H2.out.1]; exact m2,n2,A2,l2,c2,rfl,H2.out.2.1.below bb_0,H2.out.2.2⟩
 clear m2 n2
 have R_0 : Holds_ W_0 (w.heap.size + 1 + 1) #[Value.bool false,Value.slice none 0 0]:=⟨⟨_,K2⟩,by simp [noDig]⟩
 clear K0 K1 K2
 refine Nf9 (G:=fun a=>Code.wp _ _ _ a _) 46 ?_
 intro a_0 ha hN_0 hD_0
 have e2_0:=gl ha 2 w.heap.size
 have e3_0:=gl ha 3 (w.heap.size + 1)
 have e4_0:=gl ha 4 (w.heap.size + 1 + 1)
 repeat first | apply gn | apply go
 refine Wl9 bb_0 [gk w.heap.size 0,KT9,gk (w.heap.size + 1) 0,KF9,KF9] [[],[0],[],[2],[1,3]] [7,8,9,10,11] [] [] ?_ ?_
 ·
   refine p01 (hN:=hN_0) e2_0 ?_; refine aa rfl rfl (aq (s:=true) f1_0 hx rfl rfl) ?_; refine p01 (hN:=hN_0) e3_0 ?_; refine aa rfl rfl (aq (s:=false) f2_0 hy rfl rfl) ?_; refine p20 (hN:=hN_0) ?_; exact ai rfl
 intro W_1 x a_1 hC hall ha hN_1 hD_1 bb_1
 have e2_1:=ab ha e2_0
 have e3_1:=ab ha e3_0
 have e4_1:=ab ha e4_0
 have f1_1:=hC.at0 f1_0
 have f2_1:=hC.at0 f2_0
 have R_1:=hC.holds R_0
 have e11_1:=Sn9 ha hall 11 4
 repeat first | apply gn | apply go
 refine wp_cond_false e11_1 ?_
 repeat first | apply gn | apply go
 refine Wl9 bb_1 [gk w.heap.size 1,kRow (zx),gk (w.heap.size + 1) 1,kRow (zy),kRB ((((zx).natAbs - (zy).natAbs : Nat) : Int)) true,kRB ((((zx).natAbs - (zy).natAbs : Nat) : Int)) true,kRow ((((zx).natAbs - (zy).natAbs : Nat) : Int)),KT9,kRow ((((zx).natAbs - (zy).natAbs : Nat) : Int)),KT9] [[],[0],[],[2],[1,3],[4],[5],[5],[6],[7]] [22,23,24,25,26,21,27,28,5,6] [] [] ?_ ?_
 ·
   refine p01 (hN:=hN_1) e2_1 ?_; refine aa rfl rfl (ah f1_1 rfl rfl) ?_; refine p01 (hN:=hN_1) e3_1 ?_; refine aa rfl rfl (ah f2_1 rfl rfl) ?_; refine aa rfl rfl (an rfl rfl rfl fun hC h1 h2=>r1_sub (N:=M) h1 h2 H1.out.2.2 H2.out.2.2 (by first | decide | (have:=hM.out; omega)) rfl (decide_eq_true hle)) ?_; refine aa rfl rfl (fo rfl rfl) ?_; refine aa rfl rfl (du rfl rfl ext_row) ?_; refine aa rfl rfl (du rfl rfl ext_rok) ?_; refine aa rfl rfl (fq rfl rfl) ?_; refine p10 (hN:=hN_1) ?_; exact ai rfl
 intro W_2 x a_2 hC hall ha hN_2 hD_2 bb_2
 have e2_2:=ab ha e2_1
 have e4_2:=ab ha e4_1
 have f1_2:=hC.at0 f1_1
 have R_2:=hC.holds R_1
 have e6_2:=Sn9 ha hall 6 9
 obtain ⟨v5_2,hv⟩ : ∃ v,v = x 8:=⟨_,rfl⟩
 have e5_2:=(az (t:=5) (i:=8) ha).trans hv.symm
 have z5_2 : Rr W_2 v5_2 ((((zx).natAbs - (zy).natAbs : Nat) : Int)).natAbs:=by rw [hv]; exact hall 8 (of_decide_eq_true (by kernel_rfl))
 clear hv
 repeat first | apply gn | apply go
 refine Wl9 bb_2 [KT9] [[]] [29] [] [] ?_ ?_
 ·
   refine p01 (hN:=hN_2) e6_2 ?_; exact ai rfl
 intro W_3 x a_3 hC hall ha hN_3 hD_3 bb_3
 have e2_3:=ab ha e2_2
 have e4_3:=ab ha e4_2
 have e5_3:=ab ha e5_2
 have f1_3:=hC.at0 f1_2
 have R_3:=hC.holds R_2
 have z5_3:=hC.rr z5_2
 have e29_3:=Sn9 ha hall 29 0
 repeat first | apply gn | apply go
 refine wp_cond_true e29_3 ?_
 repeat first | apply gn | apply go
 refine Wr9 bb_3 R_3 [gk w.heap.size 0,KT9,kRow ((((zx).natAbs - (zy).natAbs : Nat) : Int)),kZ M (zOf (((((zx).natAbs - (zy).natAbs : Nat) : Int)).natAbs) true),kResZ (w.heap.size + 1 + 1) M (zOf (((((zx).natAbs - (zy).natAbs : Nat) : Int)).natAbs) true)] [[],[0],[],[1,2],[3]] [30,31,32,33,999] [] [] ?_ ?_
 ·
   refine p01 (hN:=hN_3) e2_3 ?_; refine aa rfl rfl (aq (s:=true) (hG:=(by simp only [List.mem_singleton]; omega)) f1_3 hx rfl rfl) ?_; refine aa rfl rfl (ei e5_3 z5_3 (fun w hC=>hC.rr z5_3) rfl) ?_; refine aa rfl rfl (an rfl rfl rfl fun hC h1 h2=>tz (r2_mkB h1 h2 (less_lt H1.out.2.2) (by first | decide | (have:=hM.out; omega)))) ?_; refine aa rfl rfl (dj R_3 e4_3 rfl rfl) ?_; exact ai rfl
 intro W x a1 hC hall ha hN1 hD1 bb1
 obtain ⟨cs,hg,hP⟩:=Hs9 hall 4
 have e1:=ab (t:=4) ha e4_3
 repeat first | apply gn | apply go
 refine wp_ret ?_
 repeat (refine then_r ?_)
 exact cw (t:=4) rfl hD1 e1 hg hP fun v hv=>⟨v,rfl,hv,bb1⟩
theorem r2_plus_np_lt {M : Nat} (hM : Hid (M ≤ 1080)) {w : World} {v1 v2 : Value} {zx zy : Int} (hx : decide (zx < 0) = true) (hy : decide (zy < 0) = false) (hle : ¬ zy.natAbs ≤ zx.natAbs) (h1 : Zr w v1 M (zx)) (h2 : Zr w v2 M (zy)) :
   Calls Tryz.prog 100 #[v1,v2] w (TellsZ w M (zOf (((((zy).natAbs - (zx).natAbs : Nat) : Int)).natAbs) false)):=by
 obtain ⟨A1,l1,c1,rfl,r1,u1⟩:=h1
 obtain ⟨b1,hb1⟩ : ∃ s,s = decide (zx < 0):=⟨_,rfl⟩
 rw [← hb1]
 have H1:=Lib.hid (show _ ∧ _ ∧ _ from ⟨hb1,r1,u1⟩)
 clear hb1 r1 u1
 obtain ⟨A2,l2,c2,rfl,r2,u2⟩:=h2
 obtain ⟨b2,hb2⟩ : ∃ s,s = decide (zy < 0):=⟨_,rfl⟩
 rw [← hb2]
 have H2:=Lib.hid (show _ ∧ _ ∧ _ from ⟨hb2,r2,u2⟩)
 clear hb2 r2 u2
 go_enter Tryz.func100,Tryz.ntmps100
 repeat apply wp_seq
 refine Rk9 fun K HK=>?_
 go_wp2
 refine HK.out _ _ (then_n ?_)
 refine O39 (G:=fun W=>Code.wp _ _ _ _ W) ?_
 intro W_0 bb_0 K0 K1 K2
 obtain ⟨m1,n1,_,_⟩:=cell_of_two K0
 have f1_0 : AtR W_0 (w.heap.size) 0 M (zx):=⟨A1,l1,c1,by rw [← H1.out.1]; exact m1,n1,A1,l1,c1,rfl,H1.out.2.1.below bb_0,H1.out.2.2⟩
 clear m1 n1
 obtain ⟨m2,n2,_,_⟩:=cell_of_two K1
 have f2_0 : AtR W_0 (w.heap.size + 1) 0 M (zy):=⟨A2,l2,c2,by rw [← H2.out.1]; exact m2,n2,A2,l2,c2,rfl,H2.out.2.1.below bb_0,H2.out.2.2⟩
 clear m2 n2
 have R_0 : Holds_ W_0 (w.heap.size + 1 + 1) #[Value.bool false,Value.slice none 0 0]:=⟨⟨_,K2⟩,by simp [noDig]⟩
 clear K0 K1 K2
 refine Nf9 (G:=fun a=>Code.wp _ _ _ a _) 46 ?_
 intro a_0 ha hN_0 hD_0
 have e2_0:=gl ha 2 w.heap.size
 have e3_0:=gl ha 3 (w.heap.size + 1)
 have e4_0:=gl ha 4 (w.heap.size + 1 + 1)
 repeat first | apply gn | apply go
 refine Wl9 bb_0 [gk w.heap.size 0,KT9,gk (w.heap.size + 1) 0,KF9,KF9] [[],[0],[],[2],[1,3]] [7,8,9,10,11] [] [] ?_ ?_
 ·
   refine p01 (hN:=hN_0) e2_0 ?_; refine aa rfl rfl (aq (s:=true) f1_0 hx rfl rfl) ?_; refine p01 (hN:=hN_0) e3_0 ?_; refine aa rfl rfl (aq (s:=false) f2_0 hy rfl rfl) ?_; refine p20 (hN:=hN_0) ?_; exact ai rfl
 intro W_1 x a_1 hC hall ha hN_1 hD_1 bb_1
 have e2_1:=ab ha e2_0
 have e3_1:=ab ha e3_0
 have e4_1:=ab ha e4_0
 have f1_1:=hC.at0 f1_0
 have f2_1:=hC.at0 f2_0
 have R_1:=hC.holds R_0
 have e11_1:=Sn9 ha hall 11 4
 repeat first | apply gn | apply go
 refine wp_cond_false e11_1 ?_
 repeat first | apply gn | apply go
 refine Wl9 bb_1 [gk w.heap.size 1,kRow (zx),gk (w.heap.size + 1) 1,kRow (zy),kRB ((((zx).natAbs - (zy).natAbs : Nat) : Int)) false,kRB ((((zx).natAbs - (zy).natAbs : Nat) : Int)) false,kRow ((((zx).natAbs - (zy).natAbs : Nat) : Int)),KF9,kRow ((((zx).natAbs - (zy).natAbs : Nat) : Int)),KF9] [[],[0],[],[2],[1,3],[4],[5],[5],[6],[7]] [22,23,24,25,26,21,27,28,5,6] [] [] ?_ ?_
 ·
   refine p01 (hN:=hN_1) e2_1 ?_; refine aa rfl rfl (ah f1_1 rfl rfl) ?_; refine p01 (hN:=hN_1) e3_1 ?_; refine aa rfl rfl (ah f2_1 rfl rfl) ?_; refine aa rfl rfl (an rfl rfl rfl fun hC h1 h2=>r1_sub (N:=M) h1 h2 H1.out.2.2 H2.out.2.2 (by first | decide | (have:=hM.out; omega)) rfl (decide_eq_false hle)) ?_; refine aa rfl rfl (fo rfl rfl) ?_; refine aa rfl rfl (du rfl rfl ext_row) ?_; refine aa rfl rfl (du rfl rfl ext_rok) ?_; refine aa rfl rfl (fq rfl rfl) ?_; refine p10 (hN:=hN_1) ?_; exact ai rfl
 intro W_2 x a_2 hC hall ha hN_2 hD_2 bb_2
 have e2_2:=ab ha e2_1
 have e3_2:=ab ha e3_1
 have e4_2:=ab ha e4_1
 have f1_2:=hC.at0 f1_1
 have f2_2:=hC.at0 f2_1
 have R_2:=hC.holds R_1
 have e6_2:=Sn9 ha hall 6 9
 obtain ⟨v5_2,hv⟩ : ∃ v,v = x 8:=⟨_,rfl⟩
 have e5_2:=(az (t:=5) (i:=8) ha).trans hv.symm
 have z5_2 : Rr W_2 v5_2 ((((zx).natAbs - (zy).natAbs : Nat) : Int)).natAbs:=by rw [hv]; exact hall 8 (of_decide_eq_true (by kernel_rfl))
 clear hv
 repeat first | apply gn | apply go
 refine Wl9 bb_2 [KF9] [[]] [29] [] [] ?_ ?_
 ·
   refine p01 (hN:=hN_2) e6_2 ?_; exact ai rfl
 intro W_3 x a_3 hC hall ha hN_3 hD_3 bb_3
 have e2_3:=ab ha e2_2
 have e3_3:=ab ha e3_2
 have e4_3:=ab ha e4_2
 have f1_3:=hC.at0 f1_2
 have f2_3:=hC.at0 f2_2
 have R_3:=hC.holds R_2
 have e29_3:=Sn9 ha hall 29 0
 repeat first | apply gn | apply go
 refine wp_cond_false e29_3 ?_
 repeat first | apply gn | apply go
 refine Wl9 bb_3 [gk (w.heap.size + 1) 1,kRow (zy),gk w.heap.size 1,kRow (zx),kRB ((((zy).natAbs - (zx).natAbs : Nat) : Int)) true,kRB ((((zy).natAbs - (zx).natAbs : Nat) : Int)) true,kRow ((((zy).natAbs - (zx).natAbs : Nat) : Int)),KT9,kRow ((((zy).natAbs - (zx).natAbs : Nat) : Int))] [[],[0],[],[2],[1,3],[4],[5],[5],[6]] [35,36,37,38,39,34,40,41,5] [] [] ?_ ?_
 ·
   refine p01 (hN:=hN_3) e3_3 ?_; refine aa rfl rfl (ah f2_3 rfl rfl) ?_; refine p01 (hN:=hN_3) e2_3 ?_; refine aa rfl rfl (ah f1_3 rfl rfl) ?_; refine aa rfl rfl (an rfl rfl rfl fun hC h1 h2=>r1_sub (N:=M) h1 h2 H2.out.2.2 H1.out.2.2 (by first | decide | (have:=hM.out; omega)) rfl (decide_eq_true (by omega))) ?_; refine aa rfl rfl (fo rfl rfl) ?_; refine aa rfl rfl (du rfl rfl ext_row) ?_; refine aa rfl rfl (du rfl rfl ext_rok) ?_; refine aa rfl rfl (fq rfl rfl) ?_; exact ai rfl
 intro W_4 x a_4 hC hall ha hN_4 hD_4 bb_4
 have e3_4:=ab ha e3_3
 have e4_4:=ab ha e4_3
 have f2_4:=hC.at0 f2_3
 have R_4:=hC.holds R_3
 obtain ⟨v5_4,hv⟩ : ∃ v,v = x 8:=⟨_,rfl⟩
 have e5_4:=(az (t:=5) (i:=8) ha).trans hv.symm
 have z5_4 : Rr W_4 v5_4 ((((zy).natAbs - (zx).natAbs : Nat) : Int)).natAbs:=by rw [hv]; exact hall 8 (of_decide_eq_true (by kernel_rfl))
 clear hv
 repeat first | apply gn | apply go
 refine Wr9 bb_4 R_4 [gk (w.heap.size + 1) 0,KF9,kRow ((((zy).natAbs - (zx).natAbs : Nat) : Int)),kZ M (zOf (((((zy).natAbs - (zx).natAbs : Nat) : Int)).natAbs) false),kResZ (w.heap.size + 1 + 1) M (zOf (((((zy).natAbs - (zx).natAbs : Nat) : Int)).natAbs) false)] [[],[0],[],[1,2],[3]] [42,43,44,45,999] [] [] ?_ ?_
 ·
   refine p01 (hN:=hN_4) e3_4 ?_; refine aa rfl rfl (aq (s:=false) (hG:=(by simp only [List.mem_singleton]; omega)) f2_4 hy rfl rfl) ?_; refine aa rfl rfl (ei e5_4 z5_4 (fun w hC=>hC.rr z5_4) rfl) ?_; refine aa rfl rfl (an rfl rfl rfl fun hC h1 h2=>tz (r2_mkB h1 h2 (less_lt H2.out.2.2) (by first | decide | (have:=hM.out; omega)))) ?_; refine aa rfl rfl (dj R_4 e4_4 rfl rfl) ?_; exact ai rfl
 intro W x a1 hC hall ha hN1 hD1 bb1
 obtain ⟨cs,hg,hP⟩:=Hs9 hall 4
 have e1:=ab (t:=4) ha e4_4
 repeat first | apply gn | apply go
 refine wp_ret ?_
 repeat (refine then_r ?_)
 exact cw (t:=4) rfl hD1 e1 hg hP fun v hv=>⟨v,rfl,hv,bb1⟩
theorem r2_plus_pn_ge {M : Nat} (hM : Hid (M ≤ 1080)) {w : World} {v1 v2 : Value} {zx zy : Int} (hx : decide (zx < 0) = false) (hy : decide (zy < 0) = true) (hle : zy.natAbs ≤ zx.natAbs) (h1 : Zr w v1 M (zx)) (h2 : Zr w v2 M (zy)) :
   Calls Tryz.prog 100 #[v1,v2] w (TellsZ w M (zOf (((((zx).natAbs - (zy).natAbs : Nat) : Int)).natAbs) false)):=by
 obtain ⟨A1,l1,c1,rfl,r1,u1⟩:=h1
 obtain ⟨b1,hb1⟩ : ∃ s,s = decide (zx < 0):=⟨_,rfl⟩
 rw [← hb1]
 have H1:=Lib.hid (show _ ∧ _ ∧ _ from ⟨hb1,r1,u1⟩)
 clear hb1 r1 u1
 obtain ⟨A2,l2,c2,rfl,r2,u2⟩:=h2
 obtain ⟨b2,hb2⟩ : ∃ s,s = decide (zy < 0):=⟨_,rfl⟩
 rw [← hb2]
 have H2:=Lib.hid (show _ ∧ _ ∧ _ from ⟨hb2,r2,u2⟩)
 clear hb2 r2 u2
 go_enter Tryz.func100,Tryz.ntmps100
 repeat apply wp_seq
 refine Rk9 fun K HK=>?_
 go_wp2
 refine HK.out _ _ (then_n ?_)
 refine O39 (G:=fun W=>Code.wp _ _ _ _ W) ?_
 intro W_0 bb_0 K0 K1 K2
 obtain ⟨m1,n1,_,_⟩:=cell_of_two K0
 have f1_0 : AtR W_0 (w.heap.size) 0 M (zx):=⟨A1,l1,c1,by rw [← H1.out.1]; exact m1,n1,A1,l1,c1,rfl,H1.out.2.1.below bb_0,H1.out.2.2⟩
 clear m1 n1
 obtain ⟨m2,n2,_,_⟩:=cell_of_two K1
 have f2_0 : AtR W_0 (w.heap.size + 1) 0 M (zy):=⟨A2,l2,c2,by rw [← H2.out.1]; exact m2,n2,A2,l2,c2,rfl,H2.out.2.1.below bb_0,H2.out.2.2⟩
 clear m2 n2
 have R_0 : Holds_ W_0 (w.heap.size + 1 + 1) #[Value.bool false,Value.slice none 0 0]:=⟨⟨_,K2⟩,by simp [noDig]⟩
 clear K0 K1 K2
 refine Nf9 (G:=fun a=>Code.wp _ _ _ a _) 46 ?_
 intro a_0 ha hN_0 hD_0
 have e2_0:=gl ha 2 w.heap.size
 have e3_0:=gl ha 3 (w.heap.size + 1)
 have e4_0:=gl ha 4 (w.heap.size + 1 + 1)
 repeat first | apply gn | apply go
 refine Wl9 bb_0 [gk w.heap.size 0,KF9,gk (w.heap.size + 1) 0,KT9,KF9] [[],[0],[],[2],[1,3]] [7,8,9,10,11] [] [] ?_ ?_
 ·
   refine p01 (hN:=hN_0) e2_0 ?_; refine aa rfl rfl (aq (s:=false) f1_0 hx rfl rfl) ?_; refine p01 (hN:=hN_0) e3_0 ?_; refine aa rfl rfl (aq (s:=true) f2_0 hy rfl rfl) ?_; refine p20 (hN:=hN_0) ?_; exact ai rfl
 intro W_1 x a_1 hC hall ha hN_1 hD_1 bb_1
 have e2_1:=ab ha e2_0
 have e3_1:=ab ha e3_0
 have e4_1:=ab ha e4_0
 have f1_1:=hC.at0 f1_0
 have f2_1:=hC.at0 f2_0
 have R_1:=hC.holds R_0
 have e11_1:=Sn9 ha hall 11 4
 repeat first | apply gn | apply go
 refine wp_cond_false e11_1 ?_
 repeat first | apply gn | apply go
 refine Wl9 bb_1 [gk w.heap.size 1,kRow (zx),gk (w.heap.size + 1) 1,kRow (zy),kRB ((((zx).natAbs - (zy).natAbs : Nat) : Int)) true,kRB ((((zx).natAbs - (zy).natAbs : Nat) : Int)) true,kRow ((((zx).natAbs - (zy).natAbs : Nat) : Int)),KT9,kRow ((((zx).natAbs - (zy).natAbs : Nat) : Int)),KT9] [[],[0],[],[2],[1,3],[4],[5],[5],[6],[7]] [22,23,24,25,26,21,27,28,5,6] [] [] ?_ ?_
 ·
   refine p01 (hN:=hN_1) e2_1 ?_; refine aa rfl rfl (ah f1_1 rfl rfl) ?_; refine p01 (hN:=hN_1) e3_1 ?_; refine aa rfl rfl (ah f2_1 rfl rfl) ?_; refine aa rfl rfl (an rfl rfl rfl fun hC h1 h2=>r1_sub (N:=M) h1 h2 H1.out.2.2 H2.out.2.2 (by first | decide | (have:=hM.out; omega)) rfl (decide_eq_true hle)) ?_; refine aa rfl rfl (fo rfl rfl) ?_; refine aa rfl rfl (du rfl rfl ext_row) ?_; refine aa rfl rfl (du rfl rfl ext_rok) ?_; refine aa rfl rfl (fq rfl rfl) ?_; refine p10 (hN:=hN_1) ?_; exact ai rfl
 intro W_2 x a_2 hC hall ha hN_2 hD_2 bb_2
 have e2_2:=ab ha e2_1
 have e4_2:=ab ha e4_1
 have f1_2:=hC.at0 f1_1
 have R_2:=hC.holds R_1
 have e6_2:=Sn9 ha hall 6 9
 obtain ⟨v5_2,hv⟩ : ∃ v,v = x 8:=⟨_,rfl⟩
 have e5_2:=(az (t:=5) (i:=8) ha).trans hv.symm
 have z5_2 : Rr W_2 v5_2 ((((zx).natAbs - (zy).natAbs : Nat) : Int)).natAbs:=by rw [hv]; exact hall 8 (of_decide_eq_true (by kernel_rfl))
 clear hv
 repeat first | apply gn | apply go
 refine Wl9 bb_2 [KT9] [[]] [29] [] [] ?_ ?_
 ·
   refine p01 (hN:=hN_2) e6_2 ?_; exact ai rfl
 intro W_3 x a_3 hC hall ha hN_3 hD_3 bb_3
 have e2_3:=ab ha e2_2
 have e4_3:=ab ha e4_2
 have e5_3:=ab ha e5_2
 have f1_3:=hC.at0 f1_2
 have R_3:=hC.holds R_2
 have z5_3:=hC.rr z5_2
 have e29_3:=Sn9 ha hall 29 0
 repeat first | apply gn | apply go
 refine wp_cond_true e29_3 ?_
 repeat first | apply gn | apply go
 refine Wr9 bb_3 R_3 [gk w.heap.size 0,KF9,kRow ((((zx).natAbs - (zy).natAbs : Nat) : Int)),kZ M (zOf (((((zx).natAbs - (zy).natAbs : Nat) : Int)).natAbs) false),kResZ (w.heap.size + 1 + 1) M (zOf (((((zx).natAbs - (zy).natAbs : Nat) : Int)).natAbs) false)] [[],[0],[],[1,2],[3]] [30,31,32,33,999] [] [] ?_ ?_
 ·
   refine p01 (hN:=hN_3) e2_3 ?_; refine aa rfl rfl (aq (s:=false) (hG:=(by simp only [List.mem_singleton]; omega)) f1_3 hx rfl rfl) ?_; refine aa rfl rfl (ei e5_3 z5_3 (fun w hC=>hC.rr z5_3) rfl) ?_; refine aa rfl rfl (an rfl rfl rfl fun hC h1 h2=>tz (r2_mkB h1 h2 (less_lt H1.out.2.2) (by first | decide | (have:=hM.out; omega)))) ?_; refine aa rfl rfl (dj R_3 e4_3 rfl rfl) ?_; exact ai rfl
 intro W x a1 hC hall ha hN1 hD1 bb1
 obtain ⟨cs,hg,hP⟩:=Hs9 hall 4
 have e1:=ab (t:=4) ha e4_3
 repeat first | apply gn | apply go
 refine wp_ret ?_
 repeat (refine then_r ?_)
 exact cw (t:=4) rfl hD1 e1 hg hP fun v hv=>⟨v,rfl,hv,bb1⟩
theorem r2_plus_pn_lt {M : Nat} (hM : Hid (M ≤ 1080)) {w : World} {v1 v2 : Value} {zx zy : Int} (hx : decide (zx < 0) = false) (hy : decide (zy < 0) = true) (hle : ¬ zy.natAbs ≤ zx.natAbs) (h1 : Zr w v1 M (zx)) (h2 : Zr w v2 M (zy)) :
   Calls Tryz.prog 100 #[v1,v2] w (TellsZ w M (zOf (((((zy).natAbs - (zx).natAbs : Nat) : Int)).natAbs) true)):=by
 obtain ⟨A1,l1,c1,rfl,r1,u1⟩:=h1
 obtain ⟨b1,hb1⟩ : ∃ s,s = decide (zx < 0):=⟨_,rfl⟩
 rw [← hb1]
 have H1:=Lib.hid (show _ ∧ _ ∧ _ from ⟨hb1,r1,u1⟩)
 clear hb1 r1 u1
 obtain ⟨A2,l2,c2,rfl,r2,u2⟩:=h2
 obtain ⟨b2,hb2⟩ : ∃ s,s = decide (zy < 0):=⟨_,rfl⟩
 rw [← hb2]
 have H2:=Lib.hid (show _ ∧ _ ∧ _ from ⟨hb2,r2,u2⟩)
 clear hb2 r2 u2
 go_enter Tryz.func100,Tryz.ntmps100
 repeat apply wp_seq
 refine Rk9 fun K HK=>?_
 go_wp2
 refine HK.out _ _ (then_n ?_)
 refine O39 (G:=fun W=>Code.wp _ _ _ _ W) ?_
 intro W_0 bb_0 K0 K1 K2
 obtain ⟨m1,n1,_,_⟩:=cell_of_two K0
 have f1_0 : AtR W_0 (w.heap.size) 0 M (zx):=⟨A1,l1,c1,by rw [← H1.out.1]; exact m1,n1,A1,l1,c1,rfl,H1.out.2.1.below bb_0,H1.out.2.2⟩
 clear m1 n1
 obtain ⟨m2,n2,_,_⟩:=cell_of_two K1
 have f2_0 : AtR W_0 (w.heap.size + 1) 0 M (zy):=⟨A2,l2,c2,by rw [← H2.out.1]; exact m2,n2,A2,l2,c2,rfl,H2.out.2.1.below bb_0,H2.out.2.2⟩
 clear m2 n2
 have R_0 : Holds_ W_0 (w.heap.size + 1 + 1) #[Value.bool false,Value.slice none 0 0]:=⟨⟨_,K2⟩,by simp [noDig]⟩
 clear K0 K1 K2
 refine Nf9 (G:=fun a=>Code.wp _ _ _ a _) 46 ?_
 intro a_0 ha hN_0 hD_0
 have e2_0:=gl ha 2 w.heap.size
 have e3_0:=gl ha 3 (w.heap.size + 1)
 have e4_0:=gl ha 4 (w.heap.size + 1 + 1)
 repeat first | apply gn | apply go
 refine Wl9 bb_0 [gk w.heap.size 0,KF9,gk (w.heap.size + 1) 0,KT9,KF9] [[],[0],[],[2],[1,3]] [7,8,9,10,11] [] [] ?_ ?_
 ·
   refine p01 (hN:=hN_0) e2_0 ?_; refine aa rfl rfl (aq (s:=false) f1_0 hx rfl rfl) ?_; refine p01 (hN:=hN_0) e3_0 ?_; refine aa rfl rfl (aq (s:=true) f2_0 hy rfl rfl) ?_; refine p20 (hN:=hN_0) ?_; exact ai rfl
 intro W_1 x a_1 hC hall ha hN_1 hD_1 bb_1
 have e2_1:=ab ha e2_0
 have e3_1:=ab ha e3_0
 have e4_1:=ab ha e4_0
 have f1_1:=hC.at0 f1_0
 have f2_1:=hC.at0 f2_0
 have R_1:=hC.holds R_0
 have e11_1:=Sn9 ha hall 11 4
 repeat first | apply gn | apply go
 refine wp_cond_false e11_1 ?_
 repeat first | apply gn | apply go
 refine Wl9 bb_1 [gk w.heap.size 1,kRow (zx),gk (w.heap.size + 1) 1,kRow (zy),kRB ((((zx).natAbs - (zy).natAbs : Nat) : Int)) false,kRB ((((zx).natAbs - (zy).natAbs : Nat) : Int)) false,kRow ((((zx).natAbs - (zy).natAbs : Nat) : Int)),KF9,kRow ((((zx).natAbs - (zy).natAbs : Nat) : Int)),KF9] [[],[0],[],[2],[1,3],[4],[5],[5],[6],[7]] [22,23,24,25,26,21,27,28,5,6] [] [] ?_ ?_
 ·
   refine p01 (hN:=hN_1) e2_1 ?_; refine aa rfl rfl (ah f1_1 rfl rfl) ?_; refine p01 (hN:=hN_1) e3_1 ?_; refine aa rfl rfl (ah f2_1 rfl rfl) ?_; refine aa rfl rfl (an rfl rfl rfl fun hC h1 h2=>r1_sub (N:=M) h1 h2 H1.out.2.2 H2.out.2.2 (by first | decide | (have:=hM.out; omega)) rfl (decide_eq_false hle)) ?_; refine aa rfl rfl (fo rfl rfl) ?_; refine aa rfl rfl (du rfl rfl ext_row) ?_; refine aa rfl rfl (du rfl rfl ext_rok) ?_; refine aa rfl rfl (fq rfl rfl) ?_; refine p10 (hN:=hN_1) ?_; exact ai rfl
 intro W_2 x a_2 hC hall ha hN_2 hD_2 bb_2
 have e2_2:=ab ha e2_1
 have e3_2:=ab ha e3_1
 have e4_2:=ab ha e4_1
 have f1_2:=hC.at0 f1_1
 have f2_2:=hC.at0 f2_1
 have R_2:=hC.holds R_1
 have e6_2:=Sn9 ha hall 6 9
 obtain ⟨v5_2,hv⟩ : ∃ v,v = x 8:=⟨_,rfl⟩
 have e5_2:=(az (t:=5) (i:=8) ha).trans hv.symm
 have z5_2 : Rr W_2 v5_2 ((((zx).natAbs - (zy).natAbs : Nat) : Int)).natAbs:=by rw [hv]; exact hall 8 (of_decide_eq_true (by kernel_rfl))
 clear hv
 repeat first | apply gn | apply go
 refine Wl9 bb_2 [KF9] [[]] [29] [] [] ?_ ?_
 ·
   refine p01 (hN:=hN_2) e6_2 ?_; exact ai rfl
 intro W_3 x a_3 hC hall ha hN_3 hD_3 bb_3
 have e2_3:=ab ha e2_2
 have e3_3:=ab ha e3_2
 have e4_3:=ab ha e4_2
 have f1_3:=hC.at0 f1_2
 have f2_3:=hC.at0 f2_2
 have R_3:=hC.holds R_2
 have e29_3:=Sn9 ha hall 29 0
 repeat first | apply gn | apply go
 refine wp_cond_false e29_3 ?_
 repeat first | apply gn | apply go
 refine Wl9 bb_3 [gk (w.heap.size + 1) 1,kRow (zy),gk w.heap.size 1,kRow (zx),kRB ((((zy).natAbs - (zx).natAbs : Nat) : Int)) true,kRB ((((zy).natAbs - (zx).natAbs : Nat) : Int)) true,kRow ((((zy).natAbs - (zx).natAbs : Nat) : Int)),KT9,kRow ((((zy).natAbs - (zx).natAbs : Nat) : Int))] [[],[0],[],[2],[1,3],[4],[5],[5],[6]] [35,36,37,38,39,34,40,41,5] [] [] ?_ ?_
 ·
   refine p01 (hN:=hN_3) e3_3 ?_; refine aa rfl rfl (ah f2_3 rfl rfl) ?_; refine p01 (hN:=hN_3) e2_3 ?_; refine aa rfl rfl (ah f1_3 rfl rfl) ?_; refine aa rfl rfl (an rfl rfl rfl fun hC h1 h2=>r1_sub (N:=M) h1 h2 H2.out.2.2 H1.out.2.2 (by first | decide | (have:=hM.out; omega)) rfl (decide_eq_true (by omega))) ?_; refine aa rfl rfl (fo rfl rfl) ?_; refine aa rfl rfl (du rfl rfl ext_row) ?_; refine aa rfl rfl (du rfl rfl ext_rok) ?_; refine aa rfl rfl (fq rfl rfl) ?_; exact ai rfl
 intro W_4 x a_4 hC hall ha hN_4 hD_4 bb_4
 have e3_4:=ab ha e3_3
 have e4_4:=ab ha e4_3
 have f2_4:=hC.at0 f2_3
 have R_4:=hC.holds R_3
 obtain ⟨v5_4,hv⟩ : ∃ v,v = x 8:=⟨_,rfl⟩
 have e5_4:=(az (t:=5) (i:=8) ha).trans hv.symm
 have z5_4 : Rr W_4 v5_4 ((((zy).natAbs - (zx).natAbs : Nat) : Int)).natAbs:=by rw [hv]; exact hall 8 (of_decide_eq_true (by kernel_rfl))
 clear hv
 repeat first | apply gn | apply go
 refine Wr9 bb_4 R_4 [gk (w.heap.size + 1) 0,KT9,kRow ((((zy).natAbs - (zx).natAbs : Nat) : Int)),kZ M (zOf (((((zy).natAbs - (zx).natAbs : Nat) : Int)).natAbs) true),kResZ (w.heap.size + 1 + 1) M (zOf (((((zy).natAbs - (zx).natAbs : Nat) : Int)).natAbs) true)] [[],[0],[],[1,2],[3]] [42,43,44,45,999] [] [] ?_ ?_
 ·
   refine p01 (hN:=hN_4) e3_4 ?_; refine aa rfl rfl (aq (s:=true) (hG:=(by simp only [List.mem_singleton]; omega)) f2_4 hy rfl rfl) ?_; refine aa rfl rfl (ei e5_4 z5_4 (fun w hC=>hC.rr z5_4) rfl) ?_; refine aa rfl rfl (an rfl rfl rfl fun hC h1 h2=>tz (r2_mkB h1 h2 (less_lt H2.out.2.2) (by first | decide | (have:=hM.out; omega)))) ?_; refine aa rfl rfl (dj R_4 e4_4 rfl rfl) ?_; exact ai rfl
 intro W x a1 hC hall ha hN1 hD1 bb1
 obtain ⟨cs,hg,hP⟩:=Hs9 hall 4
 have e1:=ab (t:=4) ha e4_4
 repeat first | apply gn | apply go
 refine wp_ret ?_
 repeat (refine then_r ?_)
 exact cw (t:=4) rfl hD1 e1 hg hP fun v hv=>⟨v,rfl,hv,bb1⟩
theorem r2_plus_pp {M : Nat} (hM : Hid (M ≤ 1080)) {w : World} {v1 v2 : Value} {zx zy : Int} (hx : decide (zx < 0) = false) (hy : decide (zy < 0) = false) (h1 : Zr w v1 M (zx)) (h2 : Zr w v2 M (zy)) :
   Calls Tryz.prog 100 #[v1,v2] w (TellsZ w (M + 1) (zOf (((((zx).natAbs + (zy).natAbs : Nat) : Int)).natAbs) false)):=by
 obtain ⟨A1,l1,c1,rfl,r1,u1⟩:=h1
 obtain ⟨b1,hb1⟩ : ∃ s,s = decide (zx < 0):=⟨_,rfl⟩
 rw [← hb1]
 have H1:=Lib.hid (show _ ∧ _ ∧ _ from ⟨hb1,r1,u1⟩)
 clear hb1 r1 u1
 obtain ⟨A2,l2,c2,rfl,r2,u2⟩:=h2
 obtain ⟨b2,hb2⟩ : ∃ s,s = decide (zy < 0):=⟨_,rfl⟩
 rw [← hb2]
 have H2:=Lib.hid (show _ ∧ _ ∧ _ from ⟨hb2,r2,u2⟩)
 clear hb2 r2 u2
 go_enter Tryz.func100,Tryz.ntmps100
 repeat apply wp_seq
 refine Rk9 fun K HK=>?_
 go_wp2
 refine HK.out _ _ (then_n ?_)
 refine O39 (G:=fun W=>Code.wp _ _ _ _ W) ?_
 intro W_0 bb_0 K0 K1 K2
 obtain ⟨m1,n1,_,_⟩:=cell_of_two K0
 have f1_0 : AtR W_0 (w.heap.size) 0 M (zx):=⟨A1,l1,c1,by rw [← H1.out.1]; exact m1,n1,A1,l1,c1,rfl,H1.out.2.1.below bb_0,H1.out.2.2⟩
 clear m1 n1
 obtain ⟨m2,n2,_,_⟩:=cell_of_two K1
 have f2_0 : AtR W_0 (w.heap.size + 1) 0 M (zy):=⟨A2,l2,c2,by rw [← H2.out.1]; exact m2,n2,A2,l2,c2,rfl,H2.out.2.1.below bb_0,H2.out.2.2⟩
 clear m2 n2
 have R_0 : Holds_ W_0 (w.heap.size + 1 + 1) #[Value.bool false,Value.slice none 0 0]:=⟨⟨_,K2⟩,by simp [noDig]⟩
 clear K0 K1 K2
 refine Nf9 (G:=fun a=>Code.wp _ _ _ a _) 46 ?_
 intro a_0 ha hN_0 hD_0
 have e2_0:=gl ha 2 w.heap.size
 have e3_0:=gl ha 3 (w.heap.size + 1)
 have e4_0:=gl ha 4 (w.heap.size + 1 + 1)
 repeat first | apply gn | apply go
 refine Wl9 bb_0 [gk w.heap.size 0,KF9,gk (w.heap.size + 1) 0,KF9,KT9] [[],[0],[],[2],[1,3]] [7,8,9,10,11] [] [] ?_ ?_
 ·
   refine p01 (hN:=hN_0) e2_0 ?_; refine aa rfl rfl (aq (s:=false) f1_0 hx rfl rfl) ?_; refine p01 (hN:=hN_0) e3_0 ?_; refine aa rfl rfl (aq (s:=false) f2_0 hy rfl rfl) ?_; refine p20 (hN:=hN_0) ?_; exact ai rfl
 intro W_1 x a_1 hC hall ha hN_1 hD_1 bb_1
 have e2_1:=ab ha e2_0
 have e3_1:=ab ha e3_0
 have e4_1:=ab ha e4_0
 have f1_1:=hC.at0 f1_0
 have f2_1:=hC.at0 f2_0
 have R_1:=hC.holds R_0
 have e11_1:=Sn9 ha hall 11 4
 repeat first | apply gn | apply go
 refine wp_cond_true e11_1 ?_
 repeat first | apply gn | apply go
 refine Wr9 bb_1 R_1 [gk w.heap.size 0,KF9,gk w.heap.size 1,kRow (zx),gk (w.heap.size + 1) 1,kRow (zy),kRR ((zx).natAbs) ((zy).natAbs),kRow ((((zx).natAbs + (zy).natAbs : Nat) : Int)),kZ (M + 1) (zOf (((((zx).natAbs + (zy).natAbs : Nat) : Int)).natAbs) false),kResZ (w.heap.size + 1 + 1) (M + 1) (zOf (((((zx).natAbs + (zy).natAbs : Nat) : Int)).natAbs) false)] [[],[0],[],[2],[],[4],[3,5],[6],[1,7],[8]] [12,13,14,15,16,17,18,19,20,999] [] [] ?_ ?_
 ·
   refine p01 (hN:=hN_1) e2_1 ?_; refine aa rfl rfl (aq (s:=false) (hG:=(by simp only [List.mem_singleton]; omega)) f1_1 hx rfl rfl) ?_; refine p01 (hN:=hN_1) e2_1 ?_; refine aa rfl rfl (ah (hG:=(by simp only [List.mem_singleton]; omega)) f1_1 rfl rfl) ?_; refine p01 (hN:=hN_1) e3_1 ?_; refine aa rfl rfl (ah (hG:=(by simp only [List.mem_singleton]; omega)) f2_1 rfl rfl) ?_; refine aa rfl rfl (st_rows2 rfl rfl rfl) ?_; refine aa rfl rfl (cg hN_1 rfl rfl fun hC h1=>tr rfl (r1_add (N:=M + 1) h1 (two_lt H1.out.2.2 H2.out.2.2) (by first | decide | (have:=hM.out; omega)))) ?_; refine aa rfl rfl (an rfl rfl rfl fun hC h1 h2=>tz (r2_mkB h1 h2 (two_lt H1.out.2.2 H2.out.2.2) (by first | decide | (have:=hM.out; omega)))) ?_; refine aa rfl rfl (dj R_1 e4_1 rfl rfl) ?_; exact ai rfl
 intro W x a1 hC hall ha hN1 hD1 bb1
 obtain ⟨cs,hg,hP⟩:=Hs9 hall 9
 have e1:=ab (t:=4) ha e4_1
 repeat first | apply gn | apply go
 refine wp_ret ?_
 repeat (refine then_r ?_)
 exact cw (t:=4) rfl hD1 e1 hg hP fun v hv=>⟨v,rfl,hv,bb1⟩
theorem dh {w : World} {j k : Nat} {z z' : Int} {P : Program} {F : FuncId} {vs : Array Value} (h : Calls P F vs w (TellsZ w j z)) (hj : j ≤ k) (e : z = z') : Calls P F vs w (TellsZ w k z'):=by
 subst e
 exact h.mono fun _ _ ⟨v,e,hz,hb⟩=>⟨v,e,hz.mono hj,hb⟩
theorem r2_plusM {M : Nat} (hM : Hid (M ≤ 1080)) {w : World} {v1 v2 : Value} {x y : Int} (h1 : Zr w v1 M x) (h2 : Zr w v2 M y) : Calls Tryz.prog 100 #[v1,v2] w (TellsZ w (M + 1) (x + y)):=by
 by_cases hx : x < 0 <;> by_cases hy : y < 0
 · exact dh (r2_plus_nn hM (decide_eq_true hx) (decide_eq_true hy) h1 h2) (by first | exact Nat.le_refl _ | omega) (by simp only [zOf,Int.natAbs_natCast,if_true]; omega)
 · by_cases hle : y.natAbs ≤ x.natAbs
   · exact dh (r2_plus_np_ge hM (decide_eq_true hx) (decide_eq_false hy) hle h1 h2) (by first | exact Nat.le_refl _ | omega) (by simp only [zOf,Int.natAbs_natCast,if_true]; omega)
   · exact dh (r2_plus_np_lt hM (decide_eq_true hx) (decide_eq_false hy) hle h1 h2) (by first | exact Nat.le_refl _ | omega) (by simp only [zOf,Int.natAbs_natCast,Bool.false_eq_true,if_false]; omega)
 · by_cases hle : y.natAbs ≤ x.natAbs
   · exact dh (r2_plus_pn_ge hM (decide_eq_false hx) (decide_eq_true hy) hle h1 h2) (by first | exact Nat.le_refl _ | omega) (by simp only [zOf,Int.natAbs_natCast,Bool.false_eq_true,if_false]; omega)
   · exact dh (r2_plus_pn_lt hM (decide_eq_false hx) (decide_eq_true hy) hle h1 h2) (by first | exact Nat.le_refl _ | omega) (by simp only [zOf,Int.natAbs_natCast,if_true]; omega)
 · exact dh (r2_plus_pp hM (decide_eq_false hx) (decide_eq_false hy) h1 h2) (by first | exact Nat.le_refl _ | omega) (by simp only [zOf,Int.natAbs_natCast,Bool.false_eq_true,if_false]; omega)
theorem in_block {id : Nat} {Q : Exit → Act → World → Prop} {a : Act} {w : World} (h : Q .normal a w) : Exit.inBlock id Q .normal a w:=h
theorem then_x {next : Act → World → Prop} {id : Nat} {Q : Exit → Act → World → Prop} {a : Act} {w : World} (h : Q (.exit id) a w) : Exit.then next Q (.exit id) a w:=h
theorem out_block {id : Nat} {Q : Exit → Act → World → Prop} {a : Act} {w : World} (h : Q .normal a w) : Exit.inBlock id Q (.exit id) a w:=by
 show (if id = id then Q .normal a w else _)
 rw [if_pos rfl]; exact h
theorem cx {P : Program} {ops : Array Oper} {Q : Exit → Act → World → Prop} {i : Nat} {rest : List Nat} {o : Oper} {a : Act} {w : World} {v : Value} (ho : ops[i]? = some o) (hg : o.guard = none) (h : (execOp a.eval o).run P w = .ok (.value v) w) (hk : wpOps P ops Q rest (a.put o.dst v) w) : wpOps P ops Q (i :: rest) a w:=by
 rw [wpOps_cons]
 unfold wpOp
 rw [ho]
 have hw : Region.wanted o (yielded ops a.tmps) = true:=by simp [Region.wanted,hg]
 show if Region.wanted o _ = true then _ else _
 rw [if_pos hw]
 left
 unfold Oper.wp
 rw [h]
 exact hk
theorem wp_incr {P : Program} {id : Nat} {Q : Exit → Act → World → Prop} {a : Act} {w : World} {A B I N : Nat} {n m : Int} {E E2 T1 T2 T3 : TypeId} {p1 p2 p3 : String} {f1 f2 f3 : Array Edge}    (hI : a.eval (.tmp I) = .int .i64 n) (hadd : ∀ w, (binOp .add E (.int .i64 n) (.int .i64 1)).run P w = .ok (.int .i64 m) w)
   (hend : ∀ x : Nat → Value,x 2 = .int .i64 m → Q .normal (putE x a [(0,some A),(1,some B),(2,some I)]) w) (hN : a.tmps.size = N:=by assumption) (hA : decide (A < N) = true:=by kernel_rfl) (hB : decide (B < N) = true:=by kernel_rfl) :
   (Code.region id #[{ dst:=some A,op:=.move (.tmp I),type:=T1,pos:=p1,after:=f1,guard:=none },{ dst:=some B,op:=.binOp .add E (.tmp A) (.const (.int .i64 1)) E2,type:=T2,pos:=p2,after:=f2,guard:=none },{ dst:=some I,op:=.assign (.tmp B),type:=T3,pos:=p3,after:=f3,guard:=none }] false).wp P Q a w:=by
 refine wp_region ?_
 have e : List.range (#[({ dst:=some A,op:=.move (.tmp I),type:=T1,pos:=p1,after:=f1,guard:=none } : Oper),{ dst:=some B,op:=.binOp .add E (.tmp A) (.const (.int .i64 1)) E2,type:=T2,pos:=p2,after:=f2,guard:=none },{ dst:=some I,op:=.assign (.tmp B),type:=T3,pos:=p3,after:=f3,guard:=none }]).size = [0,1,2]:=rfl
 rw [e]
 refine cx (v:=.int .i64 n) rfl rfl ?_ ?_
 · show (pure (Next.value (a.eval (.tmp I))) : Sem Next).run P w = _
   rw [hI]; rfl
 refine cx (v:=.int .i64 m) rfl rfl ?_ ?_
 · have e1 : (a.put (some A) (.int .i64 n)).eval (.tmp A) = .int .i64 n:=cn _ _ _ (by rw [hN]; exact of_decide_eq_true hA)
   show (((do eqGuard .add E (.tmp A) (.const (.int .i64 1)) ((a.put (some A) (.int .i64 n)).eval (.tmp A)) (.int .i64 1); binOp .add E ((a.put (some A) (.int .i64 n)).eval (.tmp A)) (.int .i64 1)) : Sem Value) >>= fun v=>pure (Next.value v)).run P w = _
   rw [e1]
   have e2 : ((do eqGuard .add E (.tmp A) (.const (.int .i64 1)) (.int .i64 n) (.int .i64 1); binOp .add E (.int .i64 n) (.int .i64 1)) : Sem Value).run P w = .ok (.int .i64 m) w:=by
     rw [bq (v:=()) (w':=w) rfl]; exact hadd w
   rw [bq e2]; rfl
 refine cx (v:=.int .i64 m) rfl rfl ?_ ?_
 · have e1 : ((a.put (some A) (.int .i64 n)).put (some B) (.int .i64 m)).eval (.tmp B) = .int .i64 m:=cn _ _ _ (by rw [ef,hN]; exact of_decide_eq_true hB)
   show (pure (Next.value (((a.put (some A) (.int .i64 n)).put (some B) (.int .i64 m)).eval (.tmp B))) : Sem Next).run P w = _
   rw [e1]; rfl
 exact hend (fun i=>if i = 0 then .int .i64 n else .int .i64 m) rfl
theorem wp_set {P : Program} {id : Nat} {Q : Exit → Act → World → Prop} {a : Act} {w : World} {I : Nat} {v : Value} {T1 : TypeId} {p1 : String} {f1 : Array Edge}
   (hend : ∀ x : Nat → Value,x 0 = v → Q .normal (putE x a [(0,some I)]) w) :
   (Code.region id #[{ dst:=some I,op:=.assign (.const v),type:=T1,pos:=p1,after:=f1,guard:=none }] false).wp P Q a w:=by
 refine wp_region ?_
 have e : List.range (#[({ dst:=some I,op:=.assign (.const v),type:=T1,pos:=p1,after:=f1,guard:=none } : Oper)]).size = [0]:=rfl
 rw [e]
 refine cx (v:=v) rfl rfl rfl ?_
 exact hend (fun _=>v) rfl
theorem wp_less {id : Nat} {Q : Exit → Act → World → Prop} {a : Act} {w : World} {A B C D I S N : Nat} {n : Int} {b : Option Addr} {m c : Nat} {U E : TypeId} {T1 T2 T3 T4 : TypeId} {p1 p2 p3 p4 : String} {f1 f2 f3 f4 : Array Edge}        (hI : a.eval (.tmp I) = .int .i64 n) (hS : a.eval (.tmp S) = .slice b m c)
   (hlen : ∀ w,(Builtin.len_ #[U] T3 #[.slice b m c]).run Tryz.prog w = .ok (.int .i64 (m : Int)) w)
   (hless : ∀ w,(binOp .lss E (.int .i64 n) (.int .i64 (m : Int))).run Tryz.prog w = .ok (.bool (decide (n < (m : Int)))) w)
   (hend : ∀ x : Nat → Value,x 3 = .bool (decide (n < (m : Int))) → Q .normal (putE x a [(0,some A),(1,some B),(2,some C),(3,some D)]) w) (hN : a.tmps.size = N:=by assumption) (hA : decide (A < N) = true:=by kernel_rfl) (hB : decide (B < N) = true:=by kernel_rfl) (hC : decide (C < N) = true:=by kernel_rfl) (hAB : decide (A = B) = false:=by kernel_rfl) (hAC : decide (A = C) = false:=by kernel_rfl) (hSA : decide (S = A) = false:=by kernel_rfl) :
   (Code.region id #[{ dst:=some A,op:=.move (.tmp I),type:=T1,pos:=p1,after:=f1,guard:=none },{ dst:=some B,op:=.move (.tmp S),type:=T2,pos:=p2,after:=f2,guard:=none },{ dst:=some C,op:=.call { callee:=.builtin .len,args:=#[.tmp B],argTypes:=#[U] },type:=T3,pos:=p3,after:=f3,guard:=none },{ dst:=some D,op:=.binOp .lss E (.tmp A) (.tmp C) E,type:=T4,pos:=p4,after:=f4,guard:=none }] false).wp Tryz.prog Q a w:=by
 refine wp_region ?_
 have e : List.range (#[({ dst:=some A,op:=.move (.tmp I),type:=T1,pos:=p1,after:=f1,guard:=none } : Oper),{ dst:=some B,op:=.move (.tmp S),type:=T2,pos:=p2,after:=f2,guard:=none },{ dst:=some C,op:=.call { callee:=.builtin .len,args:=#[.tmp B],argTypes:=#[U] },type:=T3,pos:=p3,after:=f3,guard:=none },{ dst:=some D,op:=.binOp .lss E (.tmp A) (.tmp C) E,type:=T4,pos:=p4,after:=f4,guard:=none }]).size = [0,1,2,3]:=rfl
 rw [e]
 refine cx (v:=.int .i64 n) rfl rfl ?_ ?_
 · show (pure (Next.value (a.eval (.tmp I))) : Sem Next).run _ w = _
   rw [hI]; rfl
 have nSA:=of_decide_eq_false hSA
 refine cx (v:=.slice b m c) rfl rfl ?_ ?_
 · have e1 : (a.put (some A) (.int .i64 n)).eval (.tmp S) = .slice b m c:=(put_eval_ne a _ (fun h=>nSA (by injection h with h; exact h.symm))).trans hS
   show (pure (Next.value ((a.put (some A) (.int .i64 n)).eval (.tmp S))) : Sem Next).run _ w = _
   rw [e1]; rfl
 refine cx (v:=.int .i64 (m : Int)) rfl rfl ?_ ?_
 · have e1 : ((a.put (some A) (.int .i64 n)).put (some B) (.slice b m c)).eval (.tmp B) = .slice b m c:=cn _ _ _ (by rw [ef,hN]; exact of_decide_eq_true hB); have e2 : ((#[.tmp B] : Array Operand).map ((a.put (some A) (.int .i64 n)).put (some B) (.slice b m c)).eval) = #[.slice b m c]:=by simp [e1]
   have h2:=hlen w
   show Sem.run _ (execOp (((a.put (some A) (.int .i64 n)).put (some B) (.slice b m c))).eval { dst:=some C,op:=.call { callee:=.builtin .len,args:=#[.tmp B],argTypes:=#[U] },type:=T3,pos:=p3,after:=f3,guard:=none }) w = _
   simp only [execOp,resolve,invoke,builtin,Sem.run_bind,Sem.run_pure,Result.andThen_ok,e2,h2]
 refine cx (v:=.bool (decide (n < (m : Int)))) rfl rfl ?_ ?_
 · have nAB:=of_decide_eq_false hAB; have nAC:=of_decide_eq_false hAC; have e1 : (((a.put (some A) (.int .i64 n)).put (some B) (.slice b m c)).put (some C) (.int .i64 (m : Int))).eval (.tmp C) = .int .i64 (m : Int):=cn _ _ _ (by rw [ef,ef,hN]; exact of_decide_eq_true hC)
   have e0 : (((a.put (some A) (.int .i64 n)).put (some B) (.slice b m c)).put (some C) (.int .i64 (m : Int))).eval (.tmp A) = .int .i64 n:=by
     rw [put_eval_ne _ _ (fun h=>nAC (by injection h with h; exact h.symm)),put_eval_ne _ _ (fun h=>nAB (by injection h with h; exact h.symm))]; exact cn _ _ _ (by rw [hN]; exact of_decide_eq_true hA)
   show (((do eqGuard .lss E (.tmp A) (.tmp C) ((((a.put (some A) (.int .i64 n)).put (some B) (.slice b m c)).put (some C) (.int .i64 (m : Int))).eval (.tmp A)) ((((a.put (some A) (.int .i64 n)).put (some B) (.slice b m c)).put (some C) (.int .i64 (m : Int))).eval (.tmp C)); binOp .lss E ((((a.put (some A) (.int .i64 n)).put (some B) (.slice b m c)).put (some C) (.int .i64 (m : Int))).eval (.tmp A)) ((((a.put (some A) (.int .i64 n)).put (some B) (.slice b m c)).put (some C) (.int .i64 (m : Int))).eval (.tmp C))) : Sem Value) >>= fun v=>pure (Next.value v)).run _ w = _
   rw [e0,e1]
   have e2 : ((do eqGuard .lss E (.tmp A) (.tmp C) (.int .i64 n) (.int .i64 (m : Int)); binOp .lss E (.int .i64 n) (.int .i64 (m : Int))) : Sem Value).run Tryz.prog w = .ok (.bool (decide (n < (m : Int)))) w:=by
     rw [bq (v:=()) (w':=w) rfl]; exact hless w
   rw [bq e2]; rfl
 exact hend (fun i=>if i = 0 then .int .i64 n else if i = 1 then .slice b m c else if i = 2 then .int .i64 (m : Int) else .bool (decide (n < (m : Int)))) rfl
theorem less_run (n m : Int) : ∀ w,(binOp .lss 3 (.int .i64 n) (.int .i64 m)).run Tryz.prog w = .ok (.bool (decide (n < m))) w:=fun _=>by kernel_rfl
theorem add_run (n m : Nat) (h : n + m < 9223372036854775808) : ∀ w,(binOp .add 3 (.int .i64 (n : Int)) (.int .i64 (m : Int))).run Tryz.prog w = .ok (.int .i64 ((n + m : Nat) : Int)) w:=fun w=>by
 go_simp
 rw [IntKind.wrap_i64]; omega
def reachK (es : List (List (Nat × Option Tmp))) : Nat → List Nat → List Nat
 | 0,l=>l
 | k + 1,l=>reachK es k (l ++ (l.flatMap fun i=>(es.getD i []).map (·.1)).filter fun i=>!l.contains i)
theorem reachK_all {es : List (List (Nat × Option Tmp))} {L : Nat → Bool} (n : Nat) (hn : ∀ i, i < n → ∀ p ∈ es.getD i [], p.1 < n) (hL : ∀ i, i < n → L i = true → ∀ p ∈ es.getD i [], L p.1 = true) : ∀ (k : Nat) (l : List Nat), (∀ i ∈ l, i < n ∧ L i = true) → ∀ i ∈ reachK es k l, L i = true
 | 0,_,h=>fun i hi=>(h i hi).2
 | k + 1,l,h=>by
   refine reachK_all n hn hL k _ fun i hi=>?_; rcases List.mem_append.1 hi with hi | hi
   · exact h i hi
   · obtain ⟨j,hj,hij⟩:=List.mem_flatMap.1 (List.mem_filter.1 hi).1; obtain ⟨p,hp,rfl⟩:=List.mem_map.1 hij; exact ⟨hn j (h j hj).1 p hp,hL j (h j hj).1 (h j hj).2 p hp⟩
theorem keep_not {es : List (List (Nat × Option Tmp))} {n s j : Nat} {L : Nat → Bool} (h : (reachK es 12 [s]).contains j = true) (hs : s < n) (hn : ∀ i,i < n → ∀ p ∈ es.getD i [],p.1 < n) (hL : ∀ i,i < n → L i = true → ∀ p ∈ es.getD i [],L p.1 = true) (hj : L j = false) : L s = false:=by
 cases e : L s with
 | false=>rfl
 | true =>
   have:=reachK_all n hn hL 12 [s] (fun i hi=>by rw [List.mem_singleton.1 hi]; exact ⟨hs,e⟩) j (by simpa using h); rw [hj] at this; cases this
theorem wp_region_keepR {P : Program} {id : Nat} {draw : Bool} {ops : Array Oper} {Q : Exit → Act → World → Prop} {a0 : Act} {W0 : World} {N : Nat} (hN : a0.tmps.size = N) (B g : Nat) {cs : Array Value} (hg : Holds_ W0 g cs) (hBg : B ≤ g) (s : Nat) (js : List Nat) (ks : List PK) (es : List (List (Nat × Option Tmp))) (all : List (Nat × Option Tmp)) (bs : List (Nat × Bool)) (sk : List Nat) (hm : P.follows .mixedOrders = true) (hchk : growOK ops (fun i => !sk.contains i) es all N = true) (hk : codesOK ks es = true) (hgu : guardOK ops bs sk = true) (hbs : bs.map (fun p => at_ ks p.1) = bs.map fun p => kIs (.bool p.2)) (hsk : sk.map (at_ ks) = sk.map fun _ => kIs undef)
   (hb : blks ks = [g]) (hsg : (at_ ks s).blk = some g) (hsk0 : sk = []) (hsn : decide (s < ops.size) = true) (hjs : js.all (fun j=>(reachK es 12 [s]).contains j) = true) (hB0 : B ≤ W0.heap.size) (hs : PkFromL P ops es sk B W0 g ks a0 js 0) (hend : ∀ w' x,Reg B W0 [g] w' → (∀ i,i < ops.size → (at_ ks i).sem W0.heap.size x (x i) w') → Q .normal (putE x a0 all) w') : (Code.region id ops draw).wp P Q a0 W0:=by
 subst hN
 have hn : (blks ks).Nodup:=by rw [hb]; exact List.nodup_cons.2 ⟨by simp,List.nodup_nil⟩
 have hops:=hchk
 unfold growOK at hops
 simp only [Bool.and_eq_true,decide_eq_true_eq] at hops
 have hlt : ∀ i,i < ops.size → ∀ p ∈ es.getD i [],p.1 < ops.size:=fun i hi p hp=>by
   have h:=List.all_eq_true.1 hops.2 i (List.mem_range.2 hi); rw [Array.getElem?_eq_getElem hi] at h; simp only [Bool.and_eq_true] at h; have:=List.all_eq_true.1 h.1.2 p hp; simp only [Bool.and_eq_true,decide_eq_true_eq] at this; exact this.1.2
 refine wp_region_pkE B ks es all bs sk hm hchk hk hgu hbs hsk hn ?_ hB0 ?_ (fun L w=>(L s = false → w.heap[g]? = W0.heap[g]?) ∧ ∀ i,i < ops.size → sk.contains i = false → L i = true → ∀ p ∈ es.getD i [],L p.1 = true) ?_ ?_ ?_ ?_
 · rw [hb]; intro g' hg'; rw [List.mem_singleton.1 hg']; exact hBg
 · rw [hb]; intro g' hg'; rw [List.mem_singleton.1 hg']; exact ⟨_,hg⟩
 · intro W' hW'; refine ⟨fun _=>?_,fun i hi _ h=>absurd (of_decide_eq_true h) (by omega)⟩; rcases hW' with rfl | rfl <;> rfl
 · intro i hil L x v w w' hE hR hi hd hmv; refine ⟨fun hL=>?_,fun k hk1 hk2 hk3 p hp=>?_⟩
   · have hne : s ≠ i:=fun h=>by rw [h,bj] at hL; cases hL
     rw [au _ _ hne] at hL; have hw:=hE.1 hL; have hgw : g < w.heap.size:=Nat.lt_of_lt_of_le hg.lt hR.below.size; refine Eq.trans ?_ hw
     cases e : at_ ks i with
     | p f k1 k2=>rw [e] at hmv; exact hmv.block g hgw
     | fresh n=>rw [e] at hmv; exact hmv.1.block g hgw
     | list n f k1 k2=>rw [e] at hmv; exact hmv.1.block g hgw
     | same e1=>rw [e] at hmv; exact hmv.block g hgw
     | cell g' f k1 k2 =>
       rw [e] at hmv; refine hmv.other g fun h=>hne (blk_inj hn (i:=s) (j:=i) (g:=g) hsg ?_); rw [e,h]; rfl
     | put n f k1 k2 =>
       rw [e] at hmv; obtain ⟨g',_,hg',hst⟩:=hmv; refine hst.other g fun h=>?_; have:=hg.lt; omega
   · by_cases e : k = i
     · subst e
       by_cases e2 : p.1 = k
       · rw [e2,bj]
       · rw [au _ _ e2]; exact hd hk2 p hp
     · rw [au _ _ e] at hk3
       by_cases e2 : p.1 = i
       · rw [e2,bj]
       · rw [au _ _ e2]; exact hE.2 k hk1 hk2 hk3 p hp
 · intro i o ho hsi L hi w x hC; rw [hb] at hC; exact hs i o (Nat.zero_le _) ho hsi w x ⟨hC.1,fun hj=>hC.2.1 (keep_not (List.all_eq_true.1 hjs i (by simpa using hj)) (of_decide_eq_true hsn) hlt (fun k hk h p hp=>hC.2.2 k hk (by rw [hsk0]; rfl) h p hp) hi)⟩
 · rw [hb]; exact hend
theorem Wk9 {P : Program} {id : Nat} {draw : Bool} {ops : Array Oper} {next : Act → World → Prop} {Q : Exit → Act → World → Prop} {a0 : Act} {w W0 : World} {N g : Nat} {cs : Array Value} (bb : Below w.heap.size w W0) (hg : Holds_ W0 g cs) (s : Nat) (js : List Nat) (ks : List PK) (el : List (List Nat)) (sl : List Nat) (bs : List (Nat × Bool)) (sk : List Nat) (Hs9 : PkFromL P ops (Ez9 sl el) sk w.heap.size W0 g ks a0 js 0) (hend : ∀ w' x a1, Reg w.heap.size W0 [g] w' → (∀ i, i < ops.size → (at_ ks i).sem W0.heap.size x (x i) w') → a1 = putE x a0 (Az9 0 sl) → a1.tmps.size = N → a1.defers = [] → Below w.heap.size w w' → next a1 w')
   (hN : a0.tmps.size = N:=by assumption) (hD : a0.defers = []:=by assumption) (hBg : w.heap.size ≤ g:=by omega) (hm : P.follows .mixedOrders = true:=by kernel_rfl) (hchk : growOK ops (fun i=>!sk.contains i) (Ez9 sl el) (Az9 0 sl) N = true:=by kernel_rfl) (hk : codesOK ks (Ez9 sl el) = true:=by kernel_rfl) (hgu : guardOK ops bs sk = true:=by kernel_rfl) (hbs : bs.map (fun p=>at_ ks p.1) = bs.map fun p=>kIs (.bool p.2):=by kernel_rfl) (hsk : sk.map (at_ ks) = sk.map fun _=>kIs undef:=by kernel_rfl) (hb : blks ks = [g]:=by kernel_rfl) (hsg : (at_ ks s).blk = some g:=by exact rfl) (hsk0 : sk = []:=by exact rfl) (hsn : decide (s < ops.size) = true:=by kernel_rfl) (hjs : js.all (fun j=>(reachK (Ez9 sl el) 12 [s]).contains j) = true:=by kernel_rfl) : (Code.region id ops draw).wp P (Exit.then next Q) a0 W0 :=
 wp_region_keepR hN w.heap.size g hg hBg s js ks (Ez9 sl el) (Az9 0 sl) bs sk hm hchk hk hgu hbs hsk hb hsg hsk0 hsn hjs bb.size Hs9 fun w' x h1 h2=>then_n (hend w' x _ h1 h2 rfl (size_behind rfl hN) (defers_behind rfl hD) (bb.trans h1.below))
def qsum (l : List (Nat × Int)) : Int:=(l.map (·.2)).foldl (· + ·) 0
def qprod (l : List (Nat × Int)) : Int:=(l.map (·.2)).foldl (· * ·) 1
theorem qsum_take {l : List (Nat × Int)} {i : Nat} {q : Nat × Int} (hq : l[i]? = some q) : qsum (l.take (i + 1)) = qsum (l.take i) + q.2:=by
 unfold qsum
 rw [List.take_add_one,hq]
 simp
theorem qprod_take {l : List (Nat × Int)} {i : Nat} {q : Nat × Int} (hq : l[i]? = some q) : qprod (l.take (i + 1)) = qprod (l.take i) * q.2:=by
 unfold qprod
 rw [List.take_add_one,hq]
 simp
theorem Zr.tight {W : World} {v : Value} {j k : Nat} {z : Int} (h : Zr W v j z) (hz : z.natAbs < 1000000000 ^ k) : Zr W v k z:=by
 obtain ⟨A,l,c,e,hr,_⟩:=h
 exact ⟨A,l,c,e,hr,hz⟩
theorem LocR.tight {W : World} {g j k : Nat} {z : Int} (h : LocR W g j z) (hz : z.natAbs < 1000000000 ^ k) : LocR W g k z:=by
 obtain ⟨A,l,c,hh,hr⟩:=h
 exact ⟨A,l,c,hh,hr.tight hz⟩
theorem LocR.up {W : World} {g j k : Nat} {z : Int} (h : LocR W g j z) (hk : j ≤ k) : LocR W g k z:=by
 obtain ⟨A,l,c,hh,hr⟩:=h
 exact ⟨A,l,c,hh,hr.mono hk⟩
theorem res_locR {S0 : Nat} {x : Nat → Value} {v : Value} {w : World} {g k : Nat} {z : Int} (h : (kResZ g k z).sem S0 x v w) : LocR w g k z:=by
 obtain ⟨cs,hg,A,l,c,e,hr⟩:=h
 subst e
 exact ⟨A,l,c,hg,hr⟩
theorem run_loadInt {w : World} {g o : Nat} {u v : Value} (h0 : w.cell? ⟨g,o,none⟩ = some u) (h1 : w.cell? ⟨g,o + 1,none⟩ = some v) : (Instr.loadAt 24 (.pointer (some ⟨g,o,none⟩))).run Tryz.prog w = .ok (.agg #[u,v]) w:=by go_simp
theorem len_runI (b : Option Addr) (m c : Nat) (T : TypeId) : ∀ w,(Builtin.len_ #[ 53 ] T #[.slice b m c]).run Tryz.prog w = .ok (.int .i64 (m : Int)) w:=fun _=>by kernel_rfl
section
variable {G : List Nat} {C : World → Prop} {S0 B : Nat} {ks : List PK} {a0 : Act} {i : Nat} {N : Nat} {W0 : World} {T : TypeId} {pos : String} {af : Array Edge} {gu : Option (Nat × Bool)}
theorem st_loadKZ {d t g k : Nat} {z : Int} (hl : AtR W0 g 0 k z) (hp : a0.eval (.tmp t) = .pointer (some ⟨g,0,none⟩))   (hi : at_ ks i = kZ k z) (hN : a0.tmps.size = N:=by assumption) (hd : decide (d < N) = true:=by kernel_rfl) :
   PkStep Tryz.prog (fun w=>Reg B W0 [g] w ∧ w.heap[g]? = W0.heap[g]?) S0 ks a0 i { dst:=some d,op:=.load 24 (.tmp t),type:=T,pos:=pos,after:=af,guard:=gu } []:=by
 intro w x hC K hK
 obtain ⟨A,m,c,h1,h2,hz⟩:=keep_atR hC hl
 refine da (w':=w) rfl hN hd (ex_load hp (run_loadInt h1 h2)) (hK _ _ ?_ ?_)
 · rw [hi]; exact Below.refl _ _
 · rw [hi]; exact hz
theorem st_loadKS {d t j g k : Nat} {z : Int} (hl : AtR W0 g 0 k z)    (hj : at_ ks j = kIs (.pointer (some ⟨g,0,none⟩))) (hi : at_ ks i = kIs (.bool (decide (z < 0)))) (hN : a0.tmps.size = N:=by assumption) (hd : decide (d < N) = true:=by kernel_rfl) (ht : decide (t < N) = true:=by kernel_rfl) :
   PkStep Tryz.prog (fun w=>Reg B W0 [g] w ∧ w.heap[g]? = W0.heap[g]?) S0 ks a0 i { dst:=some d,op:=.load 4 (.tmp t),type:=T,pos:=pos,after:=af,guard:=gu } [(j,some t)]:=by
 intro w x hC
 refine bc _ fun hdeps K hK=>?_
 have g1:=hdeps (j,some t) (by simp)
 rw [hj] at g1
 have e1 : (putE x a0 [(j,some t)]).eval (.tmp t) = x j:=ap _ _ (by rw [hN]; exact of_decide_eq_true ht) (by simp [slotAt])
 obtain ⟨A,m,c,h1,h2,hz⟩:=keep_atR hC hl
 refine da (w':=w) rfl (by rw [aw,hN]) hd (ex_load (e1.trans g1) (run_loadS h1)) (hK _ _ ?_ ?_)
 · rw [hi]; exact Below.refl _ _
 · rw [hi]; rfl
theorem st_loadKRow {d t j g k : Nat} {z : Int} (hl : AtR W0 g 0 k z)    (hj : at_ ks j = kIs (.pointer (some ⟨g,1,none⟩))) (hi : at_ ks i = kRow z) (hN : a0.tmps.size = N:=by assumption) (hd : decide (d < N) = true:=by kernel_rfl) (ht : decide (t < N) = true:=by kernel_rfl) :
   PkStep Tryz.prog (fun w=>Reg B W0 [g] w ∧ w.heap[g]? = W0.heap[g]?) S0 ks a0 i { dst:=some d,op:=.load 22 (.tmp t),type:=T,pos:=pos,after:=af,guard:=gu } [(j,some t)]:=by
 intro w x hC
 refine bc _ fun hdeps K hK=>?_
 have g1:=hdeps (j,some t) (by simp)
 rw [hj] at g1
 have e1 : (putE x a0 [(j,some t)]).eval (.tmp t) = x j:=ap _ _ (by rw [hN]; exact of_decide_eq_true ht) (by simp [slotAt])
 obtain ⟨A,m,c,h1,h2,A',m',c',e,hr,_⟩:=keep_atR hC hl
 injection e with e; injection e with e; injection e with _ e; injection e with e _; injection e with q1 q2 q3
 subst q1; subst q2; subst q3
 refine da (w':=w) rfl (by rw [aw,hN]) hd (ex_load (e1.trans g1) (run_loadRow h2)) (hK _ _ ?_ ?_)
 · rw [hi]; exact Below.refl _ _
 · rw [hi]; exact hr
end
theorem zOf_mul (x y : Int) : zOf (x.natAbs * y.natAbs) (decide (x < 0) != decide (y < 0)) = x * y:=by
 unfold zOf
 have e:=Int.natAbs_mul x y
 have hx : x < 0 ∨ 0 ≤ x:=by omega
 have hy : y < 0 ∨ 0 ≤ y:=by omega
 rcases hx with hx | hx <;> rcases hy with hy | hy
 · have h:=Int.mul_pos_of_neg_of_neg hx hy; simp [hx,hy]; rw [← Int.natCast_mul,← e]; omega
 · have h:=Int.mul_nonpos_of_nonpos_of_nonneg (Int.le_of_lt hx) hy; have hy' : ¬ y < 0:=by omega
   simp [hx,hy']; rw [← Int.natCast_mul,← e]; omega
 · have h:=Int.mul_nonpos_of_nonneg_of_nonpos hx (Int.le_of_lt hy); have hx' : ¬ x < 0:=by omega
   simp [hx',hy]; rw [← Int.natCast_mul,← e]; omega
 · have h:=Int.mul_nonneg hx hy; have hx' : ¬ x < 0:=by omega
   have hy' : ¬ y < 0:=by omega
   simp [hx',hy']; rw [← Int.natCast_mul,← e]; omega
def Nv (W : World) (v : Value) (b : Bool) (xs : List Nat) : Prop:=∃ A c,v = .agg #[.bool b,.slice A xs.length c] ∧ Row W A (u32s xs)
def Qv (W : World) (v : Value) (b : Bool) (xs : List Nat) (b' : Bool) (ys : List Nat) : Prop:=∃ A c A' c',v = .agg #[.bool b,.slice A xs.length c,.bool b',.slice A' ys.length c'] ∧ Row W A (u32s xs) ∧ Row W A' (u32s ys)
theorem Nv.below {W W' : World} {v : Value} {b : Bool} {xs : List Nat} (h : Nv W v b xs) (hb : Below W.heap.size W W') : Nv W' v b xs:=by
 obtain ⟨A,c,h1,h2⟩:=h
 exact ⟨A,c,h1,h2.below hb⟩
theorem Qv.below {W W' : World} {v : Value} {b b' : Bool} {xs ys : List Nat} (h : Qv W v b xs b' ys) (hb : Below W.heap.size W W') : Qv W' v b xs b' ys:=by
 obtain ⟨A,c,A',c',h1,h2,h3⟩:=h
 exact ⟨A,c,A',c',h1,h2.below hb,h3.below hb⟩
theorem Nv.stored {W W' : World} {g : Nat} {v : Value} {b : Bool} {xs : List Nat} (h : Nv W v b xs) (hs : Stored g W W') : Nv W' v b xs:=by
 obtain ⟨A,c,h1,h2⟩:=h
 exact ⟨A,c,h1,Stored.row h2 hs⟩
theorem Qv.stored {W W' : World} {g : Nat} {v : Value} {b b' : Bool} {xs ys : List Nat} (h : Qv W v b xs b' ys) (hs : Stored g W W') : Qv W' v b xs b' ys:=by
 obtain ⟨A,c,A',c',h1,h2,h3⟩:=h
 exact ⟨A,c,A',c',h1,Stored.row h2 hs,Stored.row h3 hs⟩
def kN (b : Bool) (xs : List Nat) : PK:=.p (fun v w=>Nv w v b xs) (fun _ _ _ h hb=>h.below hb) (fun _ _ _ _ h hs=>h.stored hs)
theorem Qv.two {W : World} {A A' : Option Addr} {l c l' c' : Nat} {s s' b b' : Bool} {xs ys : List Nat} (h : Qv W (.agg #[.bool s,.slice A l c,.bool s',.slice A' l' c']) b xs b' ys) : Nv W (.agg #[.bool s,.slice A l c]) b xs ∧ Nv W (.agg #[.bool s',.slice A' l' c']) b' ys:=by
 obtain ⟨B,d,B',d',e,h1,h2⟩:=h
 injection e with e; injection e with e
 injection e with e0 e; injection e with e1 e; injection e with e2 e; injection e with e3 _
 injection e0 with e0; injection e2 with e2; injection e1 with q1 q2 q3; injection e3 with q4 q5 q6
 subst e0; subst e2; subst q1; subst q2; subst q3; subst q4; subst q5; subst q6
 exact ⟨⟨A,c,rfl,h1⟩,⟨A',c',rfl,h2⟩⟩
theorem sign_of {b : Bool} {xs : List Nat} (h : right xs) (h0 : xs = [] → b = false) : decide (zOf (val xs) b < 0) = b:=by
 rw [gg]; unfold sgn
 cases b with
 | false=>rfl
 | true =>
   refine decide_eq_true fun e=>?_; have hne : xs ≠ []:=fun h1=>by have:=h0 h1; cases this
   have h2:=dm h hne; have h3 : 0 < 1000000000 ^ (xs.length - 1):=Nat.pow_pos (by decide); omega
theorem Nv.zr {W : World} {v : Value} {b : Bool} {xs : List Nat} (h : Nv W v b xs) (hs : small 4294967296 xs) (hl : xs.length ≤ 8) (hr : right xs) (h0 : xs = [] → b = false) : Zr W v 9 (zOf (val xs) b):=by
 obtain ⟨A,c,rfl,h2⟩:=h
 exact ⟨A,_,c,by rw [sign_of hr h0],by rw [ci]; exact ⟨_,_,xs,rfl,h2,hr,by omega,rfl⟩,by rw [ci]; exact Nat.lt_of_lt_of_le (val_lt32 hs) (pow_le (by omega))⟩
def LocQ (W : World) (g : Nat) (b : Bool) (xs : List Nat) (b' : Bool) (ys : List Nat) : Prop:=∃ A c A' c',Holds_ W g #[.bool b,.slice A xs.length c,.bool b',.slice A' ys.length c'] ∧ Row W A (u32s xs) ∧ Row W A' (u32s ys)
section
variable {G : List Nat} {S0 B : Nat} {ks : List PK} {a0 : Act} {i : Nat} {N : Nat} {W0 : World} {T : TypeId} {pos : String} {af : Array Edge} {gu : Option (Nat × Bool)} {b b' : Bool} {xs ys : List Nat}
end
theorem Qv.op {w : World} {v : Value} {b b' : Bool} {xs ys : List Nat} (h : Qv w v b xs b' ys) : ∃ u1 u2 u3 u4,v = .agg #[u1,u2,u3,u4] ∧ Hid (∀ (W : World) (g : Nat) (T : TypeId),Below w.heap.size w W → W.heap[g]? = some (.cells #[u1,u2,u3,u4] T (0,0)) → LocQ W g b xs b' ys):=by
 obtain ⟨A,c,A',c',rfl,r,r'⟩:=h
 exact ⟨_,_,_,_,rfl,Lib.hid fun W g T bb K=>⟨A,c,A',c',⟨⟨_,K⟩,by simp [noDig]⟩,r.below bb,r'.below bb⟩⟩
def ElAt (W : World) (g i : Nat) (E : Value → World → Prop) : Prop:=∃ u0 u1 u2 u3,W.cell? ⟨g,i * 4,none⟩ = some u0 ∧ W.cell? ⟨g,i * 4 + 1,none⟩ = some u1 ∧ W.cell? ⟨g,i * 4 + 2,none⟩ = some u2 ∧ W.cell? ⟨g,i * 4 + 3,none⟩ = some u3 ∧ E (.agg #[u0,u1,u2,u3]) W
theorem ElAt.below {W w' : World} {g i : Nat} {E : Value → World → Prop} (h : ElAt W g i E) (hE : ∀ v w w',E v w → Below w.heap.size w w' → E v w') (hb : Below W.heap.size W w') : ElAt w' g i E:=by
 obtain ⟨u0,u1,u2,u3,h0,h1,h2,h3,h4⟩:=h
 exact ⟨u0,u1,u2,u3,(hb.cell (cell_lt h0)).trans h0,(hb.cell (cell_lt h1)).trans h1,(hb.cell (cell_lt h2)).trans h2,(hb.cell (cell_lt h3)).trans h3,hE _ _ _ h4 hb⟩
theorem AtR.up {W : World} {g o j k : Nat} {z : Int} (h : AtR W g o j z) (hk : j ≤ k) : AtR W g o k z:=by
 obtain ⟨A,l,c,h1,h2,h3⟩:=h
 exact ⟨A,l,c,h1,h2,h3.mono hk⟩
section
variable {G : List Nat} {C : World → Prop} {S0 B : Nat} {ks : List PK} {a0 : Act} {i : Nat} {N : Nat} {W0 : World} {T : TypeId} {pos : String} {af : Array Edge} {gu : Option (Nat × Bool)}
end
def BothTell (b : Bool) (xs : List Nat) (b' : Bool) (ys : List Nat) (a : Rat) (rt : Bool) : Prop :=
 a.num.natAbs < 1000000000 ^ 9 ∧ a.den < 1000000000 ^ 9 ∧ ∀ (W : World) (v : Value), Qv W v b xs b' ys →
   Calls Tryz.prog 19 #[v] W (SaysB W rt) ∧ Calls Tryz.prog 62 #[v] W (TellsP W 9 a.num (a.den : Int)) ∧
   Calls Tryz.prog 20 #[v] W (SaysB W rt) ∧ Calls Tryz.prog 67 #[v] W (TellsP W 9 a.num (a.den : Int))
end Go.Proofs.YtifgcjpgelbelaaGreatDoor

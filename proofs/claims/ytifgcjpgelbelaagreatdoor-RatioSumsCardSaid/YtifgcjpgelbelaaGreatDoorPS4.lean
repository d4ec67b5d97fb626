/- A frame that is known by its slots alone; one step an operation for regions in such frames: More steps over whole numbers: Steps over broken numbers: Contract of ratio.lowest: Numbers in rows of the call's own: Contracts of package num's divide and DivMod once more: Contract of ratio.lowest once more: Contracts of package ratio's small calls: Contracts of fraction's plus and times once more: -/
import Derived.Test.YtifgcjpgelbelaaGreatDoorPS2
import Derived.Lib.Hide
import Derived.Test.YtifgcjpgelbelaaGreatDoorPS3
import Derived.Lib.SmallJoins
import Derived.SizedLaws
set_option maxRecDepth 100000
set_option maxHeartbeats 16000000
set_option linter.unusedVariables false
set_option linter.unusedSimpArgs false
namespace Go.Proofs.YtifgcjpgelbelaaGreatDoor
open Go.RowKit
def slotAt : List (Nat × Option Tmp) → Tmp → Option Nat
 | [],_=>none
 | p :: r, t => match slotAt r t with
   | some i=>some i
   | none=>if p.2 = some t then some p.1 else none
theorem ii (a : Act) (d : Option Tmp) (v : Value) : (a.put d v).tmps.size = a.tmps.size:=by
 cases d <;> simp [Act.put]
theorem ij (a : Act) (d : Option Tmp) (v : Value) : (a.put d v).defers = a.defers:=by
 cases d <;> rfl
theorem ax (x : Nat → Value) : ∀ (es : List (Nat × Option Tmp)) (a : Act), (putE x a es).tmps.size = a.tmps.size
 | [],_=>rfl
 | p :: r,a=>by rw [putE,ax x r,ii]
theorem putE_defers (x : Nat → Value) : ∀ (es : List (Nat × Option Tmp)) (a : Act), (putE x a es).defers = a.defers
 | [],_=>rfl
 | p :: r,a=>by rw [putE,putE_defers x r,ij]
theorem put_eval_ne (a : Act) {d : Option Tmp} {t : Tmp} (v : Value) (h : d ≠ some t) : (a.put d v).eval (.tmp t) = a.eval (.tmp t):=by
 cases d with
 | none=>rfl
 | some d =>
   have hne : d ≠ t:=fun e=>h (by rw [e])
   show (a.tmps.setIfInBounds d v).getD t undef = a.tmps.getD t undef
   simp only [Array.getD_eq_getD_getElem?]; rw [Array.getElem?_setIfInBounds_ne hne]
theorem putE_old {x : Nat → Value} {t : Tmp} : ∀ (es : List (Nat × Option Tmp)) (a : Act), slotAt es t = none → (putE x a es).eval (.tmp t) = a.eval (.tmp t)
 | [],_,_=>rfl
 | p :: r,a,h=>by
   unfold slotAt at h; split at h
   · cases h
   · rename_i hr
     split at h
     · cases h
     · rename_i hp
       rw [putE,putE_old r _ hr,put_eval_ne _ _ hp]
theorem putE_new {x : Nat → Value} {t : Tmp} {i : Nat} : ∀ (es : List (Nat × Option Tmp)) (a : Act), t < a.tmps.size → slotAt es t = some i → (putE x a es).eval (.tmp t) = x i
 | [],_,_,h=>by cases h
 | p :: r,a,hs,h=>by
   unfold slotAt at h; split at h
   · rename_i hr
     injection h with h; subst h; rw [putE]; exact putE_new r _ (by rw [ii]; exact hs) hr
   · rename_i hr
     split at h
     · rename_i hp
       injection h with h; rw [putE,putE_old r _ hr,hp,← h]; exact dy _ _ _ hs
     · cases h
inductive Src where
 | dep (i : Nat)
 | old (t : Tmp)
 | val (v : Value)
def src (es : List (Nat × Option Tmp)) : Operand → Src
 | .tmp t => match slotAt es t with
   | some i=>.dep i
   | none=>.old t
 | .const v=>.val v
 | .global g=>.val (.pointer (some ⟨g,0,none⟩))
 | .func f=>.val (.func (.func f) #[] #[])
def Src.get (x : Nat → Value) (a : Act) : Src → Value
 | .dep i=>x i
 | .old t=>a.eval (.tmp t)
 | .val v=>v
def esIn (es : List (Nat × Option Tmp)) (N : Nat) : Bool:=es.all fun p=>match p.2 with | some t=>decide (t < N) | none=>true
theorem slotAt_lt {N : Nat} {t : Tmp} {i : Nat} : ∀ es : List (Nat × Option Tmp), esIn es N = true → slotAt es t = some i → t < N
 | [],_,h=>by cases h
 | p :: r,he,h=>by
   unfold esIn at he; rw [List.all_cons,Bool.and_eq_true] at he; unfold slotAt at h; split at h
   · rename_i hr
     exact slotAt_lt r he.2 hr
   · split at h
     · rename_i hp
       have:=he.1; rw [hp] at this; exact of_decide_eq_true this
     · cases h
theorem eval_src {x : Nat → Value} {a : Act} {es : List (Nat × Option Tmp)} {N : Nat} (hN : a.tmps.size = N) (he : esIn es N = true) (y : Operand) : (putE x a es).eval y = (src es y).get x a:=by
 cases y with
 | tmp t =>
   show _ = Src.get x a (match slotAt es t with | some i=>.dep i | none=>.old t)
   cases h : slotAt es t with
   | none=>exact putE_old es a h
   | some i=>exact putE_new es a (by rw [hN]; exact slotAt_lt es he h) h
 | const v=>rfl
 | global g=>rfl
 | func f=>rfl
theorem an {x : Nat → Value} {a b : Act} {es : List (Nat × Option Tmp)} {N t i : Nat} (hb : b = putE x a es)    (hN : a.tmps.size = N:=by assumption) (h : slotAt es t = some i:=by kernel_rfl) (ht : decide (t < N) = true:=by kernel_rfl) : b.eval (.tmp t) = x i:=by
 subst hb; exact putE_new es a (by rw [hN]; exact of_decide_eq_true ht) h
theorem ab {x : Nat → Value} {a b : Act} {es : List (Nat × Option Tmp)} {t : Nat} {v : Value} (hb : b = putE x a es)  (hv : a.eval (.tmp t) = v) (h : slotAt es t = none:=by kernel_rfl) : b.eval (.tmp t) = v:=by
 subst hb; exact (putE_old es a h).trans hv
theorem size_behind {x : Nat → Value} {a b : Act} {es : List (Nat × Option Tmp)} {N : Nat} (hb : b = putE x a es) (hN : a.tmps.size = N) : b.tmps.size = N:=by
 subst hb; rw [ax,hN]
theorem defers_behind {x : Nat → Value} {a b : Act} {es : List (Nat × Option Tmp)} (hb : b = putE x a es) (hN : a.defers = []) : b.defers = []:=by
 subst hb; rw [putE_defers,hN]
theorem aw {S0 : Nat} {ks : List PK} {x : Nat → Value} {w : World} {G : Prop} : ∀ es : List (Nat × Option Tmp), ((∀ p ∈ es, (at_ ks p.1).sem S0 x (x p.1) w) → G) → deps S0 ks x w es G
 | [],h=>h fun p hp=>by cases hp
 | p :: r,h=>fun hp=>aw r fun hr=>h fun q hq=>by
   rcases List.mem_cons.1 hq with e | hq
   · rw [e]; exact hp
   · exact hr q hq
theorem bj {P : Program} {o : Oper} {a : Act} {w w' : World} {v : Value} {K : Value → World → Prop} {d N : Nat} (hd : o.dst = some d) (hN : a.tmps.size = N) (hs : decide (d < N) = true) (h : (execOp a.eval o).run P w = .ok (.value v) w') (hk : K v w') :
   o.wp P a w (fun a' w'=>a'.defers = a.defers ∧ K (retOf o.dst a') w') (fun _ _ _=>False):=by
 unfold Oper.wp
 rw [h]
 show (a.put o.dst v).defers = a.defers ∧ K (retOf o.dst (a.put o.dst v)) w'
 refine ⟨ij _ _ _,?_⟩
 rw [hd]
 show K ((a.put (some d) v).eval (.tmp d)) w'
 rw [dy a d v (by rw [hN]; exact of_decide_eq_true hs)]
 exact hk
theorem gp {P : Program} {o : Oper} {a : Act} {w w' : World} {K : Value → World → Prop} (hd : o.dst = none) (h : (execOp a.eval o).run P w = .ok .skip w') (hk : K undef w') :
   o.wp P a w (fun a' w'=>a'.defers = a.defers ∧ K (retOf o.dst a') w') (fun _ _ _=>False):=by
 unfold Oper.wp
 rw [h]
 show (a.put o.dst undef).defers = a.defers ∧ K (retOf o.dst (a.put o.dst undef)) w'
 refine ⟨ij _ _ _,?_⟩
 rw [hd]
 exact hk
theorem wp_ent {P : Program} {o : Oper} {a : Act} {w : World} {K : Value → World → Prop} {d N F : Nat} {args : Array Value} (hd : o.dst = some d) (hN : a.tmps.size = N) (hs : decide (d < N) = true) (h : (execOp a.eval o).run P w = .ok (.enter F args) w)
   (hc : Calls P F args w fun e w'=>∃ v,e = .returned v ∧ K v w') :
   o.wp P a w (fun a' w'=>a'.defers = a.defers ∧ K (retOf o.dst a') w') (fun _ _ _=>False):=by
 unfold Oper.wp
 rw [h]
 refine Calls.mono hc fun e w' hh=>?_
 obtain ⟨v,rfl,hk⟩:=hh
 show (a.put o.dst v).defers = a.defers ∧ K (retOf o.dst (a.put o.dst v)) w'
 refine ⟨ij _ _ _,?_⟩
 rw [hd]
 show K ((a.put (some d) v).eval (.tmp d)) w'
 rw [dy a d v (by rw [hN]; exact of_decide_eq_true hs)]
 exact hk
def enters (P : Program) (F : FuncId) : Bool := match P.funcs[F]? with
 | some fn=>!(fn.name == "runtime.NumGoroutine") && fn.body.isSome
 | none=>false
theorem run_enters {P : Program} {F : FuncId} (h : enters P F = true) (args : Array Value) (w : World) : (callFunc F args).run P w = .ok (.enter F args) w:=by
 unfold enters at h
 cases hf : P.funcs[F]? with
 | none=>rw [hf] at h; cases h
 | some fn =>
   rw [hf] at h; simp only [Bool.and_eq_true,Bool.not_eq_true'] at h; have hn : fn.name ≠ "runtime.NumGoroutine":=by simpa using h.1
   have hb : fn.body ≠ none:=fun e=>by
     have:=h.2; rw [e] at this; cases this
   simp [callFunc,go_sem,hf,hn,hb]
section
variable {P : Program} {C : World → Prop} {S0 : Nat} {ks : List PK} {a0 : Act} {i : Nat} {es : List (Nat × Option Tmp)} {N : Nat}
theorem jo {d F : Nat} {args : Array Operand} {ats : Array TypeId} {T : TypeId} {pos : String} {af : Array Edge} {g : Option (Nat × Bool)} (ss : List Src) (hN : a0.tmps.size = N) (he : esIn es N = true) (hd : decide (d < N) = true) (hF : enters P F = true) (hs : args.toList.map (src es) = ss)
   (h : ∀ w x,C w → (∀ p ∈ es,(at_ ks p.1).sem S0 x (x p.1) w) → Calls P F (ss.map (Src.get x a0)).toArray w fun e w'=>∃ v,e = .returned v ∧ (at_ ks i).move S0 x v w w' ∧ (at_ ks i).sem S0 x v w') :
   PkStep P C S0 ks a0 i { dst:=some d,op:=.call { callee:=.value (.func F),args:=args,argTypes:=ats },type:=T,pos:=pos,after:=af,guard:=g } es:=by
 intro w x hC
 refine aw es fun hdeps K hK=>?_
 have hargs : args.map (putE x a0 es).eval = (ss.map (Src.get x a0)).toArray:=by
   apply Array.ext'; rw [Array.toList_map,← hs,List.map_map]; refine List.map_congr_left fun y _=>?_; exact eval_src hN he y
 refine wp_ent (F:=F) (args:=(ss.map (Src.get x a0)).toArray) rfl (by rw [ax,hN]) hd ?_ ?_
 · rw [← hargs]; simp [go_sem,run_enters hF]
 · exact (h w x hC hdeps).mono fun e w' hh=>by
     obtain ⟨v,h1,h2,h3⟩:=hh; exact ⟨v,h1,hK v w' h2 h3⟩
def lookS : List (Nat × Option Tmp) → List Value → Tmp → Option Value
 | p :: r, v :: vs, t => match lookS r vs t with
   | some u=>some u
   | none=>if p.2 = some t then some v else none
 | _,_,_=>none
def look (es : List (Nat × Option Tmp)) (vs : List Value) (olds : List (Tmp × Value)) : Operand → Value
 | .tmp t => match lookS es vs t with
   | some v=>v
   | none => match olds.find? (fun p => p.1 == t) with
     | some p=>p.2
     | none=>undef
 | .const v=>v
 | .global g=>.pointer (some ⟨g,0,none⟩)
 | .func f=>.func (.func f) #[] #[]
def known (es : List (Nat × Option Tmp)) (olds : List (Tmp × Value)) : Operand → Bool
 | .tmp t=>(slotAt es t).isSome || (olds.any fun p=>p.1 == t)
 | _=>true
theorem lookS_eq {x : Nat → Value} {t : Tmp} : ∀ (es : List (Nat × Option Tmp)) (vs : List Value), es.length = vs.length → (∀ p ∈ es.zip vs, x p.1.1 = p.2) → lookS es vs t = (slotAt es t).map x
 | [],[],_,_=>rfl
 | [],_ :: _,h,_=>by simp at h
 | _ :: _,[],h,_=>by simp at h
 | p :: r,v :: vs,hl,h=>by
   have ih:=lookS_eq (t:=t) r vs (by simpa using hl) fun q hq=>h q (List.mem_cons_of_mem _ hq); unfold lookS slotAt; rw [ih]
   cases hh : slotAt r t with
   | some j=>rfl
   | none =>
     simp only [Option.map_none]; split
     · rw [Option.map_some,h (p,v) List.mem_cons_self]
     · rfl
theorem vals_of {x : Nat → Value} {w : World} : ∀ (es : List (Nat × Option Tmp)) (vs : List Value), es.map (fun p => at_ ks p.1) = vs.map kIs → (∀ p ∈ es, (at_ ks p.1).sem S0 x (x p.1) w) → ∀ p ∈ es.zip vs, x p.1.1 = p.2
 | [],_,_,_,p,hp=>by simp at hp
 | _ :: _,[],h,_,_,_=>by simp at h
 | q :: r,v :: vs,h,hd,p,hp=>by
   rw [List.map_cons,List.map_cons] at h; injection h with h1 h2; rcases List.mem_cons.1 (by simpa using hp : p ∈ (q,v) :: r.zip vs) with rfl | hp
   · have:=hd q List.mem_cons_self; rw [h1] at this; exact this
   · exact vals_of r vs h2 (fun p hp=>hd p (List.mem_cons_of_mem _ hp)) p hp
theorem br {o : Oper} {d : Nat} (vs : List Value) (olds : List (Tmp × Value)) (V : Value) (hd : o.dst = some d)   
    (ho : ∀ p ∈ olds,a0.eval (.tmp p.1) = p.2)   
    (hN : a0.tmps.size = N:=by assumption) (he : esIn es N = true:=by kernel_rfl) (hdN : decide (d < N) = true:=by kernel_rfl) (hc : es.map (fun p=>at_ ks p.1) = vs.map kIs:=by kernel_rfl) (hsel : (match o.op with | .select _ _=>false | _=>true) = true:=by kernel_rfl) (hk : o.op.operands.all (known es olds) = true:=by kernel_rfl) (hV : at_ ks i = kIs V:=by kernel_rfl) (hr : ∀ w,(execOp (look es vs olds) o).run P w = .ok (.value V) w:=by intro _; kernel_rfl) : PkStep P C S0 ks a0 i o es:=by
 intro w x hC
 refine aw es fun hdeps K hK=>?_
 have hl : es.length = vs.length:=by simpa using congrArg List.length hc
 have hx:=vals_of es vs hc hdeps
 have hev : execOp (putE x a0 es).eval o = execOp (look es vs olds) o:=by
   refine execOp_congr o (fun cs b e=>by rw [e] at hsel; cases hsel) fun y hy=>?_; rw [eval_src hN he y]
   cases y with
   | tmp t =>
     show Src.get x a0 (match slotAt es t with | some i=>.dep i | none=>.old t) = match lookS es vs t with | some v=>v | none=>match olds.find? (fun p=>p.1 == t) with | some p=>p.2 | none=>undef
     rw [lookS_eq es vs hl hx]; have hkn:=Array.all_eq_true'.1 hk _ hy; simp only [known,Bool.or_eq_true] at hkn
     cases hs : slotAt es t with
     | some j=>rfl
     | none =>
       rw [hs] at hkn; rcases hkn with h | h
       · cases h
       · obtain ⟨q,hq,hqt⟩:=List.any_eq_true.1 h
         cases hf : olds.find? (fun p=>p.1 == t) with
         | none=>exact absurd hqt (by simpa using List.find?_eq_none.1 hf q hq)
         | some p =>
           have h1:=List.mem_of_find?_eq_some hf; have h2 : p.1 = t:=by simpa using List.find?_some hf
           show a0.eval (.tmp t) = p.2
           rw [← h2]; exact ho p h1
   | const v=>rfl
   | global g=>rfl
   | func f=>rfl
 refine bj (v:=V) (w':=w) hd (by rw [ax,hN]) hdN (by rw [hev]; exact hr w) (hK V w ?_ ?_)
 · rw [hV]; exact Below.refl _ _
 · rw [hV]; rfl
theorem ke {o : Oper} {d : Nat} (vs : List Value) (olds : List (Tmp × Value)) (V' V : Value) (e : V' = V) (hd : o.dst = some d)   
    (ho : ∀ p ∈ olds,a0.eval (.tmp p.1) = p.2)   
    (hN : a0.tmps.size = N:=by assumption) (he : esIn es N = true:=by kernel_rfl) (hdN : decide (d < N) = true:=by kernel_rfl) (hc : es.map (fun p=>at_ ks p.1) = vs.map kIs:=by kernel_rfl) (hsel : (match o.op with | .select _ _=>false | _=>true) = true:=by kernel_rfl) (hk : o.op.operands.all (known es olds) = true:=by kernel_rfl) (hV : at_ ks i = kIs V:=by kernel_rfl) (hr : ∀ w,(execOp (look es vs olds) o).run P w = .ok (.value V') w:=by intro _; kernel_rfl) : PkStep P C S0 ks a0 i o es:=by
 subst e; exact br (he:=he) (hdN:=hdN) (hc:=hc) (hsel:=hsel) (hk:=hk) (hV:=hV) (hr:=hr) vs olds V' hd ho
theorem cw {d j : Nat} {t : Tmp} {T : TypeId} {pos : String} {af : Array Edge} {g : Option (Nat × Bool)} {f : Value → World → Prop} {hb hs}    (hj : at_ ks j = .p f hb hs) (hi : at_ ks i = .p f hb hs) (hN : a0.tmps.size = N:=by assumption) (hd : decide (d < N) = true:=by kernel_rfl) (ht : decide (t < N) = true:=by kernel_rfl) :
   PkStep P C S0 ks a0 i { dst:=some d,op:=.move (.tmp t),type:=T,pos:=pos,after:=af,guard:=g } [(j,some t)]:=by
 intro w x hC
 refine aw _ fun hdeps K hK=>?_
 have h1:=hdeps _ (List.mem_singleton.2 rfl)
 have hev : (putE x a0 [(j,some t)]).eval (.tmp t) = x j:=putE_new _ _ (by rw [hN]; exact of_decide_eq_true ht) (by simp [slotAt])
 refine bj (v:=x j) (w':=w) rfl (by rw [ax,hN]) hd ?_ (hK _ _ ?_ ?_)
 · show (pure (Next.value ((putE x a0 [(j,some t)]).eval (.tmp t))) : Sem Next).run P w = _
   rw [hev]; rfl
 · rw [hi]; exact Below.refl _ _
 · rw [hi]; rw [hj] at h1; exact h1
end
section
variable {P : Program} {w w' : World} {ρ : Operand → Value} {d : Option Tmp} {T : TypeId} {pos : String} {af : Array Edge} {gu : Option (Nat × Bool)}
theorem bm {α β : Type} {m : Sem α} {f : α → Sem β} {v : α} (h : m.run P w = .ok v w') : (m >>= f).run P w = (f v).run P w':=by simp [go_sem,h]
theorem ex_load {E : TypeId} {t : Tmp} {p v : Value} (h : ρ (.tmp t) = p) (hr : (Instr.loadAt E p).run P w = .ok v w) : (execOp ρ { dst:=d,op:=.load E (.tmp t),type:=T,pos:=pos,after:=af,guard:=gu }).run P w = .ok (.value v) w:=by
 show Sem.run P ((Instr.loadAt E (ρ (.tmp t))) >>= fun v=>pure (Next.value v)) w = _
 rw [h]
 rw [bm hr]; rfl
theorem dz {E : TypeId} {t u : Tmp} {p v : Value} (h : ρ (.tmp t) = p) (h2 : ρ (.tmp u) = v) (hr : (Instr.storeAt E p v).run P w = .ok () w') : (execOp ρ { dst:=d,op:=.store E (.tmp t) (.tmp u),type:=T,pos:=pos,after:=af,guard:=gu }).run P w = .ok .skip w':=by
 show Sem.run P ((Instr.storeAt E (ρ (.tmp t)) (ρ (.tmp u))) >>= fun _=>pure Next.skip) w = _
 rw [h,h2]
 rw [bm hr]; rfl
theorem ex_alloc {E : TypeId} {v : Value} (hr : (Instr.alloc E true (.tuple #[])).run P w = .ok v w') : (execOp ρ { dst:=d,op:=.alloc E,type:=T,pos:=pos,after:=af,guard:=gu }).run P w = .ok (.value v) w':=by
 show Sem.run P ((Instr.alloc E true (.tuple #[])) >>= fun v=>pure (Next.value v)) w = _
 rw [bm hr]; rfl
theorem ex_slice1 {E : TypeId} {t1 : Tmp} {v1 v : Value} (h1 : ρ (.tmp t1) = v1) (hr : (Instr.buildSlice E 1 #[(0,v1)]).run P w = .ok v w') : (execOp ρ { dst:=d,op:=.buildSlice E 1 #[(0,.tmp t1)],type:=T,pos:=pos,after:=af,guard:=gu }).run P w = .ok (.value v) w':=by
 have e : (#[(0,.tmp t1)] : Array (Nat × Operand)).map (fun p=>(p.1,ρ p.2)) = #[(0,v1)]:=by simp [h1]
 show Sem.run P ((Instr.buildSlice E 1 ((#[(0,.tmp t1)] : Array (Nat × Operand)).map (fun p=>(p.1,ρ p.2)))) >>= fun v=>pure (Next.value v)) w = _
 rw [e]
 rw [bm hr]; rfl
theorem ex_slice2 {E : TypeId} {t1 t2 : Tmp} {v1 v2 v : Value} (h1 : ρ (.tmp t1) = v1) (h2 : ρ (.tmp t2) = v2) (hr : (Instr.buildSlice E 2 #[(0,v1),(1,v2)]).run P w = .ok v w') : (execOp ρ { dst:=d,op:=.buildSlice E 2 #[(0,.tmp t1),(1,.tmp t2)],type:=T,pos:=pos,after:=af,guard:=gu }).run P w = .ok (.value v) w':=by
 have e : (#[(0,.tmp t1),(1,.tmp t2)] : Array (Nat × Operand)).map (fun p=>(p.1,ρ p.2)) = #[(0,v1),(1,v2)]:=by simp [h1,h2]
 show Sem.run P ((Instr.buildSlice E 2 ((#[(0,.tmp t1),(1,.tmp t2)] : Array (Nat × Operand)).map (fun p=>(p.1,ρ p.2)))) >>= fun v=>pure (Next.value v)) w = _
 rw [e]
 rw [bm hr]; rfl
theorem ex_ext {t : Tmp} {n : Nat} {vs : Array Value} {u : Value} (h : ρ (.tmp t) = .tuple vs) (hu : vs[n]? = some u) : (execOp ρ { dst:=d,op:=.extract (.tmp t) n,type:=T,pos:=pos,after:=af,guard:=gu }).run P w = .ok (.value u) w:=by
 show Sem.run P ((Instr.extract (ρ (.tmp t)) n) >>= fun v=>pure (Next.value v)) w = _
 rw [h]
 have hr : (Instr.extract (.tuple vs) n).run P w = .ok u w:=by simp [Instr.extract,go_sem,hu]
 rw [bm hr]; rfl
end
theorem old0 {a : Act} : ∀ p ∈ ([] : List (Tmp × Value)),a.eval (.tmp p.1) = p.2:=fun _ h=>by cases h
theorem old1 {a : Act} {t : Tmp} {v : Value} (h : a.eval (.tmp t) = v) : ∀ p ∈ [(t,v)],a.eval (.tmp p.1) = p.2:=fun p hp=>by rw [List.mem_singleton.1 hp]; exact h
theorem old2 {a : Act} {t t' : Tmp} {v v' : Value} (h : a.eval (.tmp t) = v) (h' : a.eval (.tmp t') = v') : ∀ p ∈ [(t,v),(t',v')],a.eval (.tmp p.1) = p.2:=fun p hp=>by
 rcases List.mem_cons.1 hp with rfl | hp
 · exact h
 · rw [List.mem_singleton.1 hp]; exact h'
theorem jp {G : Act → Prop} {a : Act} (h : ∀ a0,a0 = a → G a0) : G a:=h a rfl
theorem ff {P : Program} {id : Nat} {draw : Bool} {ops : Array Oper} {Q : Exit → Act → World → Prop} {a0 : Act} {W0 : World} {N : Nat} (hN : a0.tmps.size = N) (B : Nat) (ks : List PK) (es : List (List (Nat × Option Tmp))) (all : List (Nat × Option Tmp)) (bs : List (Nat × Bool)) (sk : List Nat) (hm : P.follows .mixedOrders = true) (hchk : growOK ops (fun i => !sk.contains i) es all N = true) (hk : codesOK ks es = true) (hgu : guardOK ops bs sk = true) (hbs : bs.map (fun p => at_ ks p.1) = bs.map fun p => kIs (.bool p.2)) (hsk : sk.map (at_ ks) = sk.map fun _ => kIs undef)
   (hb : blks ks = []) (hB0 : B ≤ W0.heap.size) (hs : PkFrom P ops es sk (Reg B W0 []) W0.heap.size ks a0 0) (hend : ∀ w' x,Reg B W0 [] w' → (∀ i,i < ops.size → (at_ ks i).sem W0.heap.size x (x i) w') → Q .normal (putE x a0 all) w') : (Code.region id ops draw).wp P Q a0 W0:=by
 subst hN
 refine az (hm:=hm) (hchk:=hchk) (hk:=hk) (hgu:=hgu) (hbs:=hbs) (hsk:=hsk) B ks es all bs sk ?_ ?_ hB0 ?_ ?_ ?_
 · rw [hb]; exact List.nodup_nil
 · rw [hb]; intro g hg; cases hg
 · rw [hb]; intro g hg; cases hg
 · rw [hb]; exact hs
 · rw [hb]; exact hend
def Zd (W : World) (v : Value) (k : Nat) (z : Int) : Prop:=∃ b A l c n,v = .agg #[.bool b,.slice A l c] ∧ Rd W (.slice A l c) n ∧ n < 1000000000 ^ k ∧ zOf n b = z
def Zr (W : World) (v : Value) (k : Nat) (z : Int) : Prop:=∃ A l c,v = .agg #[.bool (decide (z < 0)),.slice A l c] ∧ Rr W (.slice A l c) z.natAbs ∧ z.natAbs < 1000000000 ^ k
theorem Zr.zd {W : World} {v : Value} {k : Nat} {z : Int} (h : Zr W v k z) : Zd W v k z:=by
 obtain ⟨A,l,c,e,h1,h2⟩:=h
 exact ⟨_,A,l,c,_,e,h1.rd,h2,zOf_of z⟩
theorem Zd.below {W w' : World} {v : Value} {k : Nat} {z : Int} (h : Zd W v k z) (hb : Below W.heap.size W w') : Zd w' v k z:=by
 obtain ⟨b,A,l,c,n,e,h1,h2⟩:=h
 exact ⟨b,A,l,c,n,e,h1.below hb,h2⟩
theorem Zr.below {W w' : World} {v : Value} {k : Nat} {z : Int} (h : Zr W v k z) (hb : Below W.heap.size W w') : Zr w' v k z:=by
 obtain ⟨A,l,c,e,h1,h2⟩:=h
 exact ⟨A,l,c,e,h1.below hb,h2⟩
theorem Stored.rd {w w' : World} {g : Nat} {x : Value} {n : Nat} (h : Rd w x n) (hs : Stored g w w') : Rd w' x n:=by
 obtain ⟨A,c,xs,e,r1,r2⟩:=h
 exact ⟨A,c,xs,e,hs.row r1,r2⟩
theorem Zd.stored {w w' : World} {g : Nat} {v : Value} {k : Nat} {z : Int} (h : Zd w v k z) (hs : Stored g w w') : Zd w' v k z:=by
 obtain ⟨b,A,l,c,n,e,h1,h2⟩:=h
 exact ⟨b,A,l,c,n,e,hs.rd h1,h2⟩
theorem Zr.stored {w w' : World} {g : Nat} {v : Value} {k : Nat} {z : Int} (h : Zr w v k z) (hs : Stored g w w') : Zr w' v k z:=by
 obtain ⟨A,l,c,e,h1,h2⟩:=h
 exact ⟨A,l,c,e,hs.rr h1,h2⟩
theorem pow_le {j k : Nat} (h : j ≤ k) : 1000000000 ^ j ≤ 1000000000 ^ k:=Nat.pow_le_pow_right (by decide) h
theorem Zd.mono {W : World} {v : Value} {j k : Nat} {z : Int} (h : Zd W v j z) (hk : j ≤ k) : Zd W v k z:=by
 obtain ⟨b,A,l,c,n,e,h1,h2,h3⟩:=h
 exact ⟨b,A,l,c,n,e,h1,Nat.lt_of_lt_of_le h2 (pow_le hk),h3⟩
theorem Zr.mono {W : World} {v : Value} {j k : Nat} {z : Int} (h : Zr W v j z) (hk : j ≤ k) : Zr W v k z:=by
 obtain ⟨A,l,c,e,h1,h2⟩:=h
 exact ⟨A,l,c,e,h1,Nat.lt_of_lt_of_le h2 (pow_le hk)⟩
theorem Zd.lt {W : World} {v : Value} {k : Nat} {z : Int} (h : Zd W v k z) : z.natAbs < 1000000000 ^ k:=by
 obtain ⟨b,A,l,c,n,e,h1,h2,rfl⟩:=h
 rw [bg]; exact h2
theorem Zr.lt {W : World} {v : Value} {k : Nat} {z : Int} (h : Zr W v k z) : z.natAbs < 1000000000 ^ k:=h.zd.lt
theorem Zd.drew {W : World} {v : Value} {k : Nat} {z : Int} (h : Zd W v k z) : Zd W.drew v k z:=h.below ((Below.refl _ _).drew)
def kZ (k : Nat) (z : Int) : PK:=.p (fun v w=>Zr w v k z) (fun _ _ _ h hb=>h.below hb) (fun _ _ _ _ h hs=>h.stored hs)
def TellsZ (w : World) (k : Nat) (z : Int) (e : Ending) (w' : World) : Prop:=∃ v,e = .returned v ∧ Zr w' v k z ∧ Below w.heap.size w w'
theorem ep {w w' : World} {k : Nat} {z : Int} {e : Ending} (hz : z.natAbs < 1000000000 ^ k) (h : RetInt w z.natAbs (decide (z < 0)) e w') : TellsZ w k z e w':=by
 obtain ⟨A,l,c,h1,h2,_,h3⟩:=h
 exact ⟨_,h1,⟨A,l,c,rfl,h2,hz⟩,h3⟩
theorem tellsZ_nat {w w' : World} {k n : Nat} {e : Ending} (hz : n < 1000000000 ^ k) (h : RetInt w n false e w') : TellsZ w k (n : Int) e w':=by
 refine ep (by omega) ?_
 rw [Int.natAbs_natCast,decide_eq_false (by omega)]
 exact h
theorem two_pow {j k m x y : Nat} (hx : x < 1000000000 ^ j) (hy : y < 1000000000 ^ k) (hj : j < m) (hk : k < m) : x + y < 1000000000 ^ m:=by
 obtain ⟨m,rfl⟩ : ∃ m',m = m' + 1:=⟨m - 1,by omega⟩
 have h1:=Nat.lt_of_lt_of_le hx (pow_le (show j ≤ m by omega))
 have h2:=Nat.lt_of_lt_of_le hy (pow_le (show k ≤ m by omega))
 rw [Nat.pow_succ]; omega
theorem z_neg {w : World} {v : Value} {j : Nat} {x : Int} (h : Zd w v j x) (hj : j ≤ 4000) : Calls Tryz.prog 54 #[v] w (TellsZ w j (-x)):=by
 have hl:=h.lt
 obtain ⟨b,A,l,c,n,rfl,h1,h2,rfl⟩:=h
 exact (neg_int b h1 h2 hj).mono fun _ _ k=>ep (by rw [Int.natAbs_neg]; exact hl) k
theorem z_cmp {w : World} {v1 v2 : Value} {j k : Nat} {x y : Int} (h1 : Zd w v1 j x) (h2 : Zd w v2 k y) (hj : j ≤ 4000) (hk : k ≤ 4000) : Calls Tryz.prog 58 #[v1,v2] w fun e w'=>e = .returned (.int .i64 (ordI x y)) ∧ Below w.heap.size w w':=by
 obtain ⟨b1,A1,l1,c1,n1,rfl,r1,e1,rfl⟩:=h1
 obtain ⟨b2,A2,l2,c2,n2,rfl,r2,e2,rfl⟩:=h2
 exact numCmp_any (N:=max j k) b1 b2 r1 r2 (Nat.lt_of_lt_of_le e1 (pow_le (Nat.le_max_left _ _))) (Nat.lt_of_lt_of_le e2 (pow_le (Nat.le_max_right _ _))) (Nat.max_le.2 ⟨hj,hk⟩)
theorem z_right {w : World} {v : Value} {j : Nat} {x : Int} (h : Zr w v j x) : Calls Tryz.prog 57 #[v] w fun e w'=>e = .returned (.bool true) ∧ Below w.heap.size w w':=by
 obtain ⟨A,l,c,rfl,h1,h2⟩:=h
 exact numRight_yes _ h1 abs_zero
theorem z_of {w : World} (n : Int) (k : Nat) (h1 : -9223372036854775808 ≤ n) (h2 : n ≤ 9223372036854775807) (hk : n.natAbs < 1000000000 ^ k) : Calls Tryz.prog 40 #[.int .i64 n] w (TellsZ w k n) :=
 (numOfInt_any n _ h1 h2 rfl).mono fun _ _ k=>ep hk k
def zq (x y : Int) : Int:=zOf (divQ x.natAbs (decide (x < 0)) y.natAbs (decide (y < 0))) (decide (x < 0) != decide (y < 0))
def zm (x y : Int) : Int:=zOf (divR x.natAbs (decide (x < 0)) y.natAbs (decide (y < 0))) (decide (y < 0))
theorem zq_zm {x y : Int} (hy : y ≠ 0) : zq x y * y + zm x y = x:=by
 have:=(div_z x.natAbs y.natAbs (decide (x < 0)) (decide (y < 0)) (by omega)).1
 rw [zOf_of,zOf_of] at this
 exact this
theorem zm_lt {x y : Int} (hy : y ≠ 0) : (zm x y).natAbs < y.natAbs:=by
 unfold zm
 rw [bg]
 exact (div_z x.natAbs y.natAbs (decide (x < 0)) (decide (y < 0)) (by omega)).2
theorem zm_dvd {x y : Int} (hy : y ≠ 0) (h : y ∣ x) : zm x y = 0:=by
 have h1:=zq_zm (x:=x) hy
 have h2 : y ∣ zm x y:=by
   have : zm x y = x - zq x y * y:=by omega
   rw [this]; exact Int.dvd_sub h (Int.dvd_mul_left _ _)
 have h3:=zm_lt (x:=x) hy
 exact Int.eq_zero_of_dvd_of_natAbs_lt_natAbs h2 h3
theorem zq_le {x y : Int} : (zq x y).natAbs ≤ x.natAbs + 1:=by
 unfold zq divQ
 rw [bg]
 have:=Nat.div_le_self x.natAbs y.natAbs
 split <;> omega
def TellsQ (w : World) (j k : Nat) (q r : Int) (e : Ending) (w' : World) : Prop:=∃ v u,e = .returned (.tuple #[v,u,.int .i64 0]) ∧ Zr w' v j q ∧ Zr w' u k r ∧ Below w.heap.size w w'
theorem z_divMod {w : World} {v1 v2 : Value} {j k m : Nat} {x y : Int} (h1 : Zd w v1 j x) (h2 : Zd w v2 k y) (hy : y ≠ 0) (h1m : 1 < m) (hj : j < m) (hk : k ≤ m) (hm : m ≤ 3999) : Calls Tryz.prog 59 #[v1,v2] w (TellsQ w m k (zq x y) (zm x y)):=by
 have hl1:=h1.lt
 have hl2:=h2.lt
 have hq:=zq_le (x:=x) (y:=y)
 have hr:=zm_lt (x:=x) hy
 have hp : 0 < 1000000000 ^ j:=Nat.pow_pos (by decide)
 have hqb : (zq x y).natAbs < 1000000000 ^ m:=Nat.lt_of_le_of_lt hq (two_pow (j:=j) (k:=1) hl1 (by decide) hj h1m)
 obtain ⟨b1,A1,l1,c1,n1,rfl,r1,e1,rfl⟩:=h1
 obtain ⟨b2,A2,l2,c2,n2,rfl,r2,e2,rfl⟩:=h2
 have hn2 : 0 < n2:=by
   have:=bg n2 b2; omega
 have h:=divMod_int b1 b2 r1 r2 hn2 (Nat.lt_of_lt_of_le e1 (pow_le (Nat.le_of_lt hj))) (Nat.lt_of_lt_of_le e2 (pow_le hk)) hm
 have s2 : decide (zOf n2 b2 < 0) = b2:=by rw [dj,sgn,decide_eq_true (show n2 ≠ 0 by omega),Bool.and_true]
 refine h.mono fun e w' hh=>?_
 obtain ⟨a,b,he,⟨A,l,c,rfl,ra,_⟩,⟨A',l',c',rfl,rb,_⟩,hb⟩:=hh
 have eq1 : zq (zOf n1 b1) (zOf n2 b2) = zOf (divQ n1 (sgn n1 b1) n2 b2) (sgn n1 b1 != b2):=by
   unfold zq; rw [bg,bg,dj,s2]
 have er1 : zm (zOf n1 b1) (zOf n2 b2) = zOf (divR n1 (sgn n1 b1) n2 b2) b2:=by
   unfold zm; rw [bg,bg,dj,s2]
 refine ⟨_,_,he,⟨A,l,c,?_,?_,hqb⟩,⟨A',l',c',?_,?_,Nat.lt_trans hr hl2⟩,hb⟩
 · rw [eq1,dj]
 · rw [eq1,bg]; exact ra
 · rw [er1,dj]
 · rw [er1,bg]; exact rb
def Zs (W : World) (g : Nat) (l : List (Nat × Int)) : Prop:=∃ L : List (Nat × Bool),Ints W g L ∧ L.map (fun p=>zOf p.1 p.2) = l.map (·.2) ∧ ∀ q ∈ l,q.2.natAbs < 1000000000 ^ q.1
theorem Zs.below {W w' : World} {g : Nat} {l : List (Nat × Int)} (h : Zs W g l) (hb : Below W.heap.size W w') : Zs w' g l:=by
 obtain ⟨L,h1,h2⟩:=h
 exact ⟨L,h1.below hb,h2⟩
theorem Zs.lt {W : World} {g : Nat} {l : List (Nat × Int)} (h : Zs W g l) {L : List (Nat × Bool)} (hL : L.map (fun p=>zOf p.1 p.2) = l.map (·.2)) {m : Nat} (hm : ∀ q ∈ l,q.1 ≤ m) : ∀ p ∈ L,p.1 < 1000000000 ^ m:=fun p hp=>by
 obtain ⟨_,_,_,h3⟩:=h
 have : zOf p.1 p.2 ∈ l.map (·.2):=by rw [← hL]; exact List.mem_map.2 ⟨p,hp,rfl⟩
 obtain ⟨q,hq,e⟩:=List.mem_map.1 this
 have h4:=h3 q hq
 rw [e,bg] at h4
 exact Nat.lt_of_lt_of_le h4 (pow_le (hm q hq))
def kZs (l : List (Nat × Int)) : PK:=.list l.length (fun g w=>Zs w g l) (fun _ _ _ h hb=>h.below hb) (fun _ _ _ _ h hs hne=>by
 obtain ⟨L,h1,h2⟩:=h
 exact ⟨L,hs.ints h1 hne,h2⟩)
theorem zs_lit1 {W : World} {b1 : Bool} {A1 : Option Addr} {l1 c1 k : Nat} {x : Int} (h1 : Zd W (.agg #[.bool b1,.slice A1 l1 c1]) k x) (T : TypeId) :
   Zs (W.alloc (.cells #[.bool b1,.slice A1 l1 c1] T)) W.heap.size [(k,x)]:=by
 have u1:=h1.lt
 obtain ⟨_,_,_,_,n1,e1,r1,q1,rfl⟩:=h1
 injection e1 with e1; injection e1 with e1; injection e1 with e1 e1'; injection e1 with e1; subst e1; injection e1' with e1' _; injection e1' with a b c; subst a; subst b; subst c
 refine ⟨[(n1,b1)],?_,rfl,?_⟩
 · intro j p hp
   match j,hp with
   | 0,hp=>simp at hp; subst hp; exact ⟨A1,l1,c1,by simp,by simp,r1.alloc _⟩
 · intro p hp; rw [List.mem_singleton.1 hp]; exact u1
theorem zs_lit2 {W : World} {b1 b2 : Bool} {A1 A2 : Option Addr} {l1 c1 l2 c2 j k : Nat} {x y : Int} (h1 : Zd W (.agg #[.bool b1,.slice A1 l1 c1]) j x) (h2 : Zd W (.agg #[.bool b2,.slice A2 l2 c2]) k y) (T : TypeId) :
   Zs (W.alloc (.cells #[.bool b1,.slice A1 l1 c1,.bool b2,.slice A2 l2 c2] T)) W.heap.size [(j,x),(k,y)]:=by
 have u1:=h1.lt
 have u2:=h2.lt
 obtain ⟨_,_,_,_,n1,e1,r1,q1,rfl⟩:=h1
 injection e1 with e1; injection e1 with e1; injection e1 with e1 e1'; injection e1 with e1; subst e1; injection e1' with e1' _; injection e1' with a b c; subst a; subst b; subst c
 obtain ⟨_,_,_,_,n2,e2,r2,q2,rfl⟩:=h2
 injection e2 with e2; injection e2 with e2; injection e2 with e2 e2'; injection e2 with e2; subst e2; injection e2' with e2' _; injection e2' with a b c; subst a; subst b; subst c
 refine ⟨[(n1,b1),(n2,b2)],?_,rfl,?_⟩
 · intro j p hp
   match j,hp with
   | 0,hp=>simp at hp; subst hp; exact ⟨A1,l1,c1,by simp,by simp,r1.alloc _⟩
   | 1,hp=>simp at hp; subst hp; exact ⟨A2,l2,c2,by simp,by simp,r2.alloc _⟩
 · intro p hp; rcases List.mem_cons.1 hp with rfl | hp
   · exact u1
   · rw [List.mem_singleton.1 hp]; exact u2
def zsum (zs : List Int) : Int:=zs.foldl (· + ·) 0
def zprod (zs : List Int) : Int:=zs.foldl (· * ·) 1
def zgcd (zs : List Int) : Nat:=zs.foldl (fun d z=>Nat.gcd z.natAbs d) 0
theorem zadd_map (L : List (Nat × Bool)) : zadd L = zsum (L.map fun p=>zOf p.1 p.2):=by
 unfold zadd zsum
 rw [List.foldl_map]
theorem zmul_map (L : List (Nat × Bool)) : zmul L = zprod (L.map fun p=>zOf p.1 p.2):=by
 unfold zmul zprod
 rw [List.foldl_map]
theorem gcds_map (L : List (Nat × Bool)) : gcds L 0 = zgcd (L.map fun p=>zOf p.1 p.2):=by
 unfold gcds zgcd
 rw [List.foldl_map]
 simp only [bg]
theorem take_map (L : List (Nat × Bool)) (k : Nat) : (L.take k).map (fun p=>zOf p.1 p.2) = (L.map fun p=>zOf p.1 p.2).take k:=List.map_take
theorem z_add {w : World} {g c0 : Nat} {l : List (Nat × Int)} (m : Nat) (h : Zs w g l) (hB : ∀ i (hi : i < l.length),(zsum ((l.map (·.2)).take i)).natAbs + l[i].2.natAbs < 1000000000 ^ m) (h0 : l ≠ []) (hk : ∀ q ∈ l,q.1 ≤ m) (hm : m ≤ 4000) (hl : l.length ≤ 100000) :
   Calls Tryz.prog 47 #[.slice (some ⟨g,0,none⟩) l.length c0] w (TellsZ w m (zsum (l.map (·.2)))):=by
 have h':=h
 obtain ⟨L,h1,h2,h3⟩:=h
 have hlen : l.length = L.length:=by simpa using (congrArg List.length h2).symm
 have hb : ∀ k (hk : k < L.length),addBound m (zadd (L.take k)) (zOf L[k].1 L[k].2):=fun i hi=>by
   have:=hB i (by omega); rw [← h2,← take_map,← zadd_map] at this
   have e : zOf L[i].1 L[i].2 = l[i].2:=by
     have:=congrArg (fun q=>q[i]?) h2
     simpa [hi,show i < l.length by omega] using this
   rw [← e] at this; exact this
 rw [← h2,← zadd_map,hlen]
 refine (add_int h1 (h'.lt h2 hk) hb hm (by omega)).mono fun _ _ q=>ep ?_ q
 have hne : 0 < L.length:=by
   rcases Nat.eq_zero_or_pos L.length with e | e
   · exact absurd (List.eq_nil_of_length_eq_zero (by omega)) h0
   · exact e
 have h5:=hb (L.length - 1) (by omega)
 have h6:=zadd_succ (L:=L) (k:=L.length - 1) (by omega)
 rw [show L.length - 1 + 1 = L.length by omega,List.take_length] at h6
 unfold addBound at h5
 rw [h6]
 exact Nat.lt_of_le_of_lt (Int.natAbs_add_le _ _) h5
theorem z_mul {w : World} {g c0 : Nat} {l : List (Nat × Int)} (m : Nat) (h : Zs w g l) (hB : ∀ i (hi : i < l.length),(zprod ((l.map (·.2)).take i)).natAbs < 1000000000 ^ m ∧ (zprod ((l.map (·.2)).take i)).natAbs * l[i].2.natAbs < 1000000000 ^ m) (h0 : l ≠ []) (hk : ∀ q ∈ l,q.1 ≤ m) (hm0 : 0 < m) (hm : m ≤ 4000) (hl : l.length ≤ 100000) :
   Calls Tryz.prog 49 #[.slice (some ⟨g,0,none⟩) l.length c0] w (TellsZ w m (zprod (l.map (·.2)))):=by
 have h':=h
 obtain ⟨L,h1,h2,h3⟩:=h
 have hlen : l.length = L.length:=by simpa using (congrArg List.length h2).symm
 have hb : ∀ k (hk : k < L.length),mulBound m (zmul (L.take k)) (zOf L[k].1 L[k].2):=fun i hi=>by
   have:=hB i (by omega); rw [← h2,← take_map,← zmul_map] at this
   have e : zOf L[i].1 L[i].2 = l[i].2:=by
     have:=congrArg (fun q=>q[i]?) h2
     simpa [hi,show i < l.length by omega] using this
   rw [← e] at this; exact ⟨this.1,this.2,hm0⟩
 rw [← h2,← zmul_map,hlen]
 refine (mul_int h1 (h'.lt h2 hk) hb hm (by omega)).mono fun _ _ q=>ep ?_ q
 have hne : 0 < L.length:=by
   rcases Nat.eq_zero_or_pos L.length with e | e
   · exact absurd (List.eq_nil_of_length_eq_zero (by omega)) h0
   · exact e
 have h5:=hb (L.length - 1) (by omega)
 have h6:=zmul_succ (L:=L) (k:=L.length - 1) (by omega)
 rw [show L.length - 1 + 1 = L.length by omega,List.take_length] at h6
 rw [h6]
 show ((zmul _) * _).natAbs < _
 rw [Int.natAbs_mul]
 exact h5.2.1
theorem z_gcd {w : World} {g c0 : Nat} {l : List (Nat × Int)} (k : Nat) (h : Zs w g l) (hk : ∀ q ∈ l,q.1 ≤ k) (hk4 : k ≤ 4000) (hl : l.length ≤ 100000) :
   Calls Tryz.prog 51 #[.slice (some ⟨g,0,none⟩) l.length c0] w (TellsZ w k (zgcd (l.map (·.2)) : Nat)):=by
 have h':=h
 obtain ⟨L,h1,h2,h3⟩:=h
 have hlen : l.length = L.length:=by simpa using (congrArg List.length h2).symm
 have hb:=h'.lt h2 hk
 rw [← h2,← gcds_map,hlen]
 exact (gcd_any h1 hb hk4 (by omega)).mono fun _ _ q=>tellsZ_nat (gcds_lt (Nat.pow_pos (by decide)) hb) q
def ZL (w : World) (v : Value) (l : List (Nat × Int)) : Prop:=∃ g,v = .slice (some ⟨g,0,none⟩) l.length l.length ∧ Zs w g l
theorem ZL.lt {w : World} {v : Value} {l : List (Nat × Int)} (h : ZL w v l) : ∀ q ∈ l,q.2.natAbs < 1000000000 ^ q.1:=by
 obtain ⟨_,_,_,_,_,h⟩:=h
 exact h
theorem l_add1 {w : World} {v : Value} {i : Nat} (m : Nat) {x : Int} (h : ZL w v [(i,x)]) (hi : i ≤ m) (hm : m ≤ 4000) : Calls Tryz.prog 47 #[v] w (TellsZ w m x):=by
 have hx : x.natAbs < 1000000000 ^ i:=h.lt (i,x) (by simp)
 obtain ⟨g,rfl,h⟩:=h
 have:=z_add (c0:=1) m h (fun j hj=>by
   match j,hj with
   | 0,_=>simp [zsum]; exact Nat.lt_of_lt_of_le hx (pow_le hi)) (by simp) (by simpa using hi) hm (by simp)
 have e : zsum ([(i,x)].map (·.2)) = x:=by simp [zsum]
 rw [e] at this
 exact this
theorem l_add2 {w : World} {v : Value} {i j : Nat} (m : Nat) {x y : Int} (h : ZL w v [(i,x),(j,y)]) (hi : i < m) (hj : j < m) (hm : m ≤ 4000) : Calls Tryz.prog 47 #[v] w (TellsZ w m (x + y)):=by
 have hx : x.natAbs < 1000000000 ^ i:=h.lt (i,x) (by simp)
 have hy : y.natAbs < 1000000000 ^ j:=h.lt (j,y) (by simp)
 obtain ⟨g,rfl,h⟩:=h
 have:=z_add (c0:=2) m h (fun k hk=>by
   match k,hk with
   | 0,_=>simp [zsum]; exact Nat.lt_of_lt_of_le hx (pow_le (by omega))
   | 1,_=>simp [zsum]; exact two_pow hx hy hi hj) (by simp) (by simp; omega) hm (by simp)
 have e : zsum ([(i,x),(j,y)].map (·.2)) = x + y:=by simp [zsum]
 rw [e] at this
 exact this
theorem mul_pow {j k m x y : Nat} (hx : x < 1000000000 ^ j) (hy : y < 1000000000 ^ k) (hm : j + k ≤ m) : x * y < 1000000000 ^ m :=
 Nat.lt_of_lt_of_le (Nat.mul_lt_mul'' hx hy) (by rw [← Nat.pow_add]; exact pow_le hm)
theorem l_mul2 {w : World} {v : Value} {i j : Nat} (m : Nat) {x y : Int} (h : ZL w v [(i,x),(j,y)]) (hm2 : i + j ≤ m) (h0 : 0 < m) (hm : m ≤ 4000) : Calls Tryz.prog 49 #[v] w (TellsZ w m (x * y)):=by
 have hx : x.natAbs < 1000000000 ^ i:=h.lt (i,x) (by simp)
 have hy : y.natAbs < 1000000000 ^ j:=h.lt (j,y) (by simp)
 obtain ⟨g,rfl,h⟩:=h
 have h1 : 1 < 1000000000 ^ m:=Nat.one_lt_pow (by omega) (by decide)
 have hxm:=Nat.lt_of_lt_of_le hx (pow_le (show i ≤ m by omega))
 have:=z_mul (c0:=2) m h (fun k hk=>by
   match k,hk with
   | 0,_=>simp [zprod]; exact ⟨by omega,hxm⟩
   | 1,_=>simp [zprod]; exact ⟨hxm,mul_pow hx hy hm2⟩) (by simp) (by simp; omega) h0 hm (by simp)
 have e : zprod ([(i,x),(j,y)].map (·.2)) = x * y:=by simp [zprod]
 rw [e] at this
 exact this
theorem l_gcd {w : World} {v : Value} (k : Nat) {l : List (Nat × Int)} (h : ZL w v l) (hk : (l.all fun q=>decide (q.1 ≤ k)) = true) (hk4 : k ≤ 4000) (hl : l.length ≤ 100000) : Calls Tryz.prog 51 #[v] w (TellsZ w k (zgcd (l.map (·.2)) : Nat)):=by
 obtain ⟨g,rfl,h⟩:=h
 exact z_gcd k h (fun q hq=>of_decide_eq_true (List.all_eq_true.1 hk q hq)) hk4 hl
def LocZ (W : World) (g k : Nat) (z : Int) : Prop:=∃ b A l c,Holds_ W g #[.bool b,.slice A l c] ∧ Zd W (.agg #[.bool b,.slice A l c]) k z
def LocR (W : World) (g k : Nat) (z : Int) : Prop:=∃ A l c,Holds_ W g #[.bool (decide (z < 0)),.slice A l c] ∧ Zr W (.agg #[.bool (decide (z < 0)),.slice A l c]) k z
theorem LocZ.below {W w' : World} {g k : Nat} {z : Int} (h : LocZ W g k z) (hb : Below W.heap.size W w') : LocZ w' g k z:=by
 obtain ⟨b,A,l,c,h1,h2⟩:=h
 exact ⟨b,A,l,c,h1.step hb,h2.below hb⟩
theorem LocR.below {W w' : World} {g k : Nat} {z : Int} (h : LocR W g k z) (hb : Below W.heap.size W w') : LocR w' g k z:=by
 obtain ⟨A,l,c,h1,h2⟩:=h
 exact ⟨A,l,c,h1.step hb,h2.below hb⟩
theorem Reg.rd {B : Nat} {W0 w : World} {G : List Nat} (h : Reg B W0 G w) {v : Value} {n : Nat} (hr : Rd W0 v n) : Rd w v n:=by
 obtain ⟨A,c,xs,h1,h2,h3⟩:=hr
 refine ⟨A,c,xs,h1,fun j u hu=>?_,h3⟩
 obtain ⟨ad,e,hc⟩:=h2 j u hu
 refine ⟨ad,e,?_⟩
 have hG : (ad.add j).block ∉ G:=fun hg=>by
   obtain ⟨cs0,_,⟨⟨T,h4⟩,h5⟩,_⟩:=h.held _ hg; obtain ⟨d,_,hd⟩:=List.mem_map.1 (List.mem_of_getElem? hu); simp only [World.cell?,h4] at hc; split at hc
   · cases hc
   · exact h5 u (Array.mem_of_getElem? hc) d hd.symm
 rw [World.cell?_of_block (h.old _ (cell_lt hc) hG)]
 exact hc
theorem Reg.holds {B : Nat} {W0 w : World} (h : Reg B W0 [] w) {g : Nat} {cs : Array Value} (hg : Holds_ W0 g cs) : Holds_ w g cs:=by
 have hlt:=hg.lt
 obtain ⟨⟨T,h4⟩,h5⟩:=hg
 exact ⟨⟨T,(h.old g hlt (by simp)).trans h4⟩,h5⟩
theorem Reg.locR {B : Nat} {W0 w : World} (h : Reg B W0 [] w) {g k : Nat} {z : Int} (hl : LocR W0 g k z) : LocR w g k z:=by
 obtain ⟨A,l,c,h1,A',l',c',e,h2,h3⟩:=hl
 exact ⟨A,l,c,h.holds h1,A',l',c',e,h.rr h2,h3⟩
theorem run_load {w : World} {g : Nat} {u v : Value} (h0 : w.cell? ⟨g,0,none⟩ = some u) (h1 : w.cell? ⟨g,1,none⟩ = some v) : (Instr.loadAt 24 (.pointer (some ⟨g,0,none⟩))).run Tryz.prog w = .ok (.agg #[u,v]) w:=by go_simp
theorem run_store2 {w : World} {g : Nat} {b : Bool} {A : Option Addr} {l c : Nat} (h0 : w.frozen? ⟨g,0,none⟩ = false) (h1 : w.frozen? ⟨g,1,none⟩ = false) {u0 v0 : Value} (h2 : w.cell? ⟨g,0,none⟩ = some u0) (h3 : w.cell? ⟨g,1,none⟩ = some v0) : (Instr.storeAt 24 (.pointer (some ⟨g,0,none⟩)) (.agg #[.bool b,.slice A l c])).run Tryz.prog w = .ok () (put2 w g (.bool b) (.slice A l c)):=by go_simp; rfl
theorem run_alloc {w : World} : (Instr.alloc 24 true (.tuple #[])).run Tryz.prog w = .ok (.pointer (some ⟨w.heap.size,0,none⟩)) (w.alloc (.cells #[.bool false,.slice none 0 0] 24)):=by go_simp
theorem run_list1 {w : World} {b1 : Bool} {A1 : Option Addr} {l1 c1 : Nat} : (Instr.buildSlice 53 1 #[(0,.agg #[.bool b1,.slice A1 l1 c1])]).run Tryz.prog w = .ok (.slice (some ⟨w.heap.size,0,none⟩) 1 1) (w.alloc (.cells #[.bool b1,.slice A1 l1 c1] 24)):=by go_simp
theorem run_list2 {w : World} {b1 b2 : Bool} {A1 A2 : Option Addr} {l1 c1 l2 c2 : Nat} : (Instr.buildSlice 53 2 #[(0,.agg #[.bool b1,.slice A1 l1 c1]),(1,.agg #[.bool b2,.slice A2 l2 c2])]).run Tryz.prog w = .ok (.slice (some ⟨w.heap.size,0,none⟩) 2 2) (w.alloc (.cells #[.bool b1,.slice A1 l1 c1,.bool b2,.slice A2 l2 c2] 24)):=by go_simp
def isZ (k : Nat) (z : Int) (cs : Array Value) (w : World) : Prop:=∃ A l c,cs = #[.bool (decide (z < 0)),.slice A l c] ∧ Zr w (.agg #[.bool (decide (z < 0)),.slice A l c]) k z
def kPutZ (e k : Nat) (z : Int) : PK:=.put e (isZ k z) (fun _ _ _ ⟨A,l,c,h1,h2⟩ hb=>⟨A,l,c,h1,h2.below hb⟩) (fun _ _ _ _ ⟨A,l,c,h1,h2⟩ hs=>⟨A,l,c,h1,h2.stored hs⟩)
def kZQ (j k : Nat) (q r : Int) (e : Int) : PK:=.p (fun v w=>∃ a b,v = .tuple #[a,b,.int .i64 e] ∧ Zr w a j q ∧ Zr w b k r) (fun _ _ _ ⟨a,b,h1,h2,h3⟩ hb=>⟨a,b,h1,h2.below hb,h3.below hb⟩) (fun _ _ _ _ ⟨a,b,h1,h2,h3⟩ hs=>⟨a,b,h1,h2.stored hs,h3.stored hs⟩)
def kZB (k : Nat) (z : Int) (ok : Bool) : PK:=.p (fun v w=>∃ a,v = .tuple #[a,.bool ok] ∧ Zr w a k z) (fun _ _ _ ⟨a,h1,h2⟩ hb=>⟨a,h1,h2.below hb⟩) (fun _ _ _ _ ⟨a,h1,h2⟩ hs=>⟨a,h1,h2.stored hs⟩)
theorem Lens.below {W w' : World} {g : Nat} {ns : List Nat} (h : Lens W g ns) (hb : Below W.heap.size W w') : Lens w' g ns:=fun j n hj=>by
 obtain ⟨A,c,h1⟩:=h j n hj
 exact ⟨A,c,(hb.cell (cell_lt h1)).trans h1⟩
def AsZ (c : PK) (k : Nat) (z : Int) : Prop:=∀ S0 x v w,c.sem S0 x v w → Zd w v k z
theorem asR {k : Nat} {z : Int} : AsZ (kZ k z) k z:=fun _ _ _ _ h=>Zr.zd h
theorem rz {S0 : Nat} {x : Nat → Value} {v : Value} {w : World} {k : Nat} {z : Int} (h : (kZ k z).sem S0 x v w) : Zd w v k z:=Zr.zd h
theorem rr {S0 : Nat} {x : Nat → Value} {v : Value} {w : World} {k : Nat} {z : Int} (h : (kZ k z).sem S0 x v w) : Zr w v k z:=h
theorem lz {S0 : Nat} {x : Nat → Value} {v : Value} {w : World} {l : List (Nat × Int)} (h : (kZs l).sem S0 x v w) : ZL w v l:=by
 obtain ⟨g,h1,_,_,h2⟩:=h
 exact ⟨g,h1,h2⟩
def Told (c : PK) (S0 : Nat) (x : Nat → Value) (w : World) (e : Ending) (w' : World) : Prop:=∃ v,e = .returned v ∧ c.move S0 x v w w' ∧ c.sem S0 x v w'
theorem tz {P : Program} {F : FuncId} {vs : Array Value} {w : World} {S0 : Nat} {x : Nat → Value} {k : Nat} {z : Int} (h : Calls P F vs w (TellsZ w k z)) : Calls P F vs w (Told (kZ k z) S0 x w) :=
 h.mono fun _ _ ⟨v,e,h1,h2⟩=>⟨v,e,h2,h1⟩
theorem tq {P : Program} {F : FuncId} {vs : Array Value} {w : World} {S0 : Nat} {x : Nat → Value} {j k : Nat} {q r : Int} (h : Calls P F vs w (TellsQ w j k q r)) : Calls P F vs w (Told (kZQ j k q r 0) S0 x w) :=
 h.mono fun _ _ ⟨v,u,e,h1,h2,h3⟩=>⟨_,e,h3,v,u,rfl,h1,h2⟩
theorem ti {P : Program} {F : FuncId} {vs : Array Value} {w : World} {S0 : Nat} {x : Nat → Value} {V : Value} (h : Calls P F vs w fun e w'=>e = .returned V ∧ Below w.heap.size w w') : Calls P F vs w (Told (kIs V) S0 x w) :=
 h.mono fun _ _ ⟨e,h1⟩=>⟨V,e,h1,rfl⟩
theorem cmp_is {P : Program} {F : FuncId} {vs : Array Value} {w : World} {x y o : Int} (ho : ordI x y = o) (h : Calls P F vs w fun e w'=>e = .returned (.int .i64 (ordI x y)) ∧ Below w.heap.size w w') : Calls P F vs w fun e w'=>e = .returned (.int .i64 o) ∧ Below w.heap.size w w':=ho ▸ h
theorem ord_eq {x y : Int} (h : x = y) : ordI x y = 0:=by unfold ordI; rw [if_neg (by omega),if_neg (by omega)]
theorem ord_lt {x y : Int} (h : x < y) : ordI x y = -1:=by unfold ordI; rw [if_pos h]
theorem ord_gt {x y : Int} (h : y < x) : ordI x y = 1:=by unfold ordI; rw [if_neg (by omega),if_pos h]
section
variable {G : List Nat} {C : World → Prop} {S0 B : Nat} {ks : List PK} {a0 : Act} {i : Nat} {N : Nat} {W0 : World} {P : Program} {T : TypeId} {pos : String} {af : Array Edge} {gu : Option (Nat × Bool)} {ats : Array TypeId}
theorem st_alloc {d : Nat}    (hi : at_ ks i = .fresh 2) (hN : a0.tmps.size = N:=by assumption) (hd : decide (d < N) = true:=by kernel_rfl) (hS : S0 ≤ W0.heap.size:=by exact Nat.le_refl _) :
   PkStep Tryz.prog (Reg B W0 G) S0 ks a0 i { dst:=some d,op:=.alloc 24,type:=T,pos:=pos,after:=af,guard:=gu } []:=by
 intro w x hC K hK
 have hsz:=hC.below.size
 refine bj (v:=.pointer (some ⟨w.heap.size,0,none⟩)) (w':=w.alloc (.cells #[.bool false,.slice none 0 0] 24)) rfl hN hd ?_ (hK _ _ ?_ ?_)
 · exact ex_alloc run_alloc
 · rw [hi]; exact ⟨(Below.refl _ _).alloc (Nat.le_refl _) _,_,rfl,Nat.le_refl _⟩
 · rw [hi]; exact ⟨_,_,rfl,Nat.le_trans hS hsz,ft _ (noDig_bool _) (noDig_slice _ _ _) _,rfl⟩
theorem au {ops9 : Array Oper} {es9 : List (List (Nat × Option Tmp))} {sk9 : List Nat} {d : Nat}  (hh9 : PkFrom Tryz.prog ops9 es9 sk9 (Reg B W0 G) S0 ks a0 (i + 1)) (ho9 : ops9[i]? = some { dst:=some d,op:=.alloc 24,type:=T,pos:=pos,after:=af,guard:=gu }:=by exact rfl) (he9 : es9.getD i [] = []:=by exact rfl) (hi : at_ ks i = .fresh 2:=by exact rfl) (hN : a0.tmps.size = N:=by assumption) (hd : decide (d < N) = true:=by kernel_rfl) (hS : S0 ≤ W0.heap.size:=by exact Nat.le_refl _) : PkFrom Tryz.prog ops9 es9 sk9 (Reg B W0 G) S0 ks a0 i :=
 aa ho9 he9 (st_alloc (hi:=hi) (hN:=hN) (hd:=hd) (hS:=hS)) hh9
theorem st_put {t u e j k : Nat} {z : Int}     (he : at_ ks e = .fresh 2) (hj : at_ ks j = kZ k z) (hi : at_ ks i = kPutZ e k z) (hN : a0.tmps.size = N:=by assumption) (ht : decide (t < N) = true:=by kernel_rfl) (hu : decide (u < N) = true:=by kernel_rfl) (htu : decide (t = u) = false:=by kernel_rfl) :
   PkStep Tryz.prog (Reg B W0 G) S0 ks a0 i { dst:=none,op:=.store 24 (.tmp t) (.tmp u),type:=T,pos:=pos,after:=af,guard:=gu } [(e,some t),(j,some u)]:=by
 intro w x hC
 refine aw _ fun hdeps K hK=>?_
 have h1:=hdeps (e,some t) (by simp)
 have h2:=hdeps (j,some u) (by simp)
 have htu' : t ≠ u:=of_decide_eq_false htu
 have e1 : (putE x a0 [(e,some t),(j,some u)]).eval (.tmp t) = x e:=putE_new _ _ (by rw [hN]; exact of_decide_eq_true ht) (by simp [slotAt,Ne.symm htu'])
 have e2 : (putE x a0 [(e,some t),(j,some u)]).eval (.tmp u) = x j:=putE_new _ _ (by rw [hN]; exact of_decide_eq_true hu) (by simp [slotAt])
 simp only [he,hj] at h1 h2
 obtain ⟨g,cs,hx,hg0,hg,hsz⟩:=h1
 obtain ⟨u0,v0,rfl⟩:=jb hsz
 obtain ⟨A,l,c,hy,hr,hlt⟩:=h2
 obtain ⟨m1,m2,m3,m4⟩:=hg.two
 have hst:=stored_put2 hg (noDig_bool (decide (z < 0))) (noDig_slice A l c)
 refine gp (w':=put2 w g (.bool (decide (z < 0))) (.slice A l c)) rfl ?_ (hK _ _ ?_ ?_)
 · exact dz (e1.trans hx) (e2.trans hy) (run_store2 m3 m4 m1 m2)
 · rw [hi]; exact ⟨g,hx,hg0,hst⟩
 · rw [hi]; exact ⟨g,_,hx,hg0,ay hg (noDig_bool _) (noDig_slice _ _ _),A,l,c,rfl,A,l,c,rfl,hst.rr hr,hlt⟩
theorem bc {ops9 : Array Oper} {es9 : List (List (Nat × Option Tmp))} {sk9 : List Nat} {t u e j k : Nat} {z : Int}  (hh9 : PkFrom Tryz.prog ops9 es9 sk9 (Reg B W0 G) S0 ks a0 (i + 1)) (ho9 : ops9[i]? = some { dst:=none,op:=.store 24 (.tmp t) (.tmp u),type:=T,pos:=pos,after:=af,guard:=gu }:=by exact rfl) (he9 : es9.getD i [] = [(e,some t),(j,some u)]:=by exact rfl) (he : at_ ks e = .fresh 2:=by exact rfl) (hj : at_ ks j = kZ k z:=by exact rfl) (hi : at_ ks i = kPutZ e k z:=by exact rfl) (hN : a0.tmps.size = N:=by assumption) (ht : decide (t < N) = true:=by kernel_rfl) (hu : decide (u < N) = true:=by kernel_rfl) (htu : decide (t = u) = false:=by kernel_rfl) : PkFrom Tryz.prog ops9 es9 sk9 (Reg B W0 G) S0 ks a0 i :=
 aa ho9 he9 (st_put (he:=he) (hj:=hj) (hi:=hi) (hN:=hN) (ht:=ht) (hu:=hu) (htu:=htu)) hh9
theorem dl {S0 : Nat} {x : Nat → Value} {v : Value} {w : World} {e k : Nat} {z : Int} (h : (kPutZ e k z).sem S0 x v w) : ∃ g,x e = .pointer (some ⟨g,0,none⟩) ∧ LocR w g k z:=by
 obtain ⟨g,cs,h1,_,h2,A,l,c,rfl,h3⟩:=h
 exact ⟨g,h1,A,l,c,h2,h3⟩
theorem st_list1 {d j1 t1 k1 : Nat} {z1 : Int}     (h1 : AsZ (at_ ks j1) k1 z1) (hi : at_ ks i = kZs [(k1,z1)]) (hN : a0.tmps.size = N:=by assumption) (hd : decide (d < N) = true:=by kernel_rfl) (ht1 : decide (t1 < N) = true:=by kernel_rfl) (hS : S0 ≤ W0.heap.size:=by exact Nat.le_refl _) :
   PkStep Tryz.prog (Reg B W0 G) S0 ks a0 i { dst:=some d,op:=.buildSlice 53 1 #[(0,.tmp t1)],type:=T,pos:=pos,after:=af,guard:=gu } [(j1,some t1)]:=by
 intro w x hC
 refine aw _ fun hdeps K hK=>?_
 have g1:=h1 _ _ _ _ (hdeps (j1,some t1) (by simp))
 have e1 : (putE x a0 [(j1,some t1)]).eval (.tmp t1) = x j1:=putE_new _ _ (by rw [hN]; exact of_decide_eq_true ht1) (by simp [slotAt])
 obtain ⟨b1,A1,l1,c1,n1,hx,q1⟩:=g1
 have hsz:=hC.below.size
 refine bj (v:=.slice (some ⟨w.heap.size,0,none⟩) 1 1) (w':=w.alloc (.cells #[.bool b1,.slice A1 l1 c1] 24)) rfl (by rw [ax,hN]) hd ?_ (hK _ _ ?_ ?_)
 · exact ex_slice1 (e1.trans hx) run_list1
 · rw [hi]; exact ⟨(Below.refl _ _).alloc (Nat.le_refl _) _,_,rfl,Nat.le_refl _⟩
 · rw [hi]; exact ⟨_,rfl,Nat.le_trans hS hsz,lt_alloc _ _,zs_lit1 ⟨b1,A1,l1,c1,n1,rfl,q1⟩ _⟩
theorem fg {d j1 t1 k1 j2 t2 k2 : Nat} {z1 z2 : Int}       (h1 : AsZ (at_ ks j1) k1 z1) (h2 : AsZ (at_ ks j2) k2 z2) (hi : at_ ks i = kZs [(k1,z1),(k2,z2)]) (hN : a0.tmps.size = N:=by assumption) (hd : decide (d < N) = true:=by kernel_rfl) (ht1 : decide (t1 < N) = true:=by kernel_rfl) (ht2 : decide (t2 < N) = true:=by kernel_rfl) (hne : decide (t1 = t2) = false:=by kernel_rfl) (hS : S0 ≤ W0.heap.size:=by exact Nat.le_refl _) :
   PkStep Tryz.prog (Reg B W0 G) S0 ks a0 i { dst:=some d,op:=.buildSlice 53 2 #[(0,.tmp t1),(1,.tmp t2)],type:=T,pos:=pos,after:=af,guard:=gu } [(j1,some t1),(j2,some t2)]:=by
 intro w x hC
 refine aw _ fun hdeps K hK=>?_
 have g1:=h1 _ _ _ _ (hdeps (j1,some t1) (by simp))
 have g2:=h2 _ _ _ _ (hdeps (j2,some t2) (by simp))
 have hne' : t1 ≠ t2:=of_decide_eq_false hne
 have e1 : (putE x a0 [(j1,some t1),(j2,some t2)]).eval (.tmp t1) = x j1:=putE_new _ _ (by rw [hN]; exact of_decide_eq_true ht1) (by simp [slotAt,Ne.symm hne'])
 have e2 : (putE x a0 [(j1,some t1),(j2,some t2)]).eval (.tmp t2) = x j2:=putE_new _ _ (by rw [hN]; exact of_decide_eq_true ht2) (by simp [slotAt])
 obtain ⟨b1,A1,l1,c1,n1,hx,q1⟩:=g1
 obtain ⟨b2,A2,l2,c2,n2,hy,q2⟩:=g2
 have hsz:=hC.below.size
 refine bj (v:=.slice (some ⟨w.heap.size,0,none⟩) 2 2) (w':=w.alloc (.cells #[.bool b1,.slice A1 l1 c1,.bool b2,.slice A2 l2 c2] 24)) rfl (by rw [ax,hN]) hd ?_ (hK _ _ ?_ ?_)
 · exact ex_slice2 (e1.trans hx) (e2.trans hy) run_list2
 · rw [hi]; exact ⟨(Below.refl _ _).alloc (Nat.le_refl _) _,_,rfl,Nat.le_refl _⟩
 · rw [hi]; exact ⟨_,rfl,Nat.le_trans hS hsz,lt_alloc _ _,zs_lit2 ⟨b1,A1,l1,c1,n1,rfl,q1⟩ ⟨b2,A2,l2,c2,n2,rfl,q2⟩ _⟩
theorem ae {d F j1 t1 : Nat} {c1 c : PK}     (h1 : at_ ks j1 = c1) (hi : at_ ks i = c)
   (h : ∀ {w x v1},C w → c1.sem S0 x v1 w → Calls P F #[v1] w (Told c S0 x w)) (hN : a0.tmps.size = N:=by assumption) (hd : decide (d < N) = true:=by kernel_rfl) (ht1 : decide (t1 < N) = true:=by kernel_rfl) (hF : enters P F = true:=by kernel_rfl) :
   PkStep P C S0 ks a0 i { dst:=some d,op:=.call { callee:=.value (.func F),args:=#[.tmp t1],argTypes:=ats },type:=T,pos:=pos,after:=af,guard:=gu } [(j1,some t1)] :=
 jo (ss:=[.dep j1]) hN (by simp [esIn]; exact of_decide_eq_true ht1) hd hF (by simp [src,slotAt]) fun w x hC hdeps=>by
   have g1:=hdeps (j1,some t1) (by simp); rw [h1] at g1; rw [hi]; exact @h w x (x j1) hC g1
theorem ap {d F j1 t1 j2 t2 : Nat} {c1 c2 c : PK}       (h1 : at_ ks j1 = c1) (h2 : at_ ks j2 = c2) (hi : at_ ks i = c)
   (h : ∀ {w x v1 v2},C w → c1.sem S0 x v1 w → c2.sem S0 x v2 w → Calls P F #[v1,v2] w (Told c S0 x w)) (hN : a0.tmps.size = N:=by assumption) (hd : decide (d < N) = true:=by kernel_rfl) (ht1 : decide (t1 < N) = true:=by kernel_rfl) (ht2 : decide (t2 < N) = true:=by kernel_rfl) (hne : decide (t1 = t2) = false:=by kernel_rfl) (hF : enters P F = true:=by kernel_rfl) :
   PkStep P C S0 ks a0 i { dst:=some d,op:=.call { callee:=.value (.func F),args:=#[.tmp t1,.tmp t2],argTypes:=ats },type:=T,pos:=pos,after:=af,guard:=gu } [(j1,some t1),(j2,some t2)] :=
 jo (ss:=[.dep j1,.dep j2]) hN (by simp [esIn]; exact ⟨of_decide_eq_true ht1,of_decide_eq_true ht2⟩) hd hF (by have:=of_decide_eq_false hne; simp [src,slotAt,Ne.symm this]) fun w x hC hdeps=>by
   have g1:=hdeps (j1,some t1) (by simp); have g2:=hdeps (j2,some t2) (by simp); rw [h1] at g1; rw [h2] at g2; rw [hi]; exact @h w x (x j1) (x j2) hC g1 g2
theorem be {d F : Nat} {args : Array Operand} {c : PK} (vs : List Value)    (hs : args.toList.map (src []) = vs.map Src.val) (hi : at_ ks i = c) (h : ∀ {w x},C w → Calls P F vs.toArray w (Told c S0 x w)) (hN : a0.tmps.size = N:=by assumption) (hd : decide (d < N) = true:=by kernel_rfl) (hF : enters P F = true:=by kernel_rfl) :
   PkStep P C S0 ks a0 i { dst:=some d,op:=.call { callee:=.value (.func F),args:=args,argTypes:=ats },type:=T,pos:=pos,after:=af,guard:=gu } [] :=
 jo (ss:=vs.map Src.val) hN rfl hd hF hs fun w x hC _=>by
   have e : (vs.map Src.val).map (Src.get x a0) = vs:=by
     rw [List.map_map]; exact List.map_id _
   rw [e,hi]; exact @h w x hC
theorem jg {d j t n : Nat} {c cj : PK}    (hj : at_ ks j = cj) (hi : at_ ks i = c)
   (h : ∀ w x v,cj.sem S0 x v w → ∃ vs u,v = .tuple vs ∧ vs[n]? = some u ∧ c.move S0 x u w w ∧ c.sem S0 x u w) (hN : a0.tmps.size = N:=by assumption) (hd : decide (d < N) = true:=by kernel_rfl) (ht : decide (t < N) = true:=by kernel_rfl) :
   PkStep P C S0 ks a0 i { dst:=some d,op:=.extract (.tmp t) n,type:=T,pos:=pos,after:=af,guard:=gu } [(j,some t)]:=by
 intro w x hC
 refine aw _ fun hdeps K hK=>?_
 have g1:=hdeps (j,some t) (by simp)
 rw [hj] at g1
 obtain ⟨vs,u,hx,hu,h2,h3⟩:=h w x _ g1
 have e1 : (putE x a0 [(j,some t)]).eval (.tmp t) = x j:=putE_new _ _ (by rw [hN]; exact of_decide_eq_true ht) (by simp [slotAt])
 refine bj (v:=u) (w':=w) rfl (by rw [ax,hN]) hd ?_ (hK _ _ (by rw [hi]; exact h2) (by rw [hi]; exact h3))
 exact ex_ext (e1.trans hx) hu
theorem bf {ops9 : Array Oper} {es9 : List (List (Nat × Option Tmp))} {sk9 : List Nat} {d j t n : Nat} {c cj : PK} (h : ∀ w x v,cj.sem S0 x v w → ∃ vs u,v = .tuple vs ∧ vs[n]? = some u ∧ c.move S0 x u w w ∧ c.sem S0 x u w) (hh9 : PkFrom P ops9 es9 sk9 C S0 ks a0 (i + 1)) (ho9 : ops9[i]? = some { dst:=some d,op:=.extract (.tmp t) n,type:=T,pos:=pos,after:=af,guard:=gu }:=by exact rfl) (he9 : es9.getD i [] = [(j,some t)]:=by exact rfl) (hj : at_ ks j = cj:=by exact rfl) (hi : at_ ks i = c:=by exact rfl) (hN : a0.tmps.size = N:=by assumption) (hd : decide (d < N) = true:=by kernel_rfl) (ht : decide (t < N) = true:=by kernel_rfl) : PkFrom P ops9 es9 sk9 C S0 ks a0 i :=
 aa ho9 he9 (jg (hj:=hj) (hi:=hi) (h:=h) (hN:=hN) (hd:=hd) (ht:=ht)) hh9
end
theorem ext_q {S0 : Nat} {j k : Nat} {q r e : Int} : ∀ w x v,(kZQ j k q r e).sem S0 x v w → ∃ vs u,v = .tuple vs ∧ vs[0]? = some u ∧ (kZ j q).move S0 x u w w ∧ (kZ j q).sem S0 x u w:=fun _ _ _ ⟨a,_,h1,h2,_⟩=>⟨_,a,h1,rfl,Below.refl _ _,h2⟩
theorem ext_r {S0 : Nat} {j k : Nat} {q r e : Int} : ∀ w x v,(kZQ j k q r e).sem S0 x v w → ∃ vs u,v = .tuple vs ∧ vs[1]? = some u ∧ (kZ k r).move S0 x u w w ∧ (kZ k r).sem S0 x u w:=fun _ _ _ ⟨_,b,h1,_,h3⟩=>⟨_,b,h1,rfl,Below.refl _ _,h3⟩
theorem ext_e {S0 : Nat} {j k : Nat} {q r e : Int} : ∀ w x v,(kZQ j k q r e).sem S0 x v w → ∃ vs u,v = .tuple vs ∧ vs[2]? = some u ∧ (kIs (.int .i64 e)).move S0 x u w w ∧ (kIs (.int .i64 e)).sem S0 x u w:=fun _ _ _ ⟨_,_,h1,_,_⟩=>⟨_,_,h1,rfl,Below.refl _ _,rfl⟩
theorem ext_z {S0 : Nat} {k : Nat} {z : Int} {ok : Bool} : ∀ w x v,(kZB k z ok).sem S0 x v w → ∃ vs u,v = .tuple vs ∧ vs[0]? = some u ∧ (kZ k z).move S0 x u w w ∧ (kZ k z).sem S0 x u w:=fun _ _ _ ⟨a,h1,h2⟩=>⟨_,a,h1,rfl,Below.refl _ _,h2⟩
theorem ext_ok {S0 : Nat} {k : Nat} {z : Int} {ok : Bool} : ∀ w x v,(kZB k z ok).sem S0 x v w → ∃ vs u,v = .tuple vs ∧ vs[1]? = some u ∧ (kIs (.bool ok)).move S0 x u w w ∧ (kIs (.bool ok)).sem S0 x u w:=fun _ _ _ ⟨_,h1,_⟩=>⟨_,_,h1,rfl,Below.refl _ _,rfl⟩
theorem then_n {next : Act → World → Prop} {Q : Exit → Act → World → Prop} {a : Act} {w : World} (h : next a w) : Exit.then next Q .normal a w:=h
theorem bi {P : Program} {fn : Func} {R : Ending → World → Prop} {a : Act} {w : World} {v : Value} {t : Tmp} (hres : fn.results = #[.tmp t]) (hd : a.defers = []) (hv : a.eval (.tmp t) = v) (hR : R (.returned v) w) : bodyPost P fn R .ret a w:=by
 refine bodyPost_ret (v:=v) ?_ hd hR
 have h : a.tmps[t]?.getD undef = v:=by
   rw [← Array.getD_eq_getD_getElem?]; exact hv
 simp [results,hres,go_sem,h]
theorem region_k {P : Program} {Q : Exit → Act → World → Prop} {c : Code} {a : Act} {w : World} (h : ∀ K : Act → World → Prop,(∀ a w,Q .normal a w → K a w) → c.wp P (Exit.then K Q) a w) : c.wp P Q a w :=
 wp_mono (h (Q .normal) fun _ _ h=>h) fun e a w h=>by cases e <;> exact h
theorem then_r {next : Act → World → Prop} {Q : Exit → Act → World → Prop} {a : Act} {w : World} (h : Q .ret a w) : Exit.then next Q .ret a w:=h
end Go.Proofs.YtifgcjpgelbelaaGreatDoor
namespace Go.Proofs.YtifgcjpgelbelaaGreatDoor
open Go.ChangeShapes Go.WideShapes Go.ChangeAt Go.WideMaps Go.WideElems Go.RowKit
def IntData {H : Type} (d : DataW H) (b : Bool) (n : Nat) : Prop:=(d = .agg [.lit (.bool b),.nil] ∧ n = 0) ∨ ∃ els rest,d = .agg [.lit (.bool b),.slice els rest] ∧ els.length = n
def Az9 : Nat → List Nat → List (Nat × Option Tmp)
 | _,[]=>[]
 | i,t :: l=>(i,if t = 999 then none else some t) :: Az9 (i + 1) l
def Ez9 (sl : List Nat) (el : List (List Nat)) : List (List (Nat × Option Tmp)):=el.map fun e=>e.map fun i=>(i,some (sl.getD i 0))
theorem ld {P : Program} {id : Nat} {draw : Bool} {ops : Array Oper} {next : Act → World → Prop} {Q : Exit → Act → World → Prop} {a0 : Act} {w W0 : World} {N : Nat} (bb : Below w.heap.size w W0) (ks : List PK) (el : List (List Nat)) (sl : List Nat) (bs : List (Nat × Bool)) (sk : List Nat) (lr : PkFrom P ops (Ez9 sl el) sk (Reg w.heap.size W0 []) W0.heap.size ks a0 0) (hend : ∀ w' x a1, Reg w.heap.size W0 [] w' → (∀ i, i < ops.size → (at_ ks i).sem W0.heap.size x (x i) w') → a1 = putE x a0 (Az9 0 sl) → a1.tmps.size = N → a1.defers = [] → Below w.heap.size w w' → next a1 w')
   (hN : a0.tmps.size = N:=by assumption) (hD : a0.defers = []:=by assumption) (hm : P.follows .mixedOrders = true:=by kernel_rfl) (hchk : growOK ops (fun i=>!sk.contains i) (Ez9 sl el) (Az9 0 sl) N = true:=by kernel_rfl) (hk : codesOK ks (Ez9 sl el) = true:=by kernel_rfl) (hgu : guardOK ops bs sk = true:=by kernel_rfl) (hbs : bs.map (fun p=>at_ ks p.1) = bs.map fun p=>kIs (.bool p.2):=by kernel_rfl) (hsk : sk.map (at_ ks) = sk.map fun _=>kIs undef:=by kernel_rfl) (hb : blks ks = []:=by kernel_rfl) : (Code.region id ops draw).wp P (Exit.then next Q) a0 W0 :=
 ff hN w.heap.size ks (Ez9 sl el) (Az9 0 sl) bs sk hm hchk hk hgu hbs hsk hb bb.size lr fun w' x h1 h2=>then_n (hend w' x _ h1 h2 rfl (size_behind rfl hN) (defers_behind rfl hD) (bb.trans h1.below))
theorem le {x : Nat → Value} {a b : Act} {es : List (Nat × Option Tmp)} {N n S0 : Nat} {ks : List PK} {w : World} (ha : b = putE x a es) (hall : ∀ i,i < n → (at_ ks i).sem S0 x (x i) w) (t i : Nat) {V : Value} (hN : a.tmps.size = N:=by assumption) (h1 : slotAt es t = some i:=by kernel_rfl) (h2 : decide (t < N) = true:=by kernel_rfl) (h3 : decide (i < n) = true:=by kernel_rfl) (h4 : at_ ks i = kIs V:=by exact rfl) : b.eval (.tmp t) = V:=by
 have h5:=hall i (of_decide_eq_true h3)
 rw [h4] at h5
 exact (an (h:=h1) (ht:=h2) ha).trans h5
theorem p00 {P : Program} {ops : Array Oper} {es : List (List (Nat × Option Tmp))} {sk : List Nat} {C : World → Prop} {S0 : Nat} {ks : List PK} {a0 : Act} {i N d : Nat} {o : Oper} {V : Value} (hh : PkFrom P ops es sk C S0 ks a0 (i + 1)) (ho : ops[i]? = some o:=by exact rfl) (he : es.getD i [] = []:=by exact rfl) (hd : o.dst = some d:=by exact rfl) (hV : at_ ks i = kIs V:=by exact rfl) (hN : a0.tmps.size = N:=by assumption) (h7 : esIn [] N = true:=by kernel_rfl) (hdN : decide (d < N) = true:=by kernel_rfl) (hsel : (match o.op with | .select _ _=>false | _=>true) = true:=by kernel_rfl) (hk : o.op.operands.all (known [] []) = true:=by kernel_rfl) (hr : ∀ w,(execOp (look [] [] []) o).run P w = .ok (.value V) w:=by intro _; kernel_rfl) : PkFrom P ops es sk C S0 ks a0 i :=
 aa ho he (br (he:=h7) (hdN:=hdN) (hc:=rfl) (hsel:=hsel) (hk:=hk) (hV:=hV) (hr:=hr) [] [] V hd old0) hh
theorem p01 {P : Program} {ops : Array Oper} {es : List (List (Nat × Option Tmp))} {sk : List Nat} {C : World → Prop} {S0 : Nat} {ks : List PK} {a0 : Act} {i N d : Nat} {o : Oper} {V : Value} {s0 : Tmp} {u0 : Value} (q0 : a0.eval (.tmp s0) = u0) (hh : PkFrom P ops es sk C S0 ks a0 (i + 1)) (ho : ops[i]? = some o:=by exact rfl) (he : es.getD i [] = []:=by exact rfl) (hd : o.dst = some d:=by exact rfl) (hV : at_ ks i = kIs V:=by exact rfl) (hN : a0.tmps.size = N:=by assumption) (h7 : esIn [] N = true:=by kernel_rfl) (hdN : decide (d < N) = true:=by kernel_rfl) (hsel : (match o.op with | .select _ _=>false | _=>true) = true:=by kernel_rfl) (hk : o.op.operands.all (known [] [(s0,u0)]) = true:=by kernel_rfl) (hr : ∀ w,(execOp (look [] [] [(s0,u0)]) o).run P w = .ok (.value V) w:=by intro _; kernel_rfl) : PkFrom P ops es sk C S0 ks a0 i :=
 aa ho he (br (he:=h7) (hdN:=hdN) (hc:=rfl) (hsel:=hsel) (hk:=hk) (hV:=hV) (hr:=hr) [] [(s0,u0)] V hd (old1 q0)) hh
theorem p02 {P : Program} {ops : Array Oper} {es : List (List (Nat × Option Tmp))} {sk : List Nat} {C : World → Prop} {S0 : Nat} {ks : List PK} {a0 : Act} {i N d : Nat} {o : Oper} {V : Value} {s0 : Tmp} {u0 : Value} {s1 : Tmp} {u1 : Value} (q0 : a0.eval (.tmp s0) = u0) (q1 : a0.eval (.tmp s1) = u1) (hh : PkFrom P ops es sk C S0 ks a0 (i + 1)) (ho : ops[i]? = some o:=by exact rfl) (he : es.getD i [] = []:=by exact rfl) (hd : o.dst = some d:=by exact rfl) (hV : at_ ks i = kIs V:=by exact rfl) (hN : a0.tmps.size = N:=by assumption) (h7 : esIn [] N = true:=by kernel_rfl) (hdN : decide (d < N) = true:=by kernel_rfl) (hsel : (match o.op with | .select _ _=>false | _=>true) = true:=by kernel_rfl) (hk : o.op.operands.all (known [] [(s0,u0),(s1,u1)]) = true:=by kernel_rfl) (hr : ∀ w,(execOp (look [] [] [(s0,u0),(s1,u1)]) o).run P w = .ok (.value V) w:=by intro _; kernel_rfl) : PkFrom P ops es sk C S0 ks a0 i :=
 aa ho he (br (he:=h7) (hdN:=hdN) (hc:=rfl) (hsel:=hsel) (hk:=hk) (hV:=hV) (hr:=hr) [] [(s0,u0),(s1,u1)] V hd (old2 q0 q1)) hh
theorem p10 {P : Program} {ops : Array Oper} {es : List (List (Nat × Option Tmp))} {sk : List Nat} {C : World → Prop} {S0 : Nat} {ks : List PK} {a0 : Act} {i N d : Nat} {o : Oper} {V : Value} {j0 t0 : Nat} {v0 : Value} (hh : PkFrom P ops es sk C S0 ks a0 (i + 1)) (ho : ops[i]? = some o:=by exact rfl) (he : es.getD i [] = [(j0,some t0)]:=by exact rfl) (hd : o.dst = some d:=by exact rfl) (h0 : at_ ks j0 = kIs v0:=by exact rfl) (hV : at_ ks i = kIs V:=by exact rfl) (hN : a0.tmps.size = N:=by assumption) (h7 : esIn [(j0,some t0)] N = true:=by kernel_rfl) (hdN : decide (d < N) = true:=by kernel_rfl) (hsel : (match o.op with | .select _ _=>false | _=>true) = true:=by kernel_rfl) (hk : o.op.operands.all (known [(j0,some t0)] []) = true:=by kernel_rfl) (hr : ∀ w,(execOp (look [(j0,some t0)] [v0] []) o).run P w = .ok (.value V) w:=by intro _; kernel_rfl) : PkFrom P ops es sk C S0 ks a0 i :=
 aa ho he (br (he:=h7) (hdN:=hdN) (hc:=(by simp only [List.map_cons,List.map_nil,h0])) (hsel:=hsel) (hk:=hk) (hV:=hV) (hr:=hr) [v0] [] V hd old0) hh
theorem p20 {P : Program} {ops : Array Oper} {es : List (List (Nat × Option Tmp))} {sk : List Nat} {C : World → Prop} {S0 : Nat} {ks : List PK} {a0 : Act} {i N d : Nat} {o : Oper} {V : Value} {j0 t0 : Nat} {v0 : Value} {j1 t1 : Nat} {v1 : Value} (hh : PkFrom P ops es sk C S0 ks a0 (i + 1)) (ho : ops[i]? = some o:=by exact rfl) (he : es.getD i [] = [(j0,some t0),(j1,some t1)]:=by exact rfl) (hd : o.dst = some d:=by exact rfl) (h0 : at_ ks j0 = kIs v0:=by exact rfl) (h1 : at_ ks j1 = kIs v1:=by exact rfl) (hV : at_ ks i = kIs V:=by exact rfl) (hN : a0.tmps.size = N:=by assumption) (h7 : esIn [(j0,some t0),(j1,some t1)] N = true:=by kernel_rfl) (hdN : decide (d < N) = true:=by kernel_rfl) (hsel : (match o.op with | .select _ _=>false | _=>true) = true:=by kernel_rfl) (hk : o.op.operands.all (known [(j0,some t0),(j1,some t1)] []) = true:=by kernel_rfl) (hr : ∀ w,(execOp (look [(j0,some t0),(j1,some t1)] [v0,v1] []) o).run P w = .ok (.value V) w:=by intro _; kernel_rfl) : PkFrom P ops es sk C S0 ks a0 i :=
 aa ho he (br (he:=h7) (hdN:=hdN) (hc:=(by simp only [List.map_cons,List.map_nil,h0,h1])) (hsel:=hsel) (hk:=hk) (hV:=hV) (hr:=hr) [v0,v1] [] V hd old0) hh
def lf (g n : Nat) : PK:=kIs (.pointer (some ⟨g,n,none⟩))
def lg : PK:=kIs (.bool true)
def lh : PK:=kIs (.bool false)
def li : PK:=kIs undef
theorem lj {a b : Act} (ha : b = a) (t g : Nat) (h : a.eval (.tmp t) = .pointer (some ⟨g,0,none⟩):=by kernel_rfl) : b.eval (.tmp t) = .pointer (some ⟨g,0,none⟩):=by subst ha; exact h
theorem lk {P : Program} {c d : Code} {Q : Exit → Act → World → Prop} {a : Act} {w : World} (h : c.wp P (Exit.then (fun a' w'=>d.wp P Q a' w') Q) a w) : (c.seq d).wp P Q a w:=wp_seq h
theorem ll {P : Program} {next : Act → World → Prop} {Q : Exit → Act → World → Prop} {a : Act} {w : World} (h : next a w) : Code.skip.wp P (Exit.then next Q) a w:=wp_skip (then_n h)
theorem lm {G : Act → Prop} {a : Act} (N : Nat) (h : ∀ a0,a0 = a → a0.tmps.size = N → a0.defers = [] → G a0) (lr : a.tmps.size = N:=by kernel_rfl) (hd : a.defers = []:=by exact rfl) : G a:=h a rfl lr hd
theorem ln {a b : Act} {t : Tmp} {V : Value} (ha : b = a) (h : a.eval (.tmp t) = V:=by kernel_rfl) : b.eval (.tmp t) = V:=by subst ha; exact h
theorem lp {w : World} {p1 : Obj} {G : World → Prop} (h : ∀ W,Below w.heap.size w W → W.heap[w.heap.size]? = some p1 → G W) : G (w.alloc p1):=h _ (bal (Below.refl _ _) _) (new_at (by simp))
theorem lq {w : World} {p1 p2 : Obj} {G : World → Prop} (h : ∀ W,Below w.heap.size w W → W.heap[w.heap.size]? = some p1 → W.heap[w.heap.size + 1]? = some p2 → G W) : G ((w.alloc p1).alloc p2) :=
 h _ (bal (bal (Below.refl _ _) _) _) (by rw [Below.heap_alloc _ _ _ (by simp <;> omega)]; exact new_at (by simp)) (new_at (by simp))
theorem O39 {w : World} {p1 p2 p3 : Obj} {G : World → Prop} (h : ∀ W,Below w.heap.size w W → W.heap[w.heap.size]? = some p1 → W.heap[w.heap.size + 1]? = some p2 → W.heap[w.heap.size + 1 + 1]? = some p3 → G W) : G (((w.alloc p1).alloc p2).alloc p3) :=
 h _ (bal (bal (bal (Below.refl _ _) _) _) _) (by rw [Below.heap_alloc _ _ _ (by simp <;> omega)]; rw [Below.heap_alloc _ _ _ (by simp <;> omega)]; exact new_at (by simp)) (by rw [Below.heap_alloc _ _ _ (by simp <;> omega)]; exact new_at (by simp)) (new_at (by simp))
theorem lr {n S0 : Nat} {ks : List PK} {x : Nat → Value} {w : World} (hall : ∀ i,i < n → (at_ ks i).sem S0 x (x i) w) (i : Nat) (h3 : decide (i < n) = true:=by kernel_rfl) : (at_ ks i).sem S0 x (x i) w:=hall i (of_decide_eq_true h3)
theorem ls {P : Program} {Q : Exit → Act → World → Prop} {c : Code} {a : Act} {w : World} (h : ∀ K : Act → World → Prop,Hid (∀ a w,Q .normal a w → K a w) → c.wp P (Exit.then K Q) a w) : c.wp P Q a w:=region_k fun K hK=>h K (Lib.hid hK)
end Go.Proofs.YtifgcjpgelbelaaGreatDoor
namespace Go.Proofs.YtifgcjpgelbelaaGreatDoor
open Go.RowKit
def ZRs (W : World) (g : Nat) (l : List (Nat × Int)) : Prop:=∀ j q,l[j]? = some q → ∃ A n c,W.cell? ⟨g,j * 2,none⟩ = some (.bool (decide (q.2 < 0))) ∧ W.cell? ⟨g,j * 2 + 1,none⟩ = some (.slice A n c) ∧ Zr W (.agg #[.bool (decide (q.2 < 0)),.slice A n c]) q.1 q.2
theorem ZRs.below {W w' : World} {g : Nat} {l : List (Nat × Int)} (h : ZRs W g l) (hb : Below W.heap.size W w') : ZRs w' g l:=fun j q hj=>by
 obtain ⟨A,n,c,h1,h2,h3⟩:=h j q hj
 exact ⟨A,n,c,(hb.cell (cell_lt h1)).trans h1,(hb.cell (cell_lt h2)).trans h2,h3.below hb⟩
def kZRs (l : List (Nat × Int)) : PK:=.list l.length (fun g w=>ZRs w g l) (fun _ _ _ h hb=>h.below hb) (fun _ _ _ _ h hs hne j q hj=>by
 obtain ⟨A,n,c,h1,h2,h3⟩:=h j q hj
 exact ⟨A,n,c,(World.cell?_of_block (hs.other _ hne)).trans h1,(World.cell?_of_block (hs.other _ hne)).trans h2,h3.stored hs⟩)
theorem Reg.zr {B : Nat} {W0 w : World} {G : List Nat} (h : Reg B W0 G w) {v : Value} {k : Nat} {z : Int} (hr : Zr W0 v k z) : Zr w v k z:=by
 obtain ⟨A,l,c,e,h2,h3⟩:=hr
 exact ⟨A,l,c,e,h.rr h2,h3⟩
theorem run_loadAt {w : World} {g o : Nat} {u v : Value} (h0 : w.cell? ⟨g,o,none⟩ = some u) (h1 : w.cell? ⟨g,o + 1,none⟩ = some v) : (Instr.loadAt 24 (.pointer (some ⟨g,o,none⟩))).run Tryz.prog w = .ok (.agg #[u,v]) w:=by go_simp
section
variable {C : World → Prop} {S0 B : Nat} {ks : List PK} {a0 : Act} {i : Nat} {N : Nat} {W0 : World} {P : Program} {T : TypeId} {pos : String} {af : Array Edge} {gu : Option (Nat × Bool)}
end
def ztext (z : Int) : ByteArray:=ntext z.natAbs (decide (z < 0))
theorem z_text {w : World} {v : Value} {k : Nat} {z : Int} (h : Zd w v k z) (hk : k ≤ 4000) (htab : Tab w) (hw : 2 ≤ w.heap.size) : Calls Tryz.prog 42 #[v] w fun e w'=>e = .returned (.string (ztext z)) ∧ Below w.heap.size w w':=by
 obtain ⟨b,A,l,c,n,rfl,h1,h2,rfl⟩:=h
 have:=numText_any b h1 h2 hk htab hw
 unfold ztext
 rw [bg,dj]
 exact this
theorem dec_head {n : Nat} : ∃ x r,Lib.decDigits n = x :: r ∧ x ≠ 45:=by
 have h:=dtext_isDec n
 rw [kc] at h
 cases hd : Lib.decDigits n with
 | nil =>
   exfalso
   by_cases h10 : n < 10
   · rw [bn h10] at hd; cases hd
   · rw [da (by omega)] at hd; simp at hd
 | cons x r =>
   refine ⟨x,r,rfl,fun e=>?_⟩; have:=(h.1 0 (by rw [hd]; simp)).1; rw [hd,e] at this; simp at this
theorem cut_text (z : Int) : (⟨(Lib.trimPrefix (ztext z).data.toList [45]).toArray⟩ : ByteArray) = dtext z.natAbs ∧ Lib.hasPrefix (ztext z).data.toList [45] = decide (z < 0):=by
 have tl : ∀ n,(dtext n).data.toList = Lib.decDigits n:=fun n=>by unfold dtext; simp
 have ev : ∀ (x : UInt8) (r : List UInt8),Lib.hasPrefix (x :: r) [45] = (45 == x):=fun x r=>by
   show ((45 == x) && List.isPrefixOf [] r) = _
   rw [List.isPrefixOf_nil_left,Bool.and_true]
 have et : ∀ (x : UInt8) (r : List UInt8),Lib.trimPrefix (x :: r) [45] = if Lib.hasPrefix (x :: r) [45] then r else x :: r:=fun _ _=>rfl
 unfold ztext ntext
 by_cases h : z < 0
 · rw [decide_eq_true h,if_pos rfl]; have e : (⟨#[45]⟩ ++ dtext z.natAbs : ByteArray).data.toList = 45 :: Lib.decDigits z.natAbs:=by rw [← tl]; simp
   rw [e,et,ev]; exact ⟨by simp [dtext],rfl⟩
 · rw [decide_eq_false h,if_neg (by decide),tl]; obtain ⟨x,r,e,hx⟩:=dec_head (n:=z.natAbs); have hb : (45 == x) = false:=beq_eq_false_iff_ne.2 fun h=>hx h.symm; rw [e,et,ev,hb]; exact ⟨by simp [dtext,e],rfl⟩
theorem z_parse {w : World} (z : Int) (k : Nat) (hz : z.natAbs < 1000000000 ^ k) (hk : k ≤ 4000) : Calls Tryz.prog 56 #[.string (ztext z)] w (RetIntB w z.natAbs (decide (z < 0)) true):=by
 obtain ⟨e1,e2⟩:=cut_text z
 have hs : sgn z.natAbs (decide (z < 0)) = decide (z < 0):=by
   unfold sgn
   by_cases h : z < 0
   · rw [decide_eq_true h,decide_eq_true (by omega)]; rfl
   · rw [decide_eq_false h]; rfl
 have h:=numParse_core (s:=ztext z) (t:=dtext z.natAbs) (neg:=decide (z < 0)) (ok:=true) (sb:=decide (z < 0)) (v:=z.natAbs) (fun W'=>?_) (fun W'=>?_) (fun W' A k c h=>by have:=signed_s (decide (z < 0)) h; rw [hs] at this; exact this) w
 · rw [Bool.true_and,beq_self_eq_true,if_pos rfl,Bool.true_and] at h; exact h
 · have:=Tryz.strings_CutPrefix (ztext z) ⟨#[45]⟩ W'; rw [← e1,← e2]; exact this
 · refine (of_yes (s:=dtext z.natAbs) W' (Nat.le_trans (dtext_short hz hk) (by decide)) (dtext_isDec _)).mono fun e w' h=>?_; obtain ⟨v,rfl,hv,hb⟩:=h; rw [dtext_val] at hv; have hr:=fe hv hz hk; obtain ⟨A,k,c,rfl⟩:=hr.shape; exact ⟨A,k,c,rfl,hr,hb⟩
theorem parse_told {S0 : Nat} {x : Nat → Value} {w : World} {v : Value} {z : Int} (k : Nat) (h : (kIs (.string (ztext z))).sem S0 x v w) (hz : z.natAbs < 1000000000 ^ k) (hk : k ≤ 4000) : Calls Tryz.prog 56 #[v] w (Told (kZB k z true) S0 x w):=by
 have e : v = .string (ztext z):=h
 subst e
 exact (z_parse z k hz hk).mono fun e w' ⟨A,l,c,e1,h1,_,h2⟩=>⟨_,e1,h2,_,rfl,A,l,c,rfl,h1,hz⟩
theorem zq_of {x y c : Int} (hy : y ≠ 0) (h : x = c * y) : zq x y = c:=by
 have h1:=zq_zm (x:=x) hy
 have h2 : zm x y = 0:=zm_dvd hy ⟨c,by rw [h,Int.mul_comm]⟩
 rw [h2,h,Int.add_zero] at h1
 rw [h]
 exact Int.eq_of_mul_eq_mul_right hy h1
def sdiv (n d : Int) : Int:=if d < 0 then -((zgcd [(n),(d)] : Nat) : Int) else ((zgcd [(n),(d)] : Nat) : Int)
theorem kp (n d : Int) : zgcd [(n),(d)] = Int.gcd d n:=by simp [zgcd,Int.gcd]
theorem sdiv_ne {n d : Int} (hd : d ≠ 0) : sdiv n d ≠ 0:=by
 have : 0 < Int.gcd d n:=Nat.gcd_pos_of_pos_left _ (by omega)
 unfold sdiv
 rw [kp]
 split <;> omega
theorem sdiv_sign {n d : Int} (hd : d ≠ 0) : sdiv n d = d.sign * (Int.gcd d n : Int):=by
 unfold sdiv
 rw [kp]
 rcases Int.lt_trichotomy d 0 with h | h | h
 · rw [if_pos h,Int.sign_eq_neg_one_of_neg h]; omega
 · exact absurd h hd
 · rw [if_neg (by omega),Int.sign_eq_one_of_pos h]; omega
theorem jq {n d : Int} (hd : d ≠ 0) : zq n (sdiv n d) = (Rat.divInt n d).num:=by
 have hg : (0 : Int) < (Int.gcd d n : Int):=by
   have : 0 < Int.gcd d n:=Nat.gcd_pos_of_pos_left _ (by omega); omega
 obtain ⟨c,hc⟩ : (Int.gcd d n : Int) ∣ n:=Int.gcd_dvd_right _ _
 refine zq_of (sdiv_ne hd) ?_
 rw [Rat.num_divInt,sdiv_sign hd]
 generalize (Int.gcd d n : Int) = g at *
 rcases Int.lt_trichotomy d 0 with h | h | h
 · rw [Int.sign_eq_neg_one_of_neg h,hc]
   have : -1 * (g * c) / g = -c:=by
     rw [show -1 * (g * c) = (-c) * g by rw [Int.neg_one_mul,Int.neg_mul,Int.mul_comm g c]]; exact Int.mul_ediv_cancel _ (by omega)
   rw [this,Int.neg_one_mul,Int.neg_mul_neg,Int.mul_comm]
 · exact absurd h hd
 · rw [Int.sign_eq_one_of_pos h,hc,Int.one_mul,Int.one_mul,Int.mul_ediv_cancel_left _ (by omega),Int.mul_comm]
theorem jr {n d : Int} (hd : d ≠ 0) : zq d (sdiv n d) = ((Rat.divInt n d).den : Int):=by
 have hg0 : 0 < Int.gcd d n:=Nat.gcd_pos_of_pos_left _ (by omega)
 obtain ⟨c,hc⟩ : Int.gcd d n ∣ d.natAbs:=Nat.gcd_dvd_left _ _
 refine zq_of (sdiv_ne hd) ?_
 rw [Rat.den_divInt,if_neg hd,sdiv_sign hd]
 generalize Int.gcd d n = g at *
 rw [hc,Nat.mul_div_cancel_left _ hg0]
 have hn : (d.natAbs : Int) = (g : Int) * (c : Int):=by rw [hc]; exact Int.natCast_mul _ _
 rcases Int.lt_trichotomy d 0 with h | h | h
 · rw [Int.sign_eq_neg_one_of_neg h,Int.neg_one_mul,Int.mul_neg,Int.mul_comm (c : Int)]; omega
 · exact absurd h hd
 · rw [Int.sign_eq_one_of_pos h,Int.one_mul,Int.mul_comm (c : Int)]; omega
theorem fj (n d : Int) : (Rat.divInt n d).num.natAbs ≤ n.natAbs:=by
 rw [Rat.num_divInt]
 have h1 : (d.sign * n / (Int.gcd d n : Int)).natAbs ≤ (d.sign * n).natAbs:=by
   rw [Int.natAbs_ediv_of_dvd (Int.dvd_mul_of_dvd_right (Int.gcd_dvd_right _ _))]; exact Nat.div_le_self _ _
 refine Nat.le_trans h1 ?_
 rw [Int.natAbs_mul]
 have : d.sign.natAbs ≤ 1:=by
   rcases Int.lt_trichotomy d 0 with h | h | h
   · rw [Int.sign_eq_neg_one_of_neg h]; decide
   · rw [h]; decide
   · rw [Int.sign_eq_one_of_pos h]; decide
 calc d.sign.natAbs * n.natAbs ≤ 1 * n.natAbs := Nat.mul_le_mul_right _ this
   _ = n.natAbs:=Nat.one_mul _
theorem fk {n d : Int} (hd : d ≠ 0) : (Rat.divInt n d).den ≤ d.natAbs:=by
 rw [Rat.den_divInt,if_neg hd]
 exact Nat.div_le_self _ _
theorem q_add (a b : Rat) : Rat.divInt (a.num * (b.den : Int) + b.num * (a.den : Int)) ((a.den : Int) * (b.den : Int)) = a + b:=by
 rw [Rat.add_def',← Int.natCast_mul,Rat.divInt_ofNat]
theorem q_mul (a b : Rat) : Rat.divInt (a.num * b.num) ((a.den : Int) * (b.den : Int)) = a * b:=by
 rw [Rat.mul_def',← Int.natCast_mul,Rat.divInt_ofNat]
theorem den_pos (a : Rat) : (0 : Int) < (a.den : Int):=by have:=a.den_pos; omega
def AtR (W : World) (g o k : Nat) (z : Int) : Prop:=∃ A l c,W.cell? ⟨g,o,none⟩ = some (.bool (decide (z < 0))) ∧ W.cell? ⟨g,o + 1,none⟩ = some (.slice A l c) ∧ Zr W (.agg #[.bool (decide (z < 0)),.slice A l c]) k z
theorem AtR.below {W w' : World} {g o k : Nat} {z : Int} (h : AtR W g o k z) (hb : Below W.heap.size W w') : AtR w' g o k z:=by
 obtain ⟨A,l,c,h1,h2,h3⟩:=h
 exact ⟨A,l,c,(hb.cell (cell_lt h1)).trans h1,(hb.cell (cell_lt h2)).trans h2,h3.below hb⟩
theorem Reg.atR {B : Nat} {W0 w : World} {G : List Nat} (h : Reg B W0 G w) {g o k : Nat} {z : Int} (hg : g ∉ G) (hl : AtR W0 g o k z) : AtR w g o k z:=by
 obtain ⟨A,l,c,h1,h2,h3⟩:=hl
 exact ⟨A,l,c,((h.cell (cell_lt h1) hg _).1).trans h1,((h.cell (cell_lt h2) hg _).1).trans h2,h.zr h3⟩
def Pr (W : World) (v : Value) (k : Nat) (x y : Int) : Prop:=∃ A l c A' l' c',v = .agg #[.bool (decide (x < 0)),.slice A l c,.bool (decide (y < 0)),.slice A' l' c'] ∧ (Rr W (.slice A l c) x.natAbs ∧ x.natAbs < 1000000000 ^ k) ∧ Rr W (.slice A' l' c') y.natAbs ∧ y.natAbs < 1000000000 ^ k
theorem Pr.below {W W' : World} {v : Value} {k : Nat} {x y : Int} (h : Pr W v k x y) (hb : Below W.heap.size W W') : Pr W' v k x y:=by
 obtain ⟨A,l,c,A',l',c',e,h1,h2,h3⟩:=h
 exact ⟨A,l,c,A',l',c',e,⟨h1.1.below hb,h1.2⟩,h2.below hb,h3⟩
theorem Pr.stored {W w' : World} {g : Nat} {v : Value} {k : Nat} {x y : Int} (h : Pr W v k x y) (hs : Stored g W w') : Pr w' v k x y:=by
 obtain ⟨A,l,c,A',l',c',e,h1,h2,h3⟩:=h
 exact ⟨A,l,c,A',l',c',e,⟨hs.rr h1.1,h1.2⟩,hs.rr h2,h3⟩
theorem Pr.mono {W : World} {v : Value} {j k : Nat} {x y : Int} (h : Pr W v j x y) (hk : j ≤ k) : Pr W v k x y:=by
 obtain ⟨A,l,c,A',l',c',e,h1,h2,h3⟩:=h
 exact ⟨A,l,c,A',l',c',e,⟨h1.1,Nat.lt_of_lt_of_le h1.2 (pow_le hk)⟩,h2,Nat.lt_of_lt_of_le h3 (pow_le hk)⟩
def kP (k : Nat) (x y : Int) : PK:=.p (fun v w=>Pr w v k x y) (fun _ _ _ h hb=>h.below hb) (fun _ _ _ _ h hs=>h.stored hs)
def put4 (w : World) (g : Nat) (u v u' v' : Value) : World:=(((w.setCell ⟨g,0,none⟩ u).setCell ⟨g,1,none⟩ v).setCell ⟨g,2,none⟩ u').setCell ⟨g,3,none⟩ v'
theorem set_cell4 {w : World} {g k : Nat} {cs : Array Value} {T : TypeId} {u : Value} (h : w.heap[g]? = some (.cells cs T (0,0))) : (w.setCell ⟨g,k,none⟩ u).heap[g]? = some (.cells (cs.setIfInBounds k u) T (0,0)):=by
 have hlt:=lt_block h
 have h' : w.heap[g] = .cells cs T (0,0):=by simpa [Array.getElem?_eq_getElem hlt] using h
 show (w.heap.modify g _)[g]? = _
 rw [Array.getElem?_eq_getElem (by simpa using hlt),Array.getElem_modify_self,h']
 rfl
theorem put4_at {w : World} {g : Nat} {a b c d u v u' v' : Value} {T : TypeId} (h : w.heap[g]? = some (.cells #[a,b,c,d] T (0,0))) : (put4 w g u v u' v').heap[g]? = some (.cells #[u,v,u',v'] T (0,0)):=by
 unfold put4
 rw [set_cell4 (set_cell4 (set_cell4 (set_cell4 h)))]
 rfl
theorem put4_other {w : World} {g i : Nat} {u v u' v' : Value} (h : i ≠ g) : (put4 w g u v u' v').heap[i]? = w.heap[i]? :=
 (Below.heap_setCell _ _ _ _ h).trans ((Below.heap_setCell _ _ _ _ h).trans ((Below.heap_setCell _ _ _ _ h).trans (Below.heap_setCell _ _ _ _ h)))
theorem cd {w : World} {g : Nat} {a b c d : Value} (h : Holds_ w g #[a,b,c,d]) {u v u' v' : Value} (h1 : noDig u) (h2 : noDig v) (h3 : noDig u') (h4 : noDig v') : Holds_ (put4 w g u v u' v') g #[u,v,u',v']:=by
 obtain ⟨⟨T,e⟩,_⟩:=h
 refine ⟨⟨T,put4_at e⟩,fun y hy=>?_⟩
 have hy' : y ∈ [u,v,u',v']:=by simpa using hy
 rcases List.mem_cons.1 hy' with rfl | hy'
 · exact h1
 rcases List.mem_cons.1 hy' with rfl | hy'
 · exact h2
 rcases List.mem_cons.1 hy' with rfl | hy'
 · exact h3
 · rw [List.mem_singleton.1 hy']; exact h4
theorem bu {w : World} {g : Nat} {a b c d : Value} (h : Holds_ w g #[a,b,c,d]) {u v u' v' : Value} (h1 : noDig u) (h2 : noDig v) (h3 : noDig u') (h4 : noDig v') : Stored g w (put4 w g u v u' v') :=
 ⟨rfl,rfl,rfl,by simp [put4],fun _ hk=>put4_other hk,⟨_,_,h,cd h h1 h2 h3 h4,rfl⟩,fun cs T hT=>by
   obtain ⟨⟨T',e⟩,_⟩:=h; rw [e] at hT; injection hT with hT; injection hT with e1 e2; subst e1; subst e2
   exact ⟨_,put4_at e,rfl⟩⟩
theorem jh {cs : Array Value} (h : cs.size = 4) : ∃ a b c d,cs = #[a,b,c,d]:=by
 obtain ⟨l⟩:=cs
 match l,h with
 | [a,b,c,d],_=>exact ⟨a,b,c,d,rfl⟩
 | [],h=>simp at h
 | [_],h=>simp at h
 | [_,_],h=>simp at h
 | [_,_,_],h=>simp at h
 | _ :: _ :: _ :: _ :: _ :: _,h=>simp at h
theorem Reg.four {B : Nat} {W0 w : World} {G : List Nat} (h : Reg B W0 G w) {g : Nat} (hg : g ∈ G) {cs0 : Array Value} (h0 : Holds_ W0 g cs0) (hs : cs0.size = 4) : ∃ a b c d,Holds_ w g #[a,b,c,d]:=by
 obtain ⟨cs1,cs,h1,h2,h3⟩:=h.held g hg
 have e:=h0.size_eq h1
 obtain ⟨a,b,c,d,rfl⟩:=jh (cs:=cs) (by rw [h3,← e,hs])
 exact ⟨a,b,c,d,h2⟩
theorem Holds_.four {w : World} {g : Nat} {a b c d : Value} (h : Holds_ w g #[a,b,c,d]) : w.cell? ⟨g,0,none⟩ = some a ∧ w.cell? ⟨g,1,none⟩ = some b ∧ w.cell? ⟨g,2,none⟩ = some c ∧ w.cell? ⟨g,3,none⟩ = some d ∧ w.frozen? ⟨g,0,none⟩ = false ∧ w.frozen? ⟨g,1,none⟩ = false ∧ w.frozen? ⟨g,2,none⟩ = false ∧ w.frozen? ⟨g,3,none⟩ = false:=by
 obtain ⟨⟨T,h1⟩,_⟩:=h
 refine ⟨?_,?_,?_,?_,?_,?_,?_,?_⟩ <;> simp [World.cell?,World.frozen?,h1]
def isP (k : Nat) (x y : Int) (cs : Array Value) (w : World) : Prop:=∃ A l c A' l' c',cs = #[.bool (decide (x < 0)),.slice A l c,.bool (decide (y < 0)),.slice A' l' c'] ∧ Pr w (.agg #[.bool (decide (x < 0)),.slice A l c,.bool (decide (y < 0)),.slice A' l' c']) k x y
def kRes (g k : Nat) (x y : Int) : PK:=.cell g (isP k x y) (fun _ _ _ ⟨A,l,c,A',l',c',e,h⟩ hb=>⟨A,l,c,A',l',c',e,h.below hb⟩) (fun _ _ _ _ ⟨A,l,c,A',l',c',e,h⟩ hs=>⟨A,l,c,A',l',c',e,h.stored hs⟩)
theorem run_storeF {w : World} {g : Nat} {b b' : Bool} {A A' : Option Addr} {l c l' c' : Nat} {u0 v0 u1 v1 : Value} (h0 : w.cell? ⟨g,0,none⟩ = some u0) (h1 : w.cell? ⟨g,1,none⟩ = some v0) (h2 : w.cell? ⟨g,2,none⟩ = some u1) (h3 : w.cell? ⟨g,3,none⟩ = some v1) (f0 : w.frozen? ⟨g,0,none⟩ = false) (f1 : w.frozen? ⟨g,1,none⟩ = false) (f2 : w.frozen? ⟨g,2,none⟩ = false) (f3 : w.frozen? ⟨g,3,none⟩ = false) :
   (Instr.storeAt 72 (.pointer (some ⟨g,0,none⟩)) (.agg #[.bool b,.slice A l c,.bool b',.slice A' l' c'])).run Tryz.prog w = .ok () (put4 w g (.bool b) (.slice A l c) (.bool b') (.slice A' l' c')):=by go_simp; rfl
theorem run_storeP {w : World} {g : Nat} {b b' : Bool} {A A' : Option Addr} {l c l' c' : Nat} {u0 v0 u1 v1 : Value} (h0 : w.cell? ⟨g,0,none⟩ = some u0) (h1 : w.cell? ⟨g,1,none⟩ = some v0) (h2 : w.cell? ⟨g,2,none⟩ = some u1) (h3 : w.cell? ⟨g,3,none⟩ = some v1) (f0 : w.frozen? ⟨g,0,none⟩ = false) (f1 : w.frozen? ⟨g,1,none⟩ = false) (f2 : w.frozen? ⟨g,2,none⟩ = false) (f3 : w.frozen? ⟨g,3,none⟩ = false) :
   (Instr.storeAt 26 (.pointer (some ⟨g,0,none⟩)) (.agg #[.bool b,.slice A l c,.bool b',.slice A' l' c'])).run Tryz.prog w = .ok () (put4 w g (.bool b) (.slice A l c) (.bool b') (.slice A' l' c')):=by go_simp; rfl
section
variable {P : Program} {w w' : World} {ρ : Operand → Value} {d : Option Tmp} {T : TypeId} {pos : String} {af : Array Edge} {gu : Option (Nat × Bool)}
theorem ex_build1 {E : TypeId} {t1 : Tmp} {v1 v : Value} (h1 : ρ (.tmp t1) = v1) (hr : (Instr.build E #[(0,v1)]).run P w = .ok v w') : (execOp ρ { dst:=d,op:=.build E #[(0,.tmp t1)],type:=T,pos:=pos,after:=af,guard:=gu }).run P w = .ok (.value v) w':=by
 have e : (#[(0,.tmp t1)] : Array (Nat × Operand)).map (fun p=>(p.1,ρ p.2)) = #[(0,v1)]:=by simp [h1]
 show Sem.run P ((Instr.build E ((#[(0,.tmp t1)] : Array (Nat × Operand)).map (fun p=>(p.1,ρ p.2)))) >>= fun v=>pure (Next.value v)) w = _
 rw [e]
 rw [bm hr]; rfl
theorem ex_build2 {E : TypeId} {t1 t2 : Tmp} {v1 v2 v : Value} (h1 : ρ (.tmp t1) = v1) (h2 : ρ (.tmp t2) = v2) (hr : (Instr.build E #[(0,v1),(1,v2)]).run P w = .ok v w') : (execOp ρ { dst:=d,op:=.build E #[(0,.tmp t1),(1,.tmp t2)],type:=T,pos:=pos,after:=af,guard:=gu }).run P w = .ok (.value v) w':=by
 have e : (#[(0,.tmp t1),(1,.tmp t2)] : Array (Nat × Operand)).map (fun p=>(p.1,ρ p.2)) = #[(0,v1),(1,v2)]:=by simp [h1,h2]
 show Sem.run P ((Instr.build E ((#[(0,.tmp t1),(1,.tmp t2)] : Array (Nat × Operand)).map (fun p=>(p.1,ρ p.2)))) >>= fun v=>pure (Next.value v)) w = _
 rw [e]
 rw [bm hr]; rfl
theorem ex_field {E : TypeId} {t : Tmp} {n : Nat} {p v : Value} (h : ρ (.tmp t) = p) (hr : (Instr.field E p n).run P w = .ok v w) : (execOp ρ { dst:=d,op:=.field E (.tmp t) n,type:=T,pos:=pos,after:=af,guard:=gu }).run P w = .ok (.value v) w:=by
 show Sem.run P ((Instr.field E (ρ (.tmp t)) n) >>= fun v=>pure (Next.value v)) w = _
 rw [h]
 rw [bm hr]; rfl
end
theorem run_buildP {w : World} {b b' : Bool} {A A' : Option Addr} {l c l' c' : Nat} : (Instr.build 26 #[(0,.agg #[.bool b,.slice A l c]),(1,.agg #[.bool b',.slice A' l' c'])]).run Tryz.prog w = .ok (.agg #[.bool b,.slice A l c,.bool b',.slice A' l' c']) w:=by go_simp
theorem run_buildF {w : World} {b b' : Bool} {A A' : Option Addr} {l c l' c' : Nat} : (Instr.build 72 #[(0,.agg #[.bool b,.slice A l c,.bool b',.slice A' l' c'])]).run Tryz.prog w = .ok (.agg #[.bool b,.slice A l c,.bool b',.slice A' l' c']) w:=by go_simp
theorem run_fieldF {w : World} {b b' : Bool} {A A' : Option Addr} {l c l' c' : Nat} : (Instr.field 72 (.agg #[.bool b,.slice A l c,.bool b',.slice A' l' c']) 0).run Tryz.prog w = .ok (.agg #[.bool b,.slice A l c,.bool b',.slice A' l' c']) w:=by kernel_rfl
section
variable {G : List Nat} {C : World → Prop} {S0 B : Nat} {ks : List PK} {a0 : Act} {i : Nat} {N : Nat} {W0 : World} {P : Program} {T : TypeId} {pos : String} {af : Array Edge} {gu : Option (Nat × Bool)}
theorem ik {d t j g o k : Nat} {z : Int} (hl : AtR W0 g o k z)     (hj : at_ ks j = kIs (.pointer (some ⟨g,o,none⟩))) (hi : at_ ks i = kZ k z) (hG : g ∉ G:=by simp) (hN : a0.tmps.size = N:=by assumption) (hd : decide (d < N) = true:=by kernel_rfl) (ht : decide (t < N) = true:=by kernel_rfl) :
   PkStep Tryz.prog (Reg B W0 G) S0 ks a0 i { dst:=some d,op:=.load 24 (.tmp t),type:=T,pos:=pos,after:=af,guard:=gu } [(j,some t)]:=by
 intro w x hC
 refine aw _ fun hdeps K hK=>?_
 have g1:=hdeps (j,some t) (by simp)
 rw [hj] at g1
 have g2 : x j = .pointer (some ⟨g,o,none⟩):=g1
 have e1 : (putE x a0 [(j,some t)]).eval (.tmp t) = x j:=putE_new _ _ (by rw [hN]; exact of_decide_eq_true ht) (by simp [slotAt])
 obtain ⟨A,m,c,h1,h2,h3⟩:=hC.atR hG hl
 refine bj (v:=.agg #[.bool (decide (z < 0)),.slice A m c]) (w':=w) rfl (by rw [ax,hN]) hd ?_ (hK _ _ ?_ ?_)
 · exact ex_load (e1.trans g2) (run_loadAt h1 h2)
 · rw [hi]; exact Below.refl _ _
 · rw [hi]; exact h3
theorem ak {ops9 : Array Oper} {es9 : List (List (Nat × Option Tmp))} {sk9 : List Nat} {d t j g o k : Nat} {z : Int} (hl : AtR W0 g o k z) (hh9 : PkFrom Tryz.prog ops9 es9 sk9 (Reg B W0 G) S0 ks a0 (i + 1)) (ho9 : ops9[i]? = some { dst:=some d,op:=.load 24 (.tmp t),type:=T,pos:=pos,after:=af,guard:=gu }:=by exact rfl) (he9 : es9.getD i [] = [(j,some t)]:=by exact rfl) (hj : at_ ks j = kIs (.pointer (some ⟨g,o,none⟩)):=by exact rfl) (hi : at_ ks i = kZ k z:=by exact rfl) (hG : g ∉ G:=by simp) (hN : a0.tmps.size = N:=by assumption) (hd : decide (d < N) = true:=by kernel_rfl) (ht : decide (t < N) = true:=by kernel_rfl) : PkFrom Tryz.prog ops9 es9 sk9 (Reg B W0 G) S0 ks a0 i :=
 aa ho9 he9 (ik (hl:=hl) (hj:=hj) (hi:=hi) (hG:=hG) (hN:=hN) (hd:=hd) (ht:=ht)) hh9
theorem kf {d t g o k : Nat} {z : Int} (hl : AtR W0 g o k z)  (hp : a0.eval (.tmp t) = .pointer (some ⟨g,o,none⟩))   (hi : at_ ks i = kZ k z) (hG : g ∉ G:=by simp) (hN : a0.tmps.size = N:=by assumption) (hd : decide (d < N) = true:=by kernel_rfl) :
   PkStep Tryz.prog (Reg B W0 G) S0 ks a0 i { dst:=some d,op:=.load 24 (.tmp t),type:=T,pos:=pos,after:=af,guard:=gu } []:=by
 intro w x hC K hK
 obtain ⟨A,m,c,h1,h2,h3⟩:=hC.atR hG hl
 refine bj (v:=.agg #[.bool (decide (z < 0)),.slice A m c]) (w':=w) rfl hN hd ?_ (hK _ _ ?_ ?_)
 · exact ex_load hp (run_loadAt h1 h2)
 · rw [hi]; exact Below.refl _ _
 · rw [hi]; exact h3
theorem ai {ops9 : Array Oper} {es9 : List (List (Nat × Option Tmp))} {sk9 : List Nat} {d t g o k : Nat} {z : Int} (hl : AtR W0 g o k z) (hp : a0.eval (.tmp t) = .pointer (some ⟨g,o,none⟩)) (hh9 : PkFrom Tryz.prog ops9 es9 sk9 (Reg B W0 G) S0 ks a0 (i + 1)) (ho9 : ops9[i]? = some { dst:=some d,op:=.load 24 (.tmp t),type:=T,pos:=pos,after:=af,guard:=gu }:=by exact rfl) (he9 : es9.getD i [] = []:=by exact rfl) (hi : at_ ks i = kZ k z:=by exact rfl) (hG : g ∉ G:=by simp) (hN : a0.tmps.size = N:=by assumption) (hd : decide (d < N) = true:=by kernel_rfl) : PkFrom Tryz.prog ops9 es9 sk9 (Reg B W0 G) S0 ks a0 i :=
 aa ho9 he9 (kf (hl:=hl) (hp:=hp) (hi:=hi) (hG:=hG) (hN:=hN) (hd:=hd)) hh9
theorem fx {d j1 t1 k1 j2 t2 k2 k : Nat} {z1 z2 : Int}        (h1 : at_ ks j1 = kZ k1 z1) (h2 : at_ ks j2 = kZ k2 z2) (hi : at_ ks i = kP k z1 z2) (hN : a0.tmps.size = N:=by assumption) (hd : decide (d < N) = true:=by kernel_rfl) (ht1 : decide (t1 < N) = true:=by kernel_rfl) (ht2 : decide (t2 < N) = true:=by kernel_rfl) (hne : decide (t1 = t2) = false:=by kernel_rfl) (hk1 : decide (k1 ≤ k) = true:=by kernel_rfl) (hk2 : decide (k2 ≤ k) = true:=by kernel_rfl) :
   PkStep Tryz.prog C S0 ks a0 i { dst:=some d,op:=.build 26 #[(0,.tmp t1),(1,.tmp t2)],type:=T,pos:=pos,after:=af,guard:=gu } [(j1,some t1),(j2,some t2)]:=by
 intro w x hC
 refine aw _ fun hdeps K hK=>?_
 have g1:=hdeps (j1,some t1) (by simp)
 have g2:=hdeps (j2,some t2) (by simp)
 rw [h1] at g1
 rw [h2] at g2
 have hne' : t1 ≠ t2:=of_decide_eq_false hne
 have e1 : (putE x a0 [(j1,some t1),(j2,some t2)]).eval (.tmp t1) = x j1:=putE_new _ _ (by rw [hN]; exact of_decide_eq_true ht1) (by simp [slotAt,Ne.symm hne'])
 have e2 : (putE x a0 [(j1,some t1),(j2,some t2)]).eval (.tmp t2) = x j2:=putE_new _ _ (by rw [hN]; exact of_decide_eq_true ht2) (by simp [slotAt])
 obtain ⟨A,l,c,hx,q1,q2⟩:=(show Zr w (x j1) k1 z1 from g1)
 obtain ⟨A',l',c',hy,q3,q4⟩:=(show Zr w (x j2) k2 z2 from g2)
 refine bj (w':=w) rfl (by rw [ax,hN]) hd (ex_build2 (e1.trans hx) (e2.trans hy) run_buildP) (hK _ _ ?_ ?_)
 · rw [hi]; exact Below.refl _ _
 · rw [hi]; exact ⟨A,l,c,A',l',c',rfl,⟨q1,Nat.lt_of_lt_of_le q2 (pow_le (of_decide_eq_true hk1))⟩,q3,Nat.lt_of_lt_of_le q4 (pow_le (of_decide_eq_true hk2))⟩
theorem st_buildF {d j t k : Nat} {x1 x2 : Int}    (hj : at_ ks j = kP k x1 x2) (hi : at_ ks i = kP k x1 x2) (hN : a0.tmps.size = N:=by assumption) (hd : decide (d < N) = true:=by kernel_rfl) (ht : decide (t < N) = true:=by kernel_rfl) :
   PkStep Tryz.prog C S0 ks a0 i { dst:=some d,op:=.build 72 #[(0,.tmp t)],type:=T,pos:=pos,after:=af,guard:=gu } [(j,some t)]:=by
 intro w x hC
 refine aw _ fun hdeps K hK=>?_
 have g1:=hdeps (j,some t) (by simp)
 rw [hj] at g1
 have e1 : (putE x a0 [(j,some t)]).eval (.tmp t) = x j:=putE_new _ _ (by rw [hN]; exact of_decide_eq_true ht) (by simp [slotAt])
 obtain ⟨A,l,c,A',l',c',hx,q⟩:=(show Pr w (x j) k x1 x2 from g1)
 refine bj (w':=w) rfl (by rw [ax,hN]) hd (ex_build1 (e1.trans hx) run_buildF) (hK _ _ ?_ ?_)
 · rw [hi]; exact Below.refl _ _
 · rw [hi]; exact ⟨A,l,c,A',l',c',rfl,q⟩
theorem st_fieldF {d j t k : Nat} {x1 x2 : Int}    (hj : at_ ks j = kP k x1 x2) (hi : at_ ks i = kP k x1 x2) (hN : a0.tmps.size = N:=by assumption) (hd : decide (d < N) = true:=by kernel_rfl) (ht : decide (t < N) = true:=by kernel_rfl) :
   PkStep Tryz.prog C S0 ks a0 i { dst:=some d,op:=.field 72 (.tmp t) 0,type:=T,pos:=pos,after:=af,guard:=gu } [(j,some t)]:=by
 intro w x hC
 refine aw _ fun hdeps K hK=>?_
 have g1:=hdeps (j,some t) (by simp)
 rw [hj] at g1
 obtain ⟨A,l,c,A',l',c',hx,q⟩:=(show Pr w (x j) k x1 x2 from g1)
 have e1 : (putE x a0 [(j,some t)]).eval (.tmp t) = x j:=putE_new _ _ (by rw [hN]; exact of_decide_eq_true ht) (by simp [slotAt])
 refine bj (w':=w) rfl (by rw [ax,hN]) hd (ex_field (e1.trans hx) run_fieldF) (hK _ _ ?_ ?_)
 · rw [hi]; exact Below.refl _ _
 · rw [hi]; exact ⟨A,l,c,A',l',c',rfl,q⟩
theorem kt {t u j g k : Nat} {x1 x2 : Int} {cs0 : Array Value} (h0 : Holds_ W0 g cs0) (hs0 : cs0.size = 4)  (hp : a0.eval (.tmp t) = .pointer (some ⟨g,0,none⟩))    (hj : at_ ks j = kP k x1 x2) (hi : at_ ks i = kRes g k x1 x2) (hG : g ∈ G:=by simp) (hN : a0.tmps.size = N:=by assumption) (hu : decide (u < N) = true:=by kernel_rfl) (htu : decide (t = u) = false:=by kernel_rfl) :
   PkStep Tryz.prog (Reg B W0 G) S0 ks a0 i { dst:=none,op:=.store 72 (.tmp t) (.tmp u),type:=T,pos:=pos,after:=af,guard:=gu } [(j,some u)]:=by
 intro w x hC
 refine aw _ fun hdeps K hK=>?_
 have g1:=hdeps (j,some u) (by simp)
 rw [hj] at g1
 obtain ⟨A,l,c,A',l',c',hx,q1,q3,q4⟩:=(show Pr w (x j) k x1 x2 from g1)
 have htu' : t ≠ u:=of_decide_eq_false htu
 have e1 : (putE x a0 [(j,some u)]).eval (.tmp t) = .pointer (some ⟨g,0,none⟩):=(putE_old _ _ (by simp [slotAt,Ne.symm htu'])).trans hp
 have e2 : (putE x a0 [(j,some u)]).eval (.tmp u) = x j:=putE_new _ _ (by rw [hN]; exact of_decide_eq_true hu) (by simp [slotAt])
 obtain ⟨a,b,c0,d0,hg⟩:=hC.four hG h0 hs0
 obtain ⟨m1,m2,m3,m4,f1,f2,f3,f4⟩:=hg.four
 have hst:=bu hg (noDig_bool (decide (x1 < 0))) (noDig_slice A l c) (noDig_bool (decide (x2 < 0))) (noDig_slice A' l' c')
 refine gp (w':=put4 w g (.bool (decide (x1 < 0))) (.slice A l c) (.bool (decide (x2 < 0))) (.slice A' l' c')) rfl ?_ (hK _ _ ?_ ?_)
 · exact dz e1 (e2.trans hx) (run_storeF m1 m2 m3 m4 f1 f2 f3 f4)
 · rw [hi]; exact hst
 · rw [hi]; exact ⟨_,cd hg (noDig_bool _) (noDig_slice _ _ _) (noDig_bool _) (noDig_slice _ _ _),A,l,c,A',l',c',rfl,A,l,c,A',l',c',rfl,⟨hst.rr q1.1,q1.2⟩,hst.rr q3,q4⟩
theorem eu {t u j g k : Nat} {x1 x2 : Int} {cs0 : Array Value} (h0 : Holds_ W0 g cs0) (hs0 : cs0.size = 4)  (hp : a0.eval (.tmp t) = .pointer (some ⟨g,0,none⟩))    (hj : at_ ks j = kP k x1 x2) (hi : at_ ks i = kRes g k x1 x2) (hG : g ∈ G:=by simp) (hN : a0.tmps.size = N:=by assumption) (hu : decide (u < N) = true:=by kernel_rfl) (htu : decide (t = u) = false:=by kernel_rfl) :
   PkStep Tryz.prog (Reg B W0 G) S0 ks a0 i { dst:=none,op:=.store 26 (.tmp t) (.tmp u),type:=T,pos:=pos,after:=af,guard:=gu } [(j,some u)]:=by
 intro w x hC
 refine aw _ fun hdeps K hK=>?_
 have g1:=hdeps (j,some u) (by simp)
 rw [hj] at g1
 obtain ⟨A,l,c,A',l',c',hx,q1,q3,q4⟩:=(show Pr w (x j) k x1 x2 from g1)
 have htu' : t ≠ u:=of_decide_eq_false htu
 have e1 : (putE x a0 [(j,some u)]).eval (.tmp t) = .pointer (some ⟨g,0,none⟩):=(putE_old _ _ (by simp [slotAt,Ne.symm htu'])).trans hp
 have e2 : (putE x a0 [(j,some u)]).eval (.tmp u) = x j:=putE_new _ _ (by rw [hN]; exact of_decide_eq_true hu) (by simp [slotAt])
 obtain ⟨a,b,c0,d0,hg⟩:=hC.four hG h0 hs0
 obtain ⟨m1,m2,m3,m4,f1,f2,f3,f4⟩:=hg.four
 have hst:=bu hg (noDig_bool (decide (x1 < 0))) (noDig_slice A l c) (noDig_bool (decide (x2 < 0))) (noDig_slice A' l' c')
 refine gp (w':=put4 w g (.bool (decide (x1 < 0))) (.slice A l c) (.bool (decide (x2 < 0))) (.slice A' l' c')) rfl ?_ (hK _ _ ?_ ?_)
 · exact dz e1 (e2.trans hx) (run_storeP m1 m2 m3 m4 f1 f2 f3 f4)
 · rw [hi]; exact hst
 · rw [hi]; exact ⟨_,cd hg (noDig_bool _) (noDig_slice _ _ _) (noDig_bool _) (noDig_slice _ _ _),A,l,c,A',l',c',rfl,A,l,c,A',l',c',rfl,⟨hst.rr q1.1,q1.2⟩,hst.rr q3,q4⟩
end
theorem wp_region_res {P : Program} {id : Nat} {draw : Bool} {ops : Array Oper} {Q : Exit → Act → World → Prop} {a0 : Act} {W0 : World} {N : Nat} (hN : a0.tmps.size = N) (B g : Nat) {cs : Array Value} (hg : Holds_ W0 g cs) (hBg : B ≤ g) (ks : List PK) (es : List (List (Nat × Option Tmp))) (all : List (Nat × Option Tmp)) (bs : List (Nat × Bool)) (sk : List Nat) (hm : P.follows .mixedOrders = true) (hchk : growOK ops (fun i => !sk.contains i) es all N = true) (hk : codesOK ks es = true) (hgu : guardOK ops bs sk = true) (hbs : bs.map (fun p => at_ ks p.1) = bs.map fun p => kIs (.bool p.2)) (hsk : sk.map (at_ ks) = sk.map fun _ => kIs undef)
   (hb : blks ks = [g]) (hB0 : B ≤ W0.heap.size) (hs : PkFrom P ops es sk (Reg B W0 [g]) W0.heap.size ks a0 0) (hend : ∀ w' x,Reg B W0 [g] w' → (∀ i,i < ops.size → (at_ ks i).sem W0.heap.size x (x i) w') → Q .normal (putE x a0 all) w') : (Code.region id ops draw).wp P Q a0 W0:=by
 subst hN
 refine az (hm:=hm) (hchk:=hchk) (hk:=hk) (hgu:=hgu) (hbs:=hbs) (hsk:=hsk) B ks es all bs sk ?_ ?_ hB0 ?_ ?_ ?_
 · rw [hb]; exact List.nodup_cons.2 ⟨by simp,List.nodup_nil⟩
 · rw [hb]; intro g' hg'; rw [List.mem_singleton.1 hg']; exact hBg
 · rw [hb]; intro g' hg'; rw [List.mem_singleton.1 hg']; exact ⟨_,hg⟩
 · rw [hb]; exact hs
 · rw [hb]; exact hend
theorem gr {fn : Func} {R : Ending → World → Prop} {a : Act} {w : World} {t g k : Nat} {x y : Int} {cs : Array Value} (hres : fn.results = #[.cell t 72 ]) (hd : a.defers = []) (hp : a.eval (.tmp t) = .pointer (some ⟨g,0,none⟩)) (hg : Holds_ w g cs) (hP : isP k x y cs w) (hR : ∀ v,Pr w v k x y → R (.returned v) w) : bodyPost Tryz.prog fn R .ret a w:=by
 obtain ⟨A,l,c,A',l',c',rfl,h⟩:=hP
 obtain ⟨m1,m2,m3,m4,_,_,_,_⟩:=hg.four
 refine bodyPost_ret (v:=.agg #[.bool (decide (x < 0)),.slice A l c,.bool (decide (y < 0)),.slice A' l' c']) ?_ hd (hR _ h)
 have hp' : a.tmps[t]?.getD undef = .pointer (some ⟨g,0,none⟩):=by
   rw [← Array.getD_eq_getD_getElem?]; exact hp
 simp [results,hres,go_sem,hp',m1,m2,m3,m4]
theorem fy {fn : Func} {R : Ending → World → Prop} {a : Act} {w : World} {t g k : Nat} {x y : Int} {cs : Array Value} (hres : fn.results = #[.cell t 26 ]) (hd : a.defers = []) (hp : a.eval (.tmp t) = .pointer (some ⟨g,0,none⟩)) (hg : Holds_ w g cs) (hP : isP k x y cs w) (hR : ∀ v,Pr w v k x y → R (.returned v) w) : bodyPost Tryz.prog fn R .ret a w:=by
 obtain ⟨A,l,c,A',l',c',rfl,h⟩:=hP
 obtain ⟨m1,m2,m3,m4,_,_,_,_⟩:=hg.four
 refine bodyPost_ret (v:=.agg #[.bool (decide (x < 0)),.slice A l c,.bool (decide (y < 0)),.slice A' l' c']) ?_ hd (hR _ h)
 have hp' : a.tmps[t]?.getD undef = .pointer (some ⟨g,0,none⟩):=by
   rw [← Array.getD_eq_getD_getElem?]; exact hp
 simp [results,hres,go_sem,hp',m1,m2,m3,m4]
theorem lu {P : Program} {id : Nat} {draw : Bool} {ops : Array Oper} {next : Act → World → Prop} {Q : Exit → Act → World → Prop} {a0 : Act} {w W0 : World} {N g : Nat} {cs : Array Value} (bb : Below w.heap.size w W0) (hg : Holds_ W0 g cs) (ks : List PK) (el : List (List Nat)) (sl : List Nat) (bs : List (Nat × Bool)) (sk : List Nat) (lr : PkFrom P ops (Ez9 sl el) sk (Reg w.heap.size W0 [g]) W0.heap.size ks a0 0) (hend : ∀ w' x a1, Reg w.heap.size W0 [g] w' → (∀ i, i < ops.size → (at_ ks i).sem W0.heap.size x (x i) w') → a1 = putE x a0 (Az9 0 sl) → a1.tmps.size = N → a1.defers = [] → Below w.heap.size w w' → next a1 w')
   (hN : a0.tmps.size = N:=by assumption) (hD : a0.defers = []:=by assumption) (hBg : w.heap.size ≤ g:=by omega) (hm : P.follows .mixedOrders = true:=by kernel_rfl) (hchk : growOK ops (fun i=>!sk.contains i) (Ez9 sl el) (Az9 0 sl) N = true:=by kernel_rfl) (hk : codesOK ks (Ez9 sl el) = true:=by kernel_rfl) (hgu : guardOK ops bs sk = true:=by kernel_rfl) (hbs : bs.map (fun p=>at_ ks p.1) = bs.map fun p=>kIs (.bool p.2):=by kernel_rfl) (hsk : sk.map (at_ ks) = sk.map fun _=>kIs undef:=by kernel_rfl) (hb : blks ks = [g]:=by kernel_rfl) : (Code.region id ops draw).wp P (Exit.then next Q) a0 W0 :=
 wp_region_res hN w.heap.size g hg hBg ks (Ez9 sl el) (Az9 0 sl) bs sk hm hchk hk hgu hbs hsk hb bb.size lr fun w' x h1 h2=>then_n (hend w' x _ h1 h2 rfl (size_behind rfl hN) (defers_behind rfl hD) (bb.trans h1.below))
def TellsP (w : World) (k : Nat) (x y : Int) (e : Ending) (w' : World) : Prop:=∃ v,e = .returned v ∧ Pr w' v k x y ∧ Below w.heap.size w w'
theorem l_gcd2 {w : World} {A1 A2 : Option Addr} {l1 c1 l2 c2 : Nat} {b1 b2 : Bool} {k : Nat} {x y : Int} (h1 : Zd w (.agg #[.bool b1,.slice A1 l1 c1]) k x) (h2 : Zd w (.agg #[.bool b2,.slice A2 l2 c2]) k y) (hk : k ≤ 4000) :
   Calls Tryz.prog 51 #[.slice (some ⟨w.heap.size,0,none⟩) 2 2] (w.alloc (.cells #[.bool b1,.slice A1 l1 c1,.bool b2,.slice A2 l2 c2] 24)) (TellsZ (w.alloc (.cells #[.bool b1,.slice A1 l1 c1,.bool b2,.slice A2 l2 c2] 24)) k (zgcd [(x),(y)] : Nat)) :=
 l_gcd k (l:=[(k,x),(k,y)]) ⟨_,rfl,zs_lit2 h1 h2 _⟩ (by simp) hk (by simp)
theorem four_set {w : World} {g : Nat} {a b c d : Value} {T : TypeId} (h : w.heap[g]? = some (.cells #[a,b,c,d] T (0,0))) (u v : Value) :
   ((w.setCell ⟨g,0,none⟩ u).setCell ⟨g,1,none⟩ v).heap[g]? = some (.cells #[u,v,c,d] T (0,0)) ∧ ((w.setCell ⟨g,2,none⟩ u).setCell ⟨g,3,none⟩ v).heap[g]? = some (.cells #[a,b,u,v] T (0,0)) :=
 ⟨by rw [set_cell4 (set_cell4 h)]; rfl,by rw [set_cell4 (set_cell4 h)]; rfl⟩
theorem ga {w : World} {g : Nat} {a b c d u v : Value} (h : Holds_ w g #[a,b,c,d]) (hu : noDig u) (hv : noDig v) : Stored g w ((w.setCell ⟨g,0,none⟩ u).setCell ⟨g,1,none⟩ v) ∧ Holds_ ((w.setCell ⟨g,0,none⟩ u).setCell ⟨g,1,none⟩ v) g #[u,v,c,d]:=by
 obtain ⟨⟨T,e⟩,hn⟩:=h
 have hh : Holds_ ((w.setCell ⟨g,0,none⟩ u).setCell ⟨g,1,none⟩ v) g #[u,v,c,d]:=⟨⟨T,(four_set e u v).1⟩,fun y hy=>by
   have hy' : y ∈ [u,v,c,d]:=by simpa using hy
   rcases List.mem_cons.1 hy' with rfl | hy'
   · exact hu
   rcases List.mem_cons.1 hy' with rfl | hy'
   · exact hv
   · exact hn y (by
       rcases List.mem_cons.1 hy' with rfl | hy'
       · simp
       · rw [List.mem_singleton.1 hy']; simp)⟩
 exact ⟨⟨rfl,rfl,rfl,by simp,fun k hk=>(Below.heap_setCell _ _ _ _ hk).trans (Below.heap_setCell _ _ _ _ hk),⟨_,_,⟨⟨T,e⟩,hn⟩,hh,rfl⟩,fun cs T' hT=>by
   rw [e] at hT; injection hT with hT; injection hT with e1 e2; subst e1; subst e2
   exact ⟨_,(four_set e u v).1,rfl⟩⟩,hh⟩
theorem gb {w : World} {g : Nat} {a b c d u v : Value} (h : Holds_ w g #[a,b,c,d]) (hu : noDig u) (hv : noDig v) : Stored g w ((w.setCell ⟨g,2,none⟩ u).setCell ⟨g,3,none⟩ v) ∧ Holds_ ((w.setCell ⟨g,2,none⟩ u).setCell ⟨g,3,none⟩ v) g #[a,b,u,v]:=by
 obtain ⟨⟨T,e⟩,hn⟩:=h
 have hh : Holds_ ((w.setCell ⟨g,2,none⟩ u).setCell ⟨g,3,none⟩ v) g #[a,b,u,v]:=⟨⟨T,(four_set e u v).2⟩,fun y hy=>by
   have hy' : y ∈ [a,b,u,v]:=by simpa using hy
   rcases List.mem_cons.1 hy' with rfl | hy'
   · exact hn _ (by simp)
   rcases List.mem_cons.1 hy' with rfl | hy'
   · exact hn _ (by simp)
   rcases List.mem_cons.1 hy' with rfl | hy'
   · exact hu
   · rw [List.mem_singleton.1 hy']; exact hv⟩
 exact ⟨⟨rfl,rfl,rfl,by simp,fun k hk=>(Below.heap_setCell _ _ _ _ hk).trans (Below.heap_setCell _ _ _ _ hk),⟨_,_,⟨⟨T,e⟩,hn⟩,hh,rfl⟩,fun cs T' hT=>by
   rw [e] at hT; injection hT with hT; injection hT with e1 e2; subst e1; subst e2
   exact ⟨_,(four_set e u v).2,rfl⟩⟩,hh⟩
theorem bz {w : World} {g : Nat} {a b c d : Value} {T : TypeId} (h : w.heap[g]? = some (.cells #[a,b,c,d] T (0,0))) : w.cell? ⟨g,0,none⟩ = some a ∧ w.cell? ⟨g,1,none⟩ = some b ∧ w.cell? ⟨g,2,none⟩ = some c ∧ w.cell? ⟨g,3,none⟩ = some d ∧ w.frozen? ⟨g,0,none⟩ = false ∧ w.frozen? ⟨g,1,none⟩ = false ∧ w.frozen? ⟨g,2,none⟩ = false ∧ w.frozen? ⟨g,3,none⟩ = false:=by
 refine ⟨?_,?_,?_,?_,?_,?_,?_,?_⟩ <;> simp [World.cell?,World.frozen?,h]
theorem lowest_q {w : World} {v1 v2 : Value} {k : Nat} {n d : Int} (h1 : Zr w v1 k n) (h2 : Zr w v2 k d) (hd : d ≠ 0) (hk1 : 1 ≤ k) (hk : k ≤ 3998) :
   Calls Tryz.prog 69 #[v1,v2] w (TellsP w k (Rat.divInt n d).num ((Rat.divInt n d).den : Int)):=by
 obtain ⟨A1,l1,c1,rfl,r1,u1⟩:=h1
 obtain ⟨A2,l2,c2,rfl,r2,u2⟩:=h2
 have hx1 : ∀ W,Below w.heap.size w W → Zr W (.agg #[.bool (decide (n < 0)),.slice A1 l1 c1]) k n:=fun W hW=>⟨A1,l1,c1,rfl,r1.below hW,u1⟩
 have hx2 : ∀ W,Below w.heap.size w W → Zr W (.agg #[.bool (decide (d < 0)),.slice A2 l2 c2]) k d:=fun W hW=>⟨A2,l2,c2,rfl,r2.below hW,u2⟩
 obtain ⟨b1,hb1⟩ : ∃ b,b = decide (n < 0):=⟨_,rfl⟩
 obtain ⟨b2,hb2⟩ : ∃ b,b = decide (d < 0):=⟨_,rfl⟩
 rw [← hb1] at hx1 ⊢
 rw [← hb2] at hx2 ⊢
 have HX1:=Lib.hid hx1
 have HX2:=Lib.hid hx2
 have HD:=Lib.hid (show d ≠ 0 ∧ 1 ≤ k ∧ k ≤ 3998 ∧ b2 = decide (d < 0) ∧ n.natAbs < 1000000000 ^ k ∧ d.natAbs < 1000000000 ^ k from ⟨hd,hk1,hk,hb2,u1,u2⟩)
 clear hx1 hx2 hd hk1 hk hb1 hb2 u1 u2 r1 r2
 obtain ⟨W0,hW0⟩ : ∃ W,W = ((w.alloc (Obj.cells #[Value.bool b1,Value.slice A1 l1 c1] 24)).alloc (Obj.cells #[Value.bool b2,Value.slice A2 l2 c2] 24)).alloc (Obj.cells #[Value.bool false,Value.slice none 0 0,Value.bool false,Value.slice none 0 0] 72):=⟨_,rfl⟩
 obtain ⟨bW0,sW0,K0,K1,K2⟩:=fv hW0
 have sW0' : W0.heap.size = w.heap.size + 1 + 1 + 1:=sW0
 have hgc:=l_gcd2 (HX1.out W0 bW0).zd (HX2.out W0 bW0).zd (by have:=HD.out.2.2.1; omega)
 rw [sW0'] at hgc
 have HW0:=Lib.hid hW0
 have HGC:=Lib.hid hgc
 have HK:=Lib.hid (show _ ∧ _ ∧ _ from ⟨K0,K1,K2⟩)
 have HB0:=Lib.hid bW0
 clear hgc hW0 K0 K1 K2 bW0 sW0
 by_cases hneg : d < 0
 · have eb2 : b2 = true:=by rw [HD.out.2.2.2.1]; exact decide_eq_true hneg
   subst eb2; have HN:=Lib.hid hneg; clear hneg
   go_enter Tryz.func69,Tryz.ntmps69
   go_wp2_with fail
   rw [← HW0.out]; refine HGC.out.mono ?_; rintro e w1 ⟨v,rfl,⟨A3,l3,c3,rfl,r3,u3⟩,hb1⟩; have b01:=bstep (bal (Below.refl W0.heap.size W0) _) hb1; have hz1:=b01.size; have K1:=(b01.block (w.heap.size + 1) (by omega)).trans HK.out.2.1; have K0:=(b01.block w.heap.size (by omega)).trans HK.out.1; have K2:=(b01.block (w.heap.size + 1 + 1) (by omega)).trans HK.out.2.2; have HB1:=Lib.hid (HB0.out.trans (b01.mono (by omega))); obtain ⟨q1,q2,_,_⟩:=cell_of_two K1; obtain ⟨q3,q4,_,_⟩:=cell_of_two K0; have HK1:=Lib.hid (show _ ∧ _ ∧ _ from ⟨K0,K1,K2⟩); have hlt0 : w.heap.size < w1.heap.size:=by omega
   have hlt1 : w.heap.size + 1 < w1.heap.size:=by omega
   have hlt2 : w.heap.size + 1 + 1 < w1.heap.size:=by omega
   have HR3:=Lib.hid (show _ ∧ _ from ⟨r3,u3⟩); clear b01 hb1 hz1 K0 K1 K2 r3 u3
   obtain ⟨s3,hs3⟩ : ∃ s,s = decide (((zgcd [(n),(d)] : Nat) : Int) < 0):=⟨_,rfl⟩
   rw [← hs3]; have HNG:=Lib.hid (z_neg (w:=w1.alloc (Obj.cells #[Value.bool s3,Value.slice A3 l3 c3] 24)) (v:=.agg #[.bool s3,.slice A3 l3 c3]) (Zr.zd ⟨A3,l3,c3,by rw [hs3],HR3.out.1.alloc _,HR3.out.2⟩) (by have:=HD.out.2.2.1; omega)); clear hs3
   go_wp2_with fail
   refine HNG.out.mono ?_; rintro e w2 ⟨v,rfl,⟨A4,l4,c4,rfl,r4,u4⟩,hb2⟩
   obtain ⟨s4,hs4⟩ : ∃ s,s = decide (-((zgcd [(n),(d)] : Nat) : Int) < 0):=⟨_,rfl⟩
   rw [← hs4]; have b12:=bstep (bal (Below.refl w1.heap.size w1) _) hb2; have hz2:=b12.size; have K0:=(b12.block w.heap.size (by omega)).trans HK1.out.1; have K1:=(b12.block (w.heap.size + 1) (by omega)).trans HK1.out.2.1; have K2:=(b12.block (w.heap.size + 1 + 1) (by omega)).trans HK1.out.2.2; have K3:=(hb2.block w1.heap.size (lt_alloc _ _)).trans (heap_alloc_new _ _); have hlt3 : w1.heap.size < w2.heap.size:=Nat.lt_of_lt_of_le (lt_alloc w1 _) hb2.size; have HB2:=Lib.hid (HB1.out.trans (b12.mono (by omega))); obtain ⟨p1,p2,_,_⟩:=cell_of_two K0; obtain ⟨m1,m2,m3,m4⟩:=cell_of_two K3; have hne0 : w.heap.size ≠ w1.heap.size:=by omega
   have hne1 : w.heap.size + 1 ≠ w1.heap.size:=by omega
   have hne2 : w.heap.size + 1 + 1 ≠ w1.heap.size:=by omega
   obtain ⟨_,_,t3⟩:=bk (a':=.bool s4) (b':=.slice A4 l4 c4) K3 (fun d h=>by cases h) (fun d h=>by cases h) r4
   obtain ⟨W3,hW3⟩ : ∃ W,W = ((w2.setCell ⟨w1.heap.size,0,none⟩ (.bool s4)).setCell ⟨w1.heap.size,1,none⟩ (.slice A4 l4 c4)).alloc (Obj.cells #[Value.bool false,Value.slice none 0 0,Value.bool false,Value.slice none 0 0] 72):=⟨_,rfl⟩
   have far : ∀ i,i < w2.heap.size → i ≠ w1.heap.size → W3.heap[i]? = w2.heap[i]?:=fun i hi hn=>by
     rw [hW3,Below.heap_alloc _ _ _ (by simp; omega)]; exact (Below.heap_setCell _ _ _ _ hn).trans (Below.heap_setCell _ _ _ _ hn)
   have J0:=(far _ (by omega) hne0).trans K0; have J1:=(far _ (by omega) hne1).trans K1; have J2:=(far _ (by omega) hne2).trans K2
   have J3 : W3.heap[w1.heap.size]? = some (Obj.cells #[Value.bool s4,Value.slice A4 l4 c4] 24):=by
     rw [hW3,Below.heap_alloc _ _ _ (by simp; omega)]; exact ic (set_two0 K3)
   have J4 : W3.heap[w2.heap.size]? = some (Obj.cells #[Value.bool false,Value.slice none 0 0,Value.bool false,Value.slice none 0 0] 72):=by
     rw [hW3]; exact new_at (by simp)
   have sz3 : W3.heap.size = w2.heap.size + 1:=by rw [hW3]; simp
   have b3 : Below w.heap.size w W3:=by
     rw [hW3]; exact bal ((((HB1.out.trans (b12.mono (by omega))).setCell (Nat.le_of_lt hlt0) _).setCell (Nat.le_of_lt hlt0) _)) _
   have r5 : Rr W3 (.slice A4 l4 c4) (-((zgcd [(n),(d)] : Nat) : Int)).natAbs:=by rw [hW3]; exact t3.alloc _
   obtain ⟨p1,p2,_,_⟩:=cell_of_two J0; obtain ⟨p3,p4,_,_⟩:=cell_of_two J3; rw [hW3] at p1 p2 p3 p4; have HT:=Lib.hid (show _ ∧ _ ∧ _ ∧ _ ∧ _ from ⟨J0,J1,J2,J3,J4⟩); have HS:=Lib.hid (show Zr W3 (.agg #[.bool s4,.slice A4 l4 c4]) k (sdiv n d) from ⟨A4,l4,c4,by rw [hs4,sdiv,if_pos HN.out],by rw [sdiv,if_pos HN.out]; exact r5,by rw [sdiv,if_pos HN.out]; exact u4⟩); have HB3:=Lib.hid b3; have HW3:=Lib.hid hW3; have hl3 : w2.heap.size < W3.heap.size:=by omega
   have hl4 : w1.heap.size < w2.heap.size:=hlt3; have hl5 : w.heap.size + 1 + 1 < w1.heap.size:=by omega
   clear far J0 J1 J2 J3 J4 b3 r5 t3 r4 u4 hs4 b12 hb2 hz2 K0 K1 K2 K3 q1 q2 q3 q4 hW3
   go_wp2_with fail
   rw [← HW3.out]; refine (z_divMod (m:=k + 1) (HX1.out _ HB3.out).zd HS.out.zd (sdiv_ne HD.out.1) (by have:=HD.out.2.1; omega) (by omega) (by omega) (by have:=HD.out.2.2.1; omega)).mono ?_; rw [jq HD.out.1]; rintro e w4 ⟨vq,vr,rfl,⟨A5,l5,c5,rfl,r5,_⟩,⟨A6,l6,c6,rfl,_,_⟩,hb4⟩
   obtain ⟨s5,hs5⟩ : ∃ s,s = decide ((Rat.divInt n d).num < 0):=⟨_,rfl⟩
   rw [← hs5]; have hz4:=hb4.size; have L1:=(hb4.block (w.heap.size + 1) (by omega)).trans HT.out.2.1; have L2:=(hb4.block (w.heap.size + 1 + 1) (by omega)).trans HT.out.2.2.1; have L3:=(hb4.block w1.heap.size (by omega)).trans HT.out.2.2.2.1
   have L4 : Holds_ w4 w2.heap.size #[Value.bool false,Value.slice none 0 0,Value.bool false,Value.slice none 0 0]:=⟨⟨_,(hb4.block w2.heap.size (by omega)).trans HT.out.2.2.2.2⟩,by simp [noDig]⟩
   obtain ⟨y1,y2,y3,y4,y5,y6,y7,y8⟩:=L4.four; obtain ⟨st5,L5⟩:=ga L4 (noDig_bool s5) (noDig_slice A5 l5 c5)
   obtain ⟨W5,hW5⟩ : ∃ W,W = (w4.setCell ⟨w2.heap.size,0,none⟩ (.bool s5)).setCell ⟨w2.heap.size,1,none⟩ (.slice A5 l5 c5):=⟨_,rfl⟩
   rw [← hW5] at st5 L5; have b5 : Below w.heap.size w W5:=st5.below (HB3.out.trans (hb4.mono (by omega))) (by omega); have M1:=(st5.other (w.heap.size + 1) (by omega)).trans L1; have M2:=(st5.other (w.heap.size + 1 + 1) (by omega)).trans L2; have M3:=(st5.other w1.heap.size (by omega)).trans L3; have HS5:=Lib.hid ((HS.out.below hb4).stored st5); have R5:=Lib.hid (show _ ∧ _ from ⟨st5.rr r5,hs5⟩); obtain ⟨u1,u2,_,_⟩:=cell_of_two M1; obtain ⟨u3,u4',_,_⟩:=cell_of_two M3; rw [hW5] at u1 u2 u3 u4'; have HW5:=Lib.hid hW5; have HB5:=Lib.hid b5; have HM:=Lib.hid (show _ ∧ _ ∧ _ ∧ _ from ⟨M1,M2,M3,L5⟩); have hz5 : W5.heap.size = w4.heap.size:=st5.size; clear hb4 L1 L2 L3 L4 st5 L5 b5 M1 M2 M3 r5 hs5 hW5 p1 p2 p3 p4
   go_wp2_with fail
   rw [← HW5.out]; refine (z_divMod (m:=k + 1) (HX2.out _ HB5.out).zd HS5.out.zd (sdiv_ne HD.out.1) (by have:=HD.out.2.1; omega) (by omega) (by omega) (by have:=HD.out.2.2.1; omega)).mono ?_; rw [jr HD.out.1]; rintro e w6 ⟨vq,vr,rfl,⟨A7,l7,c7,rfl,r7,_⟩,⟨A8,l8,c8,rfl,_,_⟩,hb6⟩
   obtain ⟨s7,hs7⟩ : ∃ s,s = decide (((Rat.divInt n d).den : Int) < 0):=⟨_,rfl⟩
   rw [← hs7]; have hz6:=hb6.size
   have N2 : Holds_ w6 (w.heap.size + 1 + 1) #[Value.bool false,Value.slice none 0 0,Value.bool false,Value.slice none 0 0]:=⟨⟨_,(hb6.block (w.heap.size + 1 + 1) (by omega)).trans HM.out.2.1⟩,by simp [noDig]⟩
   have N4:=HM.out.2.2.2.step hb6; obtain ⟨y1,y2,y3,y4,y5,y6,y7,y8⟩:=N4.four; obtain ⟨st7,L7⟩:=gb N4 (noDig_bool s7) (noDig_slice A7 l7 c7)
   obtain ⟨W7,hW7⟩ : ∃ W,W = (w6.setCell ⟨w2.heap.size,2,none⟩ (.bool s7)).setCell ⟨w2.heap.size,3,none⟩ (.slice A7 l7 c7):=⟨_,rfl⟩
   rw [← hW7] at st7 L7; have N7:=N2.stored st7 (by omega); have st8:=bu N7 (noDig_bool s5) (noDig_slice A5 l5 c5) (noDig_bool s7) (noDig_slice A7 l7 c7); have N8:=cd N7 (noDig_bool s5) (noDig_slice A5 l5 c5) (noDig_bool s7) (noDig_slice A7 l7 c7); have b8:=st8.below (st7.below (HB5.out.trans (hb6.mono (by omega))) (by omega)) (show w.heap.size ≤ w.heap.size + 1 + 1 by omega); have hle:=fj n d; have hle2:=fk (n:=n) HD.out.1
   have P8 : Pr (put4 W7 (w.heap.size + 1 + 1) (.bool s5) (.slice A5 l5 c5) (.bool s7) (.slice A7 l7 c7)) (.agg #[.bool s5,.slice A5 l5 c5,.bool s7,.slice A7 l7 c7]) k (Rat.divInt n d).num ((Rat.divInt n d).den : Int) :=
     ⟨A5,l5,c5,A7,l7,c7,by rw [R5.out.2,hs7],⟨st8.rr (st7.rr (R5.out.1.below hb6)),Nat.lt_of_le_of_lt hle HD.out.2.2.2.2.1⟩,st8.rr (st7.rr r7),Nat.lt_of_le_of_lt (by rw [Int.natAbs_natCast]; exact hle2) HD.out.2.2.2.2.2⟩
   obtain ⟨f1,f2,f3,f4,_,_,_,_⟩:=L7.four; obtain ⟨g1,g2,g3,g4,g5,g6,g7,g8⟩:=N7.four; obtain ⟨i1,i2,i3,i4,_,_,_,_⟩:=N8.four; have HF:=Lib.hid (show _ ∧ _ from ⟨P8,b8⟩); rw [hW7] at f1 f2 f3 f4 g1 g2 g3 g4 g5 g6 g7 g8 i1 i2 i3 i4 HF; unfold put4 at i1 i2 i3 i4; have HI:=Lib.hid (show _ ∧ _ ∧ _ ∧ _ from ⟨i1,i2,i3,i4⟩); clear hb6 N2 N4 st7 L7 N7 st8 N8 b8 P8 r7 hs7 hW7 u1 u2 u3 u4' i1 i2 i3 i4 hle hle2
   go_wp2
   obtain ⟨i1,i2,i3,i4⟩:=HI.out; refine bodyPost_ret (v:=.agg #[.bool s5,.slice A5 l5 c5,.bool s7,.slice A7 l7 c7]) (by simp [results,Tryz.results69,go_sem,i1,i2,i3,i4]) rfl ?_; exact ⟨_,rfl,HF.out.1,HF.out.2⟩
 · have eb2 : b2 = false:=by rw [HD.out.2.2.2.1]; exact decide_eq_false hneg
   subst eb2; have HN:=Lib.hid hneg; clear hneg
   go_enter Tryz.func69,Tryz.ntmps69
   go_wp2_with fail
   rw [← HW0.out]; refine HGC.out.mono ?_; rintro e w1 ⟨v,rfl,⟨A3,l3,c3,rfl,r3,u3⟩,hb1⟩; have b01:=bstep (bal (Below.refl W0.heap.size W0) _) hb1; have hz1:=b01.size; have K1:=(b01.block (w.heap.size + 1) (by omega)).trans HK.out.2.1; have K0:=(b01.block w.heap.size (by omega)).trans HK.out.1; have K2:=(b01.block (w.heap.size + 1 + 1) (by omega)).trans HK.out.2.2; have HB1:=Lib.hid (HB0.out.trans (b01.mono (by omega))); obtain ⟨q1,q2,_,_⟩:=cell_of_two K1; obtain ⟨q3,q4,_,_⟩:=cell_of_two K0; have HK1:=Lib.hid (show _ ∧ _ ∧ _ from ⟨K0,K1,K2⟩); have hlt0 : w.heap.size < w1.heap.size:=by omega
   have hlt1 : w.heap.size + 1 < w1.heap.size:=by omega
   have hlt2 : w.heap.size + 1 + 1 < w1.heap.size:=by omega
   have HR3:=Lib.hid (show _ ∧ _ from ⟨r3,u3⟩); clear b01 hb1 hz1 K0 K1 K2 r3 u3
   obtain ⟨s3,hs3⟩ : ∃ s,s = decide (((zgcd [(n),(d)] : Nat) : Int) < 0):=⟨_,rfl⟩
   rw [← hs3]
   obtain ⟨W3,hW3⟩ : ∃ W,W = (w1.alloc (Obj.cells #[Value.bool s3,Value.slice A3 l3 c3] 24)).alloc (Obj.cells #[Value.bool false,Value.slice none 0 0,Value.bool false,Value.slice none 0 0] 72):=⟨_,rfl⟩
   have far : ∀ i,i < w1.heap.size → W3.heap[i]? = w1.heap[i]?:=fun i hi=>by
     rw [hW3,Below.heap_alloc _ _ _ (by simp; omega),Below.heap_alloc _ _ _ hi]
   have J0:=(far _ hlt0).trans HK1.out.1; have J1:=(far _ hlt1).trans HK1.out.2.1; have J2:=(far _ hlt2).trans HK1.out.2.2
   have J3 : W3.heap[w1.heap.size]? = some (Obj.cells #[Value.bool s3,Value.slice A3 l3 c3] 24):=by
     rw [hW3,Below.heap_alloc _ _ _ (by simp)]; exact heap_alloc_new _ _
   have J4 : W3.heap[w1.heap.size + 1]? = some (Obj.cells #[Value.bool false,Value.slice none 0 0,Value.bool false,Value.slice none 0 0] 72):=by
     rw [hW3]; exact new_at (by simp)
   have sz3 : W3.heap.size = w1.heap.size + 1 + 1:=by rw [hW3]; simp
   have b3 : Below w.heap.size w W3:=by
     rw [hW3]; exact bal (bal HB1.out _) _
   have r5 : Rr W3 (.slice A3 l3 c3) (((zgcd [(n),(d)] : Nat) : Int)).natAbs:=by rw [hW3]; exact (HR3.out.1.alloc _).alloc _
   obtain ⟨p1,p2,_,_⟩:=cell_of_two J0; obtain ⟨p3,p4,_,_⟩:=cell_of_two J3; rw [hW3] at p1 p2 p3 p4; have HT:=Lib.hid (show _ ∧ _ ∧ _ ∧ _ ∧ _ from ⟨J0,J1,J2,J3,J4⟩); have HS:=Lib.hid (show Zr W3 (.agg #[.bool s3,.slice A3 l3 c3]) k (sdiv n d) from ⟨A3,l3,c3,by rw [hs3,sdiv,if_neg (show ¬ d < 0 by have:=HN.out; omega)],by rw [sdiv,if_neg (show ¬ d < 0 by have:=HN.out; omega)]; exact r5,by rw [sdiv,if_neg (show ¬ d < 0 by have:=HN.out; omega)]; exact HR3.out.2⟩); have HB3:=Lib.hid b3; have HW3:=Lib.hid hW3; have hl3 : w1.heap.size + 1 < W3.heap.size:=by omega
   clear far J0 J1 J2 J3 J4 b3 r5 q3 q4 hW3 hs3
   go_wp2_with fail
   rw [← HW3.out]; refine (z_divMod (m:=k + 1) (HX1.out _ HB3.out).zd HS.out.zd (sdiv_ne HD.out.1) (by have:=HD.out.2.1; omega) (by omega) (by omega) (by have:=HD.out.2.2.1; omega)).mono ?_; rw [jq HD.out.1]; rintro e w4 ⟨vq,vr,rfl,⟨A5,l5,c5,rfl,r5,_⟩,⟨A6,l6,c6,rfl,_,_⟩,hb4⟩
   obtain ⟨s5,hs5⟩ : ∃ s,s = decide ((Rat.divInt n d).num < 0):=⟨_,rfl⟩
   rw [← hs5]; have hz4:=hb4.size; have L1:=(hb4.block (w.heap.size + 1) (by omega)).trans HT.out.2.1; have L2:=(hb4.block (w.heap.size + 1 + 1) (by omega)).trans HT.out.2.2.1; have L3:=(hb4.block w1.heap.size (by omega)).trans HT.out.2.2.2.1
   have L4 : Holds_ w4 (w1.heap.size + 1) #[Value.bool false,Value.slice none 0 0,Value.bool false,Value.slice none 0 0]:=⟨⟨_,(hb4.block (w1.heap.size + 1) (by omega)).trans HT.out.2.2.2.2⟩,by simp [noDig]⟩
   obtain ⟨y1,y2,y3,y4,y5,y6,y7,y8⟩:=L4.four; obtain ⟨st5,L5⟩:=ga L4 (noDig_bool s5) (noDig_slice A5 l5 c5)
   obtain ⟨W5,hW5⟩ : ∃ W,W = (w4.setCell ⟨w1.heap.size + 1,0,none⟩ (.bool s5)).setCell ⟨w1.heap.size + 1,1,none⟩ (.slice A5 l5 c5):=⟨_,rfl⟩
   rw [← hW5] at st5 L5; have b5 : Below w.heap.size w W5:=st5.below (HB3.out.trans (hb4.mono (by omega))) (by omega); have M1:=(st5.other (w.heap.size + 1) (by omega)).trans L1; have M2:=(st5.other (w.heap.size + 1 + 1) (by omega)).trans L2; have M3:=(st5.other w1.heap.size (by omega)).trans L3; have HS5:=Lib.hid ((HS.out.below hb4).stored st5); have R5:=Lib.hid (show _ ∧ _ from ⟨st5.rr r5,hs5⟩); obtain ⟨u1,u2,_,_⟩:=cell_of_two M1; obtain ⟨u3,u4',_,_⟩:=cell_of_two M3; rw [hW5] at u1 u2 u3 u4'; have HW5:=Lib.hid hW5; have HB5:=Lib.hid b5; have HM:=Lib.hid (show _ ∧ _ ∧ _ ∧ _ from ⟨M1,M2,M3,L5⟩); have hz5 : W5.heap.size = w4.heap.size:=st5.size; clear hb4 L1 L2 L3 L4 st5 L5 b5 M1 M2 M3 r5 hs5 hW5 p1 p2 p3 p4
   go_wp2_with fail
   rw [← HW5.out]; refine (z_divMod (m:=k + 1) (HX2.out _ HB5.out).zd HS5.out.zd (sdiv_ne HD.out.1) (by have:=HD.out.2.1; omega) (by omega) (by omega) (by have:=HD.out.2.2.1; omega)).mono ?_; rw [jr HD.out.1]; rintro e w6 ⟨vq,vr,rfl,⟨A7,l7,c7,rfl,r7,_⟩,⟨A8,l8,c8,rfl,_,_⟩,hb6⟩
   obtain ⟨s7,hs7⟩ : ∃ s,s = decide (((Rat.divInt n d).den : Int) < 0):=⟨_,rfl⟩
   rw [← hs7]; have hz6:=hb6.size
   have N2 : Holds_ w6 (w.heap.size + 1 + 1) #[Value.bool false,Value.slice none 0 0,Value.bool false,Value.slice none 0 0]:=⟨⟨_,(hb6.block (w.heap.size + 1 + 1) (by omega)).trans HM.out.2.1⟩,by simp [noDig]⟩
   have N4:=HM.out.2.2.2.step hb6; obtain ⟨y1,y2,y3,y4,y5,y6,y7,y8⟩:=N4.four; obtain ⟨st7,L7⟩:=gb N4 (noDig_bool s7) (noDig_slice A7 l7 c7)
   obtain ⟨W7,hW7⟩ : ∃ W,W = (w6.setCell ⟨w1.heap.size + 1,2,none⟩ (.bool s7)).setCell ⟨w1.heap.size + 1,3,none⟩ (.slice A7 l7 c7):=⟨_,rfl⟩
   rw [← hW7] at st7 L7; have N7:=N2.stored st7 (by omega); have st8:=bu N7 (noDig_bool s5) (noDig_slice A5 l5 c5) (noDig_bool s7) (noDig_slice A7 l7 c7); have N8:=cd N7 (noDig_bool s5) (noDig_slice A5 l5 c5) (noDig_bool s7) (noDig_slice A7 l7 c7); have b8:=st8.below (st7.below (HB5.out.trans (hb6.mono (by omega))) (by omega)) (show w.heap.size ≤ w.heap.size + 1 + 1 by omega); have hle:=fj n d; have hle2:=fk (n:=n) HD.out.1
   have P8 : Pr (put4 W7 (w.heap.size + 1 + 1) (.bool s5) (.slice A5 l5 c5) (.bool s7) (.slice A7 l7 c7)) (.agg #[.bool s5,.slice A5 l5 c5,.bool s7,.slice A7 l7 c7]) k (Rat.divInt n d).num ((Rat.divInt n d).den : Int) :=
     ⟨A5,l5,c5,A7,l7,c7,by rw [R5.out.2,hs7],⟨st8.rr (st7.rr (R5.out.1.below hb6)),Nat.lt_of_le_of_lt hle HD.out.2.2.2.2.1⟩,st8.rr (st7.rr r7),Nat.lt_of_le_of_lt (by rw [Int.natAbs_natCast]; exact hle2) HD.out.2.2.2.2.2⟩
   obtain ⟨f1,f2,f3,f4,_,_,_,_⟩:=L7.four; obtain ⟨g1,g2,g3,g4,g5,g6,g7,g8⟩:=N7.four; obtain ⟨i1,i2,i3,i4,_,_,_,_⟩:=N8.four; have HF:=Lib.hid (show _ ∧ _ from ⟨P8,b8⟩); rw [hW7] at f1 f2 f3 f4 g1 g2 g3 g4 g5 g6 g7 g8 i1 i2 i3 i4 HF; unfold put4 at i1 i2 i3 i4; have HI:=Lib.hid (show _ ∧ _ ∧ _ ∧ _ from ⟨i1,i2,i3,i4⟩); clear hb6 N2 N4 st7 L7 N7 st8 N8 b8 P8 r7 hs7 hW7 u1 u2 u3 u4' i1 i2 i3 i4 hle hle2
   go_wp2
   obtain ⟨i1,i2,i3,i4⟩:=HI.out; refine bodyPost_ret (v:=.agg #[.bool s5,.slice A5 l5 c5,.bool s7,.slice A7 l7 c7]) (by simp [results,Tryz.results69,go_sem,i1,i2,i3,i4]) rfl ?_; exact ⟨_,rfl,HF.out.1,HF.out.2⟩
theorem Zr.op {w : World} {v : Value} {k : Nat} {z : Int} (h : Zr w v k z) : ∃ a b,v = .agg #[a,b] ∧ Hid (∀ (W : World) (g : Nat) (T : TypeId),Below w.heap.size w W → W.heap[g]? = some (.cells #[a,b] T (0,0)) → AtR W g 0 k z):=by
 obtain ⟨A1,l1,c1,rfl,r1,u1⟩:=h
 refine ⟨_,_,rfl,Lib.hid fun W g T bb K=>?_⟩
 obtain ⟨m1,n1,_,_⟩:=cell_of_two K
 exact ⟨A1,l1,c1,m1,n1,A1,l1,c1,rfl,r1.below bb,u1⟩
theorem Pr.op {w : World} {v : Value} {k : Nat} {x y : Int} (h : Pr w v k x y) : ∃ a b c d,v = .agg #[a,b,c,d] ∧ Hid (∀ (W : World) (g : Nat) (T : TypeId),Below w.heap.size w W → W.heap[g]? = some (.cells #[a,b,c,d] T (0,0)) → AtR W g 0 k x ∧ AtR W g 2 k y):=by
 obtain ⟨A1,l1,c1,A2,l2,c2,rfl,⟨r1,u1⟩,r2,u2⟩:=h
 refine ⟨_,_,_,_,rfl,Lib.hid fun W g T bb K=>?_⟩
 obtain ⟨m1,n1,m2,n2,_,_,_,_⟩:=bz K
 exact ⟨⟨A1,l1,c1,m1,n1,A1,l1,c1,rfl,r1.below bb,u1⟩,A2,l2,c2,m2,n2,A2,l2,c2,rfl,r2.below bb,u2⟩
theorem kg {W : World} {g : Nat} {T : TypeId} (K : W.heap[g]? = some (.cells #[.bool false,.slice none 0 0,.bool false,.slice none 0 0] T (0,0))) : Holds_ W g #[.bool false,.slice none 0 0,.bool false,.slice none 0 0]:=⟨⟨_,K⟩,by simp [noDig]⟩
theorem lc {W : World} {g : Nat} {T : TypeId} (K : W.heap[g]? = some (.cells #[.bool false,.slice none 0 0] T (0,0))) : Holds_ W g #[.bool false,.slice none 0 0]:=⟨⟨_,K⟩,by simp [noDig]⟩
def Ro (W : World) (B : Nat) (v : Value) (n : Nat) : Prop:=Rr W v n ∧ IsNat W B v n
theorem Ro.below {W W' : World} {B n : Nat} {v : Value} (h : Ro W B v n) (hb : Below W.heap.size W W') : Ro W' B v n:=⟨h.1.below hb,h.2.below hb⟩
theorem Ro.alloc {W : World} {B n : Nat} {v : Value} (h : Ro W B v n) (o : Obj) : Ro (W.alloc o) B v n:=⟨h.1.alloc o,h.2.alloc o⟩
theorem Ro.mono {W : World} {B B' n : Nat} {v : Value} (h : Ro W B v n) (hB : B' ≤ B) : Ro W B' v n:=⟨h.1,h.2.mono hB⟩
theorem Ro.stored {W W' : World} {B n g : Nat} {v : Value} (h : Ro W B v n) (hs : Stored g W W') : Ro W' B v n:=⟨hs.rr h.1,h.2.stored hs⟩
theorem ro_of {W : World} {B n N : Nat} {v : Value} (h : IsNat W B v n) (hn : n < 1000000000 ^ N) (hN : N ≤ 4000) : Ro W B v n:=⟨fe h hn hN,h⟩
theorem Reg.ro {B B' : Nat} {W0 w : World} {G : List Nat} (h : Reg B W0 G w) (hG : ∀ g ∈ G,g < B') {v : Value} {n : Nat} (hr : Ro W0 B' v n) : Ro w B' v n:=by
 refine ⟨h.rr hr.1,?_⟩
 obtain ⟨rs,h1,h2,h3⟩:=hr.2
 refine ⟨rs,h1,h2,?_⟩
 have hh : W0.ownsRow B' 88 1 v (u32s rs).length (u32s rs):=h3
 refine ⟨hh.1,?_⟩
 rcases hh.2 with h4 | ⟨g,cap,cur,e,hb,hq,h5⟩
 · exact .inl h4
 · refine .inr ⟨g,cap,cur,e,hb,?_,h5⟩; rw [h.old g (lt_block hq) (fun hg=>by have:=hG g hg; omega)]; exact hq
def RetNumO (w : World) (B n : Nat) (b : Bool) (e : Ending) (w' : World) : Prop:=∃ A k c,e = .returned (.agg #[.slice A k c,.bool b]) ∧ Ro w' B (.slice A k c) n ∧ (n = 0 → b = false) ∧ Below w.heap.size w w'
def RetIntO (w : World) (B n : Nat) (b : Bool) (e : Ending) (w' : World) : Prop:=∃ A k c,e = .returned (.agg #[.bool b,.slice A k c]) ∧ Ro w' B (.slice A k c) n ∧ (n = 0 → b = false) ∧ Below w.heap.size w w'
def NumO (W : World) (B : Nat) (v : Value) (n : Nat) (b : Bool) : Prop:=∃ A k c,v = .agg #[.slice A k c,.bool b] ∧ Ro W B (.slice A k c) n ∧ (n = 0 → b = false)
theorem NumO.below {W w' : World} {B n : Nat} {v : Value} {b : Bool} (h : NumO W B v n b) (hb : Below W.heap.size W w') : NumO w' B v n b:=by
 obtain ⟨A,k,c,h1,h2,h3⟩:=h
 exact ⟨A,k,c,h1,h2.below hb,h3⟩
theorem NumO.stored {W w' : World} {B n g : Nat} {v : Value} {b : Bool} (h : NumO W B v n b) (hs : Stored g W w') : NumO w' B v n b:=by
 obtain ⟨A,k,c,h1,h2,h3⟩:=h
 exact ⟨A,k,c,h1,h2.stored hs,h3⟩
theorem NumO.num {W : World} {B n : Nat} {v : Value} {b : Bool} (h : NumO W B v n b) : Num W v n b:=by
 obtain ⟨A,k,c,h1,h2,h3⟩:=h
 exact ⟨A,k,c,h1,h2.1,h3⟩
def kNumO (B n : Nat) (b : Bool) : PK:=.p (fun v w=>NumO w B v n b) (fun _ _ _ h hb=>h.below hb) (fun _ _ _ _ h hs=>h.stored hs)
def kRoO (B n : Nat) : PK:=.p (fun v w=>∃ A k c,v = .slice A k c ∧ Ro w B (.slice A k c) n) (fun _ _ _ ⟨A,k,c,e,h⟩ hb=>⟨A,k,c,e,h.below hb⟩) (fun _ _ _ _ ⟨A,k,c,e,h⟩ hs=>⟨A,k,c,e,h.stored hs⟩)
def isNumO (B n : Nat) (b : Bool) (cs : Array Value) (w : World) : Prop:=∃ A k c,cs = #[.slice A k c,.bool b] ∧ Ro w B (.slice A k c) n ∧ (n = 0 → b = false)
def kCellNumO (B g n : Nat) (b : Bool) : PK:=.cell g (isNumO B n b) (fun _ _ _ ⟨A,k,c,h1,h2,h3⟩ hb=>⟨A,k,c,h1,h2.below hb,h3⟩) (fun _ _ _ _ ⟨A,k,c,h1,h2,h3⟩ hs=>⟨A,k,c,h1,h2.stored hs,h3⟩)
theorem signed_o {w : World} {B : Nat} {A : Option Addr} {k c n : Nat} (b : Bool) (h : Ro w B (.slice A k c) n) :
   Calls Tryz.prog 102 #[.slice A k c,.bool b] w (RetNumO w B n (sgn n b)):=by
 obtain ⟨hk,_⟩:=rr_len h.1
 have HH:=Lib.hid h
 unfold sgn
 cases b
 · clear h hk
   go_enter Tryz.func102,Tryz.ntmps102
   go_wp2_with (go_at_call 116; refine (sizeNone_any _ _ _ _).mono ?_; rintro e w' ⟨rfl,rfl⟩)
   refine bodyPost_ret (v:=.agg #[.slice A k c,.bool false]) (by simp [results,Tryz.results102,go_sem]) rfl ?_; exact ⟨A,k,c,rfl,HH.out.alloc _,fun _=>rfl,(Below.refl _ _).alloc (Nat.le_refl _) _⟩
 · by_cases hn : n = 0
   · have hk0 : ((k : Int) == 0) = true:=by rw [hk.2 hn]; rfl
     have HN:=Lib.hid hn; clear h hk hn
     go_enter Tryz.func102,Tryz.ntmps102
     go_wp2_with (go_at_call 116; refine (sizeNone_any _ _ _ _).mono ?_; rintro e w' ⟨rfl,rfl⟩)
     refine bodyPost_ret (v:=.agg #[.slice A k c,.bool false]) (by simp [results,Tryz.results102,go_sem]) rfl ?_; rw [decide_eq_false (fun h=>h HN.out)]; exact ⟨A,k,c,rfl,HH.out.alloc _,fun _=>rfl,(Below.refl _ _).alloc (Nat.le_refl _) _⟩
   · have hk0 : ((k : Int) == 0) = false:=by
       rw [beq_eq_false_iff_ne]; intro h1; exact hn (hk.1 (by omega))
     have HN:=Lib.hid hn; clear h hk hn
     go_enter Tryz.func102,Tryz.ntmps102
     go_wp2_with (go_at_call 116; refine (sizeNone_any _ _ _ _).mono ?_; rintro e w' ⟨rfl,rfl⟩)
     refine bodyPost_ret (v:=.agg #[.slice A k c,.bool true]) (by simp [results,Tryz.results102,go_sem]) rfl ?_; rw [decide_eq_true (show n ≠ 0 from HN.out)]; exact ⟨A,k,c,rfl,HH.out.alloc _,fun h=>absurd h HN.out,(Below.refl _ _).alloc (Nat.le_refl _) _⟩
theorem told_o {w : World} {B : Nat} {A : Option Addr} {k c n : Nat} {b : Bool} (h : Ro w B (.slice A k c) n) (hb : n = 0 → b = false) :
   Calls Tryz.prog 92 #[.agg #[.slice A k c,.bool b]] w (RetIntO w B n b):=by
 have HH:=Lib.hid h
 have HB:=Lib.hid hb
 clear h hb
 go_enter Tryz.func92,Tryz.ntmps92
 go_wp2
 refine bodyPost_ret (v:=.agg #[.bool b,.slice A k c]) (by simp [results,Tryz.results92,go_sem]) rfl ?_
 exact ⟨A,k,c,rfl,(HH.out.alloc _).alloc _,HB.out,bal (bal (Below.refl _ _) _) _⟩
theorem add2_o {W : World} {v1 v2 : Value} {n1 n2 N : Nat} (h1 : Rd W v1 n1) (h2 : Rd W v2 n2) (hn : n1 + n2 < 1000000000 ^ N) (hN : N ≤ 4000) :
   Calls Tryz.prog 149 #[.slice (some ⟨W.heap.size,0,none⟩) 2 2] (W.alloc (.cells #[v1,v2] 22)) fun e w'=>∃ A k c,e = .returned (.slice A k c) ∧ Ro w' W.heap.size (.slice A k c) (n1 + n2) ∧ Below W.heap.size W w':=by
 obtain ⟨L,hl,hL,hv⟩:=rows_of2 h1 h2 22
 have h:=add_any (N:=N) (c:=2) hL (fun k hk=>by
   rw [hv]; rw [hl] at hk
   match k,hk with
   | 0,_=>simp; omega
   | 1,_=>simp; omega
   | k + 2,hk=>simp; exact hn) (by omega) (by omega)
 rw [hl,hv] at h
 have e : [n1,n2].foldl (fun a b=>a + b) 0 = n1 + n2:=by simp
 rw [e] at h
 refine h.mono fun _ _ ⟨v,he,hi,hb⟩=>?_
 have hr:=(ro_of hi hn hN).mono (B':=W.heap.size) (by simp)
 obtain ⟨A,k,c,rfl⟩:=hr.1.shape
 exact ⟨A,k,c,he,hr,bstep (bal (Below.refl _ _) _) hb⟩
theorem joined_o {w : World} {A1 A2 : Option Addr} {k1 c1 k2 c2 n1 n2 N : Nat} (h1 : Rd w (.slice A1 k1 c1) n1) (h2 : Rd w (.slice A2 k2 c2) n2) (hn : n1 + n2 < 1000000000 ^ N) (hN : N ≤ 4000) :
   Calls Tryz.prog 130 #[.slice A1 k1 c1,.slice A2 k2 c2] w fun e w'=>∃ A k c,e = .returned (.slice A k c) ∧ Ro w' w.heap.size (.slice A k c) (n1 + n2) ∧ Below w.heap.size w w':=by
 have ha:=add2_o h1 h2 hn hN
 have HA:=Lib.hid ha
 clear ha h1 h2 hn
 go_enter Tryz.func130,Tryz.ntmps130
 go_wp2_with fail
 refine HA.out.mono ?_
 rintro e w1 ⟨A,k,c,rfl,hr,hb⟩
 go_wp2
 go_ret
 exact ⟨A,k,c,rfl,hr,hb⟩
theorem div_o {W : World} {v1 v2 : Value} {n1 n2 N : Nat} (h1 : Rd W v1 n1) (h2 : Rd W v2 n2) (h0 : 0 < n2) (hn : n1 < 1000000000 ^ N) (hN : N ≤ 4000) :
   Calls Tryz.prog 155 #[v1,v2] W fun e w'=>∃ A k c B j d,e = .returned (.tuple #[.slice A k c,.slice B j d,.bool true]) ∧ Ro w' W.heap.size (.slice A k c) (n1 / n2) ∧ Rr w' (.slice B j d) (n1 % n2) ∧ Below W.heap.size W w':=by
 obtain ⟨A1,c1,xs,rfl,r1,p1,l1,e1⟩:=h1
 obtain ⟨A2,c2,ys,rfl,r2,p2,l2,e2⟩:=h2
 have:=divMod_all (c1:=c1) (c2:=c2) r1 r2 p1 p2 (by omega) (by omega) (by rw [e2]; exact h0)
 rw [e1,e2] at this
 refine this.mono fun _ _ ⟨v,u,he,hv,hu,hb⟩=>?_
 have hr:=ro_of hv (Nat.lt_of_le_of_lt (Nat.div_le_self _ _) hn) hN
 have hs:=fe hu (Nat.lt_of_le_of_lt (Nat.mod_le _ _) hn) hN
 obtain ⟨A,k,c,rfl⟩:=hr.1.shape
 obtain ⟨B,j,d,rfl⟩:=hs.shape
 exact ⟨A,k,c,B,j,d,he,hr,hs,hb⟩
theorem split_o {w : World} {A1 A2 : Option Addr} {k1 c1 k2 c2 n1 n2 N : Nat} (h1 : Rd w (.slice A1 k1 c1) n1) (h2 : Rd w (.slice A2 k2 c2) n2) (h0 : 0 < n2) (hn : n1 < 1000000000 ^ N) (hN : N ≤ 4000) :
   Calls Tryz.prog 138 #[.slice A1 k1 c1,.slice A2 k2 c2] w fun e w'=>∃ A k c B j d,e = .returned (.tuple #[.slice A k c,.slice B j d]) ∧ Ro w' w.heap.size (.slice A k c) (n1 / n2) ∧ Rr w' (.slice B j d) (n1 % n2) ∧ Below w.heap.size w w':=by
 have hd:=div_o h1 h2 h0 hn hN
 have HD:=Lib.hid hd
 clear hd h1 h2 h0 hn
 go_enter Tryz.func138,Tryz.ntmps138
 go_wp2_with fail
 refine HD.out.mono ?_
 rintro e w1 ⟨A,k,c,B,j,d,rfl,hr,hs,hb⟩
 go_wp2
 go_ret2
 exact ⟨A,k,c,B,j,d,rfl,hr,hs,hb⟩
end Go.Proofs.YtifgcjpgelbelaaGreatDoor
set_option linter.unusedVariables false
set_option linter.unusedSimpArgs false
namespace Go.Proofs.YtifgcjpgelbelaaGreatDoor
open Go.RowKit
def RetNum2O (w : World) (n : Nat) (b : Bool) (m : Nat) (c : Bool) (e : Ending) (w' : World) : Prop:=∃ x y,e = .returned (.tuple #[x,y]) ∧ NumO w' w.heap.size x n b ∧ Num w' y m c ∧ Below w.heap.size w w'
theorem NumO.mono {W : World} {B B' n : Nat} {v : Value} {b : Bool} (h : NumO W B v n b) (hB : B' ≤ B) : NumO W B' v n b:=by
 obtain ⟨A,k,c,h1,h2,h3⟩:=h
 exact ⟨A,k,c,h1,h2.mono hB,h3⟩
def IntO (W : World) (B : Nat) (v : Value) (n : Nat) (b : Bool) : Prop:=∃ A k c,v = .agg #[.bool b,.slice A k c] ∧ Ro W B (.slice A k c) n ∧ (n = 0 → b = false)
theorem IntO.below {W w' : World} {B n : Nat} {v : Value} {b : Bool} (h : IntO W B v n b) (hb : Below W.heap.size W w') : IntO w' B v n b:=by
 obtain ⟨A,k,c,h1,h2,h3⟩:=h
 exact ⟨A,k,c,h1,h2.below hb,h3⟩
theorem IntO.stored {W w' : World} {B n g : Nat} {v : Value} {b : Bool} (h : IntO W B v n b) (hs : Stored g W w') : IntO w' B v n b:=by
 obtain ⟨A,k,c,h1,h2,h3⟩:=h
 exact ⟨A,k,c,h1,h2.stored hs,h3⟩
def kIntO (B n : Nat) (b : Bool) : PK:=.p (fun v w=>IntO w B v n b) (fun _ _ _ h hb=>h.below hb) (fun _ _ _ _ h hs=>h.stored hs)
def kNum2O (B n : Nat) (b : Bool) (m : Nat) (c : Bool) : PK:=.p (fun v w=>∃ x y,v = .tuple #[x,y] ∧ NumO w B x n b ∧ Num w y m c) (fun _ _ _ ⟨x,y,e,h,h'⟩ hb=>⟨x,y,e,h.below hb,h'.below hb⟩) (fun _ _ _ _ ⟨x,y,e,h,h'⟩ hs=>⟨x,y,e,h.stored hs,h'.stored hs⟩)
def isIntO (B n : Nat) (b : Bool) (cs : Array Value) (w : World) : Prop:=∃ A k c,cs = #[.bool b,.slice A k c] ∧ Ro w B (.slice A k c) n ∧ (n = 0 → b = false)
def kCellIntO (B g n : Nat) (b : Bool) : PK:=.cell g (isIntO B n b) (fun _ _ _ ⟨A,k,c,h1,h2,h3⟩ hb=>⟨A,k,c,h1,h2.below hb,h3⟩) (fun _ _ _ _ ⟨A,k,c,h1,h2,h3⟩ hs=>⟨A,k,c,h1,h2.stored hs,h3⟩)
def kPutNumO (B e n : Nat) (b : Bool) : PK:=.put e (isNumO B n b) (fun _ _ _ ⟨A,k,c,h1,h2,h3⟩ hb=>⟨A,k,c,h1,h2.below hb,h3⟩) (fun _ _ _ _ ⟨A,k,c,h1,h2,h3⟩ hs=>⟨A,k,c,h1,h2.stored hs,h3⟩)
def RetInt2O (w : World) (n : Nat) (b : Bool) (m : Nat) (c : Bool) (e : Ending) (w' : World) : Prop:=∃ x y,e = .returned (.tuple #[x,y,.int .i64 0]) ∧ IntO w' w.heap.size x n b ∧ Int_ w' y m c ∧ Below w.heap.size w w'
theorem divide_o {w : World} {A1 A2 : Option Addr} {k1 c1 k2 c2 n1 n2 N : Nat} (b1 b2 : Bool) (h1 : Rr w (.slice A1 k1 c1) n1) (h2 : Rr w (.slice A2 k2 c2) n2) (h0 : 0 < n2) (hn1 : n1 < 1000000000 ^ N) (hn2 : n2 < 1000000000 ^ N) (hN : N ≤ 3999) :
   Calls Tryz.prog 117 #[.agg #[.slice A1 k1 c1,.bool b1],.agg #[.slice A2 k2 c2,.bool b2]] w (RetNum2O w (divQ n1 b1 n2 b2) (sgn (divQ n1 b1 n2 b2) (b1 != b2)) (divR n1 b1 n2 b2) (sgn (divR n1 b1 n2 b2) b2)):=by
 have hsp:=fun (W : World) (hW : Below w.heap.size w W)=>split_o (h1.rd.below hW) (h2.rd.below hW) h0 hn1 (show N ≤ 4000 by omega)
 have HSP:=Lib.hid hsp
 have H2:=Lib.hid h2
 have hq : n1 / n2 < 1000000000 ^ N:=Nat.lt_of_le_of_lt (Nat.div_le_self _ _) hn1
 have HB:=Lib.hid (show n2 < 1000000000 ^ N ∧ n1 % n2 < 1000000000 ^ N ∧ n1 / n2 + 1 < 1000000000 ^ (N + 1) ∧ n1 % n2 < n2 from ⟨hn2,Nat.lt_of_le_of_lt (Nat.mod_le _ _) hn1,by
   rw [Nat.pow_succ]; have : 0 < 1000000000 ^ N:=Nat.pow_pos (by decide)
   omega,Nat.mod_lt _ h0⟩)
 obtain ⟨Q,hQ⟩ : ∃ Q,Q = divQ n1 b1 n2 b2:=⟨_,rfl⟩
 obtain ⟨R,hR⟩ : ∃ R,R = divR n1 b1 n2 b2:=⟨_,rfl⟩
 obtain ⟨sx,hsx⟩ : ∃ sx,sx = (b1 != b2):=⟨_,rfl⟩
 rw [← hQ,← hR,← hsx]
 have HSX:=Lib.hid hsx
 have HQ:=Lib.hid hQ
 have HR:=Lib.hid hR
 have HN:=Lib.hid hN
 clear hsp h1 h2 h0 hn1 hn2 hq hQ hR hN hsx
 go_enter Tryz.func117,Tryz.ntmps117
 go_wp2_with fail
 obtain ⟨W,hW⟩ : ∃ W,W = (((w.alloc (Obj.cells #[Value.slice A1 k1 c1,Value.bool b1] 91)).alloc (Obj.cells #[Value.slice A2 k2 c2,Value.bool b2] 91)).alloc (Obj.cells #[Value.slice none 0 0,Value.bool false] 91)).alloc (Obj.cells #[Value.slice none 0 0,Value.bool false] 91):=⟨_,rfl⟩
 obtain ⟨bW,sW,K1,K2,K3,K4⟩:=gz hW
 rw [← hW]
 clear hW
 refine (HSP.out _ bW).mono ?_
 rintro e w1 ⟨Aq,kq,cq,Ar,kr,cr,rfl,hq,hr,hb⟩
 have hk:=(rr_len hr).1
 have hz:=hb.size
 have bw1:=bstep bW hb
 have J1:=(hb.block w.heap.size (by omega)).trans K1
 have J2:=(hb.block (w.heap.size + 1) (by omega)).trans K2
 have J3 : Holds_ w1 (w.heap.size + 1 + 1) #[Value.slice none 0 0,Value.bool false]:=⟨⟨_,(hb.block (w.heap.size + 1 + 1) (by omega)).trans K3⟩,by simp [noDig]⟩
 have J4 : Holds_ w1 (w.heap.size + 1 + 1 + 1) #[Value.slice none 0 0,Value.bool false]:=⟨⟨_,(hb.block (w.heap.size + 1 + 1 + 1) (by omega)).trans K4⟩,by simp [noDig]⟩
 have hlt : w.heap.size + 1 < w1.heap.size:=by omega
 obtain ⟨p1,p2,p3,p4⟩:=cell_of_two J1
 obtain ⟨q1,q2,q3,q4⟩:=cell_of_two J2
 have hq:=hq.mono (show w.heap.size + 4 ≤ W.heap.size by omega)
 have h40 : w.heap.size + 4 ≤ w1.heap.size:=by omega
 clear K1 K2 K3 K4 hb bW J1 J2 hz sW
 have hd1 : (w.heap.size + 1 + 1) ≠ (w.heap.size + 1 + 1 + 1):=by omega
 by_cases hc : (b1 == b2) = true ∨ n1 % n2 = 0
 · have eQ : Q = n1 / n2:=by rw [HQ.out]; exact if_pos hc
   have eR : R = n1 % n2:=by rw [HR.out]; exact if_pos hc
   clear HQ HR; subst eQ; subst eR
   by_cases he : b1 = b2
   · subst he; have esx : sx = false:=by rw [HSX.out]; simp
     clear HSX; subst esx; clear hc hk
     go_wp2_with fail
     refine az (w.heap.size) [kIs (.slice Aq kq cq),kIs (.pointer (some ⟨w.heap.size,1,none⟩)),kIs (.bool b1),kIs (.pointer (some ⟨w.heap.size + 1,1,none⟩)),kIs (.bool b1),kIs (.bool false),kNumO (w.heap.size + 4) (n1 / n2) (sgn (n1 / n2) false),kIs (.slice Ar kr cr),kIs (.pointer (some ⟨w.heap.size + 1,1,none⟩)),kIs (.bool b1),kNum (n1 % n2) (sgn (n1 % n2) b1),kCellNumO (w.heap.size + 4) (w.heap.size + 1 + 1) (n1 / n2) (sgn (n1 / n2) false),kCellNum (w.heap.size + 1 + 1 + 1) (n1 % n2) (sgn (n1 % n2) b1)] [ [],[],[(1,some 28)],[],[(3,some 30)],[(2,some 29),(4,some 31)],[(0,some 27),(5,some 32)],[],[],[(8,some 35)],[(7,some 34),(9,some 36)],[(6,some 33)],[(10,some 37)] ] [(0,some 27),(1,some 28),(2,some 29),(3,some 30),(4,some 31),(5,some 32),(6,some 33),(7,some 34),(8,some 35),(9,some 36),(10,some 37),(11,none),(12,none)] [] [] ?n1 ?n2 ?n3 ?n4 ?st ?en
     case n1=>show List.Nodup ([(w.heap.size + 1 + 1),(w.heap.size + 1 + 1 + 1)] : List Nat); simp
     case n2=>show ∀ g ∈ ([(w.heap.size + 1 + 1),(w.heap.size + 1 + 1 + 1)] : List Nat),_; intro g hg; simp only [List.mem_cons,List.not_mem_nil,or_false] at hg; omega
     case n3=>omega
     case n4 =>
       show ∀ g ∈ ([(w.heap.size + 1 + 1),(w.heap.size + 1 + 1 + 1)] : List Nat),∃ cs,Holds_ _ g cs
       intro g hg; simp only [List.mem_cons,List.not_mem_nil,or_false] at hg; rcases hg with rfl | rfl
       · exact ⟨_,J3⟩
       · exact ⟨_,J4⟩
     case st =>
       refine aa rfl rfl ?_ ?_
       · intro wr x hC; simp only [deps,at_,List.getD_cons_zero,PK.sem,PK.move,kIs,kNumO,kCellNumO,kRoO,kNum2O,kPutNumO,kIntO,kCellIntO]; intro K hK; simp only [putE,retOf]
         go_simp
         exact hK _ _ (Below.refl _ _) rfl
       refine aa rfl rfl ?_ ?_
       · intro wr x hC; simp only [deps,at_,List.getD_cons_zero,List.getD_cons_succ,PK.sem,PK.move,kIs,kNumO,kCellNumO,kRoO,kNum2O,kPutNumO,kIntO,kCellIntO]; intro K hK; simp only [putE,retOf]
         go_simp
         exact hK _ _ (Below.refl _ _) rfl
       refine aa rfl rfl ?_ ?_
       · intro wr x hC; simp only [deps,at_,List.getD_cons_zero,List.getD_cons_succ,PK.sem,PK.move,kIs,kNumO,kCellNumO,kRoO,kNum2O,kPutNumO,kIntO,kCellIntO]; intro h0; intro K hK; have hce1:=(hC.cell (b:=w.heap.size) (by omega) (show _ ∉ ([(w.heap.size + 1 + 1),(w.heap.size + 1 + 1 + 1)] : List Nat) by simp <;> omega) 1).1.trans p2; simp only [putE,retOf,h0]
         go_simp
         exact hK _ _ (Below.refl _ _) rfl
       refine aa rfl rfl ?_ ?_
       · intro wr x hC; simp only [deps,at_,List.getD_cons_zero,List.getD_cons_succ,PK.sem,PK.move,kIs,kNumO,kCellNumO,kRoO,kNum2O,kPutNumO,kIntO,kCellIntO]; intro K hK; simp only [putE,retOf]
         go_simp
         exact hK _ _ (Below.refl _ _) rfl
       refine aa rfl rfl ?_ ?_
       · intro wr x hC; simp only [deps,at_,List.getD_cons_zero,List.getD_cons_succ,PK.sem,PK.move,kIs,kNumO,kCellNumO,kRoO,kNum2O,kPutNumO,kIntO,kCellIntO]; intro h0; intro K hK; have hce1:=(hC.cell (b:=w.heap.size + 1) (by omega) (show _ ∉ ([(w.heap.size + 1 + 1),(w.heap.size + 1 + 1 + 1)] : List Nat) by simp <;> omega) 1).1.trans q2; simp only [putE,retOf,h0]
         go_simp
         exact hK _ _ (Below.refl _ _) rfl
       refine aa rfl rfl ?_ ?_
       · intro wr x hC; simp only [deps,at_,List.getD_cons_zero,List.getD_cons_succ,PK.sem,PK.move,kIs,kNumO,kCellNumO,kRoO,kNum2O,kPutNumO,kIntO,kCellIntO]; intro h0 h1; intro K hK; simp only [putE,retOf,h0,h1]
         go_simp
         exact hK _ _ (Below.refl _ _) rfl
       refine aa rfl rfl ?_ ?_
       · intro wr x hC; simp only [deps,at_,List.getD_cons_zero,List.getD_cons_succ,PK.sem,PK.move,kIs,kNum,kNumO,kCellNumO,kRoO,kNum2O,kPutNumO,kIntO,kCellIntO]; intro hA hB; intro K hK; simp only [putE,retOf,hA,hB]
         go_simp
         refine (signed_o false (hC.ro (show ∀ g ∈ ([(w.heap.size + 1 + 1),(w.heap.size + 1 + 1 + 1)] : List Nat),g < w.heap.size + 4 from fun g hg=>by simp only [List.mem_cons,List.not_mem_nil,or_false] at hg; omega) hq)).mono ?_; rintro e w2 ⟨A2,k2,c2,rfl,h1,h2,h3⟩
         go_simp
         exact hK _ _ h3 ⟨A2,k2,c2,rfl,h1,h2⟩
       refine aa rfl rfl ?_ ?_
       · intro wr x hC; simp only [deps,at_,List.getD_cons_zero,List.getD_cons_succ,PK.sem,PK.move,kIs,kNumO,kCellNumO,kRoO,kNum2O,kPutNumO,kIntO,kCellIntO]; intro K hK; simp only [putE,retOf]
         go_simp
         exact hK _ _ (Below.refl _ _) rfl
       refine aa rfl rfl ?_ ?_
       · intro wr x hC; simp only [deps,at_,List.getD_cons_zero,List.getD_cons_succ,PK.sem,PK.move,kIs,kNumO,kCellNumO,kRoO,kNum2O,kPutNumO,kIntO,kCellIntO]; intro K hK; simp only [putE,retOf]
         go_simp
         exact hK _ _ (Below.refl _ _) rfl
       refine aa rfl rfl ?_ ?_
       · intro wr x hC; simp only [deps,at_,List.getD_cons_zero,List.getD_cons_succ,PK.sem,PK.move,kIs,kNumO,kCellNumO,kRoO,kNum2O,kPutNumO,kIntO,kCellIntO]; intro h0; intro K hK; have hce1:=(hC.cell (b:=w.heap.size + 1) (by omega) (show _ ∉ ([(w.heap.size + 1 + 1),(w.heap.size + 1 + 1 + 1)] : List Nat) by simp <;> omega) 1).1.trans q2; simp only [putE,retOf,h0]
         go_simp
         exact hK _ _ (Below.refl _ _) rfl
       refine aa rfl rfl ?_ ?_
       · intro wr x hC; simp only [deps,at_,List.getD_cons_zero,List.getD_cons_succ,PK.sem,PK.move,kIs,kNum,kNumO,kCellNumO,kRoO,kNum2O,kPutNumO,kIntO,kCellIntO]; intro hA hB; intro K hK; simp only [putE,retOf,hA,hB]
         go_simp
         refine (signed_s b1 (hC.rr hr)).mono ?_; rintro e w2 ⟨A2,k2,c2,rfl,h1,h2,h3⟩
         go_simp
         exact hK _ _ h3 ⟨A2,k2,c2,rfl,h1,h2⟩
       refine aa rfl rfl ?_ ?_
       · intro wr x hC; simp only [deps,at_,List.getD_cons_zero,List.getD_cons_succ,PK.sem,PK.move,kCellNum,kNum,kNumO,kCellNumO,kRoO,kNum2O,kPutNumO,kIntO,kCellIntO]; intro hA; intro K hK; obtain ⟨A,k,c,hx,hr1,hr2⟩:=hA; obtain ⟨u0,v0,hg⟩:=hC.two (show _ ∈ ([(w.heap.size + 1 + 1),(w.heap.size + 1 + 1 + 1)] : List Nat) by simp) J3; obtain ⟨m1,m2,m3,m4⟩:=hg.two; simp only [putE,retOf,hx]
         go_simp
         exact hK _ _ (stored_put2 hg (noDig_slice _ _ _) (noDig_bool _)) ⟨_,ay hg (noDig_slice _ _ _) (noDig_bool _),A,k,c,rfl,hr1.stored (stored_put2 hg (noDig_slice _ _ _) (noDig_bool _)),hr2⟩
       refine aa rfl rfl ?_ ?_
       · intro wr x hC; simp only [deps,at_,List.getD_cons_zero,List.getD_cons_succ,PK.sem,PK.move,kCellNum,kNum,kNumO,kCellNumO,kRoO,kNum2O,kPutNumO,kIntO,kCellIntO]; intro hA; intro K hK; obtain ⟨A,k,c,hx,hr1,hr2⟩:=hA; obtain ⟨u0,v0,hg⟩:=hC.two (show _ ∈ ([(w.heap.size + 1 + 1),(w.heap.size + 1 + 1 + 1)] : List Nat) by simp) J4; obtain ⟨m1,m2,m3,m4⟩:=hg.two; simp only [putE,retOf,hx]
         go_simp
         exact hK _ _ (stored_put2 hg (noDig_slice _ _ _) (noDig_bool _)) ⟨_,ay hg (noDig_slice _ _ _) (noDig_bool _),A,k,c,rfl,(stored_put2 hg (noDig_slice _ _ _) (noDig_bool _)).rr hr1,hr2⟩
       exact ag rfl
     case en =>
       intro wr x hC hall; have h11:=hall 11 (of_decide_eq_true (by kernel_rfl)); have h12:=hall 12 (of_decide_eq_true (by kernel_rfl)); clear hall; simp only [at_,List.getD_cons_zero,List.getD_cons_succ,PK.sem,kCellNum,kNumO,kCellNumO,kRoO,kNum2O,kPutNumO,kIntO,kCellIntO] at h11 h12; obtain ⟨_,e4,A4,k4,c4,rfl,r4,z4⟩:=h11; obtain ⟨_,e5,A5,k5,c5,rfl,r5,z5⟩:=h12; have hbw:=bw1.trans hC.below; obtain ⟨i1,i2,_,_⟩:=e4.two; obtain ⟨j1,j2,_,_⟩:=e5.two; simp only [putE]
       go_wp2
       refine bodyPost_ret (v:=.tuple #[.agg #[.slice A4 k4 c4,.bool (sgn (n1 / n2) false)],.agg #[.slice A5 k5 c5,.bool (sgn (n1 % n2) b1)]]) (by simp [results,Tryz.results117,go_sem,i1,i2,j1,j2]) rfl ?_; exact ⟨_,_,rfl,⟨A4,k4,c4,rfl,r4.mono (by omega),z4⟩,⟨A5,k5,c5,rfl,r5,z5⟩,hbw⟩
   · have hn0 : n1 % n2 = 0:=hc.resolve_left (by simpa using he); have hk0 : ((kr : Int) == 0) = true:=by rw [hk.2 hn0]; rfl
     have hb1 : (b1 == b2) = false:=by simpa using he
     have hb2 : (b1 != b2) = true:=by simpa using he
     have esx : sx = true:=HSX.out.trans hb2; clear HSX; subst esx; clear hc hk hn0 he
     go_wp2_with (go_at_call 116; refine (sizeNone_any _ _ _ _).mono ?_; rintro e w' ⟨rfl,rfl⟩)
     refine az (w.heap.size) [kIs (.slice Aq kq cq),kIs (.pointer (some ⟨w.heap.size,1,none⟩)),kIs (.bool b1),kIs (.pointer (some ⟨w.heap.size + 1,1,none⟩)),kIs (.bool b2),kIs (.bool true),kNumO (w.heap.size + 4) (n1 / n2) (sgn (n1 / n2) true),kIs (.slice Ar kr cr),kIs (.pointer (some ⟨w.heap.size + 1,1,none⟩)),kIs (.bool b2),kNum (n1 % n2) (sgn (n1 % n2) b2),kCellNumO (w.heap.size + 4) (w.heap.size + 1 + 1) (n1 / n2) (sgn (n1 / n2) true),kCellNum (w.heap.size + 1 + 1 + 1) (n1 % n2) (sgn (n1 % n2) b2)] [ [],[],[(1,some 28)],[],[(3,some 30)],[(2,some 29),(4,some 31)],[(0,some 27),(5,some 32)],[],[],[(8,some 35)],[(7,some 34),(9,some 36)],[(6,some 33)],[(10,some 37)] ] [(0,some 27),(1,some 28),(2,some 29),(3,some 30),(4,some 31),(5,some 32),(6,some 33),(7,some 34),(8,some 35),(9,some 36),(10,some 37),(11,none),(12,none)] [] [] ?n1 ?n2 ?n3 ?n4 ?st ?en
     case n1=>show List.Nodup ([(w.heap.size + 1 + 1),(w.heap.size + 1 + 1 + 1)] : List Nat); simp
     case n2=>show ∀ g ∈ ([(w.heap.size + 1 + 1),(w.heap.size + 1 + 1 + 1)] : List Nat),_; intro g hg; simp only [List.mem_cons,List.not_mem_nil,or_false] at hg; omega
     case n3=>omega
     case n4 =>
       show ∀ g ∈ ([(w.heap.size + 1 + 1),(w.heap.size + 1 + 1 + 1)] : List Nat),∃ cs,Holds_ _ g cs
       intro g hg; simp only [List.mem_cons,List.not_mem_nil,or_false] at hg; rcases hg with rfl | rfl
       · exact ⟨_,J3⟩
       · exact ⟨_,J4⟩
     case st =>
       refine aa rfl rfl ?_ ?_
       · intro wr x hC; simp only [deps,at_,List.getD_cons_zero,PK.sem,PK.move,kIs,kNumO,kCellNumO,kRoO,kNum2O,kPutNumO,kIntO,kCellIntO]; intro K hK; simp only [putE,retOf]
         go_simp
         exact hK _ _ (Below.refl _ _) rfl
       refine aa rfl rfl ?_ ?_
       · intro wr x hC; simp only [deps,at_,List.getD_cons_zero,List.getD_cons_succ,PK.sem,PK.move,kIs,kNumO,kCellNumO,kRoO,kNum2O,kPutNumO,kIntO,kCellIntO]; intro K hK; simp only [putE,retOf]
         go_simp
         exact hK _ _ (Below.refl _ _) rfl
       refine aa rfl rfl ?_ ?_
       · intro wr x hC; simp only [deps,at_,List.getD_cons_zero,List.getD_cons_succ,PK.sem,PK.move,kIs,kNumO,kCellNumO,kRoO,kNum2O,kPutNumO,kIntO,kCellIntO]; intro h0; intro K hK; have hce1:=(hC.cell (b:=w.heap.size) (by omega) (show _ ∉ ([(w.heap.size + 1 + 1),(w.heap.size + 1 + 1 + 1)] : List Nat) by simp <;> omega) 1).1.trans p2; simp only [putE,retOf,h0]
         go_simp
         exact hK _ _ (Below.refl _ _) rfl
       refine aa rfl rfl ?_ ?_
       · intro wr x hC; simp only [deps,at_,List.getD_cons_zero,List.getD_cons_succ,PK.sem,PK.move,kIs,kNumO,kCellNumO,kRoO,kNum2O,kPutNumO,kIntO,kCellIntO]; intro K hK; simp only [putE,retOf]
         go_simp
         exact hK _ _ (Below.refl _ _) rfl
       refine aa rfl rfl ?_ ?_
       · intro wr x hC; simp only [deps,at_,List.getD_cons_zero,List.getD_cons_succ,PK.sem,PK.move,kIs,kNumO,kCellNumO,kRoO,kNum2O,kPutNumO,kIntO,kCellIntO]; intro h0; intro K hK; have hce1:=(hC.cell (b:=w.heap.size + 1) (by omega) (show _ ∉ ([(w.heap.size + 1 + 1),(w.heap.size + 1 + 1 + 1)] : List Nat) by simp <;> omega) 1).1.trans q2; simp only [putE,retOf,h0]
         go_simp
         exact hK _ _ (Below.refl _ _) rfl
       refine aa rfl rfl ?_ ?_
       · intro wr x hC; simp only [deps,at_,List.getD_cons_zero,List.getD_cons_succ,PK.sem,PK.move,kIs,kNumO,kCellNumO,kRoO,kNum2O,kPutNumO,kIntO,kCellIntO]; intro h0 h1; intro K hK; simp only [putE,retOf,h0,h1]
         go_simp
         exact hK _ _ (Below.refl _ _) rfl
       refine aa rfl rfl ?_ ?_
       · intro wr x hC; simp only [deps,at_,List.getD_cons_zero,List.getD_cons_succ,PK.sem,PK.move,kIs,kNum,kNumO,kCellNumO,kRoO,kNum2O,kPutNumO,kIntO,kCellIntO]; intro hA hB; intro K hK; simp only [putE,retOf,hA,hB]
         go_simp
         refine (signed_o true (hC.ro (show ∀ g ∈ ([(w.heap.size + 1 + 1),(w.heap.size + 1 + 1 + 1)] : List Nat),g < w.heap.size + 4 from fun g hg=>by simp only [List.mem_cons,List.not_mem_nil,or_false] at hg; omega) hq)).mono ?_; rintro e w2 ⟨A2,k2,c2,rfl,h1,h2,h3⟩
         go_simp
         exact hK _ _ h3 ⟨A2,k2,c2,rfl,h1,h2⟩
       refine aa rfl rfl ?_ ?_
       · intro wr x hC; simp only [deps,at_,List.getD_cons_zero,List.getD_cons_succ,PK.sem,PK.move,kIs,kNumO,kCellNumO,kRoO,kNum2O,kPutNumO,kIntO,kCellIntO]; intro K hK; simp only [putE,retOf]
         go_simp
         exact hK _ _ (Below.refl _ _) rfl
       refine aa rfl rfl ?_ ?_
       · intro wr x hC; simp only [deps,at_,List.getD_cons_zero,List.getD_cons_succ,PK.sem,PK.move,kIs,kNumO,kCellNumO,kRoO,kNum2O,kPutNumO,kIntO,kCellIntO]; intro K hK; simp only [putE,retOf]
         go_simp
         exact hK _ _ (Below.refl _ _) rfl
       refine aa rfl rfl ?_ ?_
       · intro wr x hC; simp only [deps,at_,List.getD_cons_zero,List.getD_cons_succ,PK.sem,PK.move,kIs,kNumO,kCellNumO,kRoO,kNum2O,kPutNumO,kIntO,kCellIntO]; intro h0; intro K hK; have hce1:=(hC.cell (b:=w.heap.size + 1) (by omega) (show _ ∉ ([(w.heap.size + 1 + 1),(w.heap.size + 1 + 1 + 1)] : List Nat) by simp <;> omega) 1).1.trans q2; simp only [putE,retOf,h0]
         go_simp
         exact hK _ _ (Below.refl _ _) rfl
       refine aa rfl rfl ?_ ?_
       · intro wr x hC; simp only [deps,at_,List.getD_cons_zero,List.getD_cons_succ,PK.sem,PK.move,kIs,kNum,kNumO,kCellNumO,kRoO,kNum2O,kPutNumO,kIntO,kCellIntO]; intro hA hB; intro K hK; simp only [putE,retOf,hA,hB]
         go_simp
         refine (signed_s b2 (hC.rr hr)).mono ?_; rintro e w2 ⟨A2,k2,c2,rfl,h1,h2,h3⟩
         go_simp
         exact hK _ _ h3 ⟨A2,k2,c2,rfl,h1,h2⟩
       refine aa rfl rfl ?_ ?_
       · intro wr x hC; simp only [deps,at_,List.getD_cons_zero,List.getD_cons_succ,PK.sem,PK.move,kCellNum,kNum,kNumO,kCellNumO,kRoO,kNum2O,kPutNumO,kIntO,kCellIntO]; intro hA; intro K hK; obtain ⟨A,k,c,hx,hr1,hr2⟩:=hA; obtain ⟨u0,v0,hg⟩:=hC.two (show _ ∈ ([(w.heap.size + 1 + 1),(w.heap.size + 1 + 1 + 1)] : List Nat) by simp) J3; obtain ⟨m1,m2,m3,m4⟩:=hg.two; simp only [putE,retOf,hx]
         go_simp
         exact hK _ _ (stored_put2 hg (noDig_slice _ _ _) (noDig_bool _)) ⟨_,ay hg (noDig_slice _ _ _) (noDig_bool _),A,k,c,rfl,hr1.stored (stored_put2 hg (noDig_slice _ _ _) (noDig_bool _)),hr2⟩
       refine aa rfl rfl ?_ ?_
       · intro wr x hC; simp only [deps,at_,List.getD_cons_zero,List.getD_cons_succ,PK.sem,PK.move,kCellNum,kNum,kNumO,kCellNumO,kRoO,kNum2O,kPutNumO,kIntO,kCellIntO]; intro hA; intro K hK; obtain ⟨A,k,c,hx,hr1,hr2⟩:=hA; obtain ⟨u0,v0,hg⟩:=hC.two (show _ ∈ ([(w.heap.size + 1 + 1),(w.heap.size + 1 + 1 + 1)] : List Nat) by simp) J4; obtain ⟨m1,m2,m3,m4⟩:=hg.two; simp only [putE,retOf,hx]
         go_simp
         exact hK _ _ (stored_put2 hg (noDig_slice _ _ _) (noDig_bool _)) ⟨_,ay hg (noDig_slice _ _ _) (noDig_bool _),A,k,c,rfl,(stored_put2 hg (noDig_slice _ _ _) (noDig_bool _)).rr hr1,hr2⟩
       exact ag rfl
     case en =>
       intro wr x hC hall; have h11:=hall 11 (of_decide_eq_true (by kernel_rfl)); have h12:=hall 12 (of_decide_eq_true (by kernel_rfl)); clear hall; simp only [at_,List.getD_cons_zero,List.getD_cons_succ,PK.sem,kCellNum,kNumO,kCellNumO,kRoO,kNum2O,kPutNumO,kIntO,kCellIntO] at h11 h12; obtain ⟨_,e4,A4,k4,c4,rfl,r4,z4⟩:=h11; obtain ⟨_,e5,A5,k5,c5,rfl,r5,z5⟩:=h12; have hbw:=bw1.trans hC.below; obtain ⟨i1,i2,_,_⟩:=e4.two; obtain ⟨j1,j2,_,_⟩:=e5.two; simp only [putE]
       go_wp2
       refine bodyPost_ret (v:=.tuple #[.agg #[.slice A4 k4 c4,.bool (sgn (n1 / n2) true)],.agg #[.slice A5 k5 c5,.bool (sgn (n1 % n2) b2)]]) (by simp [results,Tryz.results117,go_sem,i1,i2,j1,j2]) rfl ?_; exact ⟨_,_,rfl,⟨A4,k4,c4,rfl,r4.mono (by omega),z4⟩,⟨A5,k5,c5,rfl,r5,z5⟩,hbw⟩
 · have eQ : Q = n1 / n2 + 1:=by rw [HQ.out]; exact if_neg hc
   have eR : R = n2 - n1 % n2:=by rw [HR.out]; exact if_neg hc
   have hb1 : (b1 == b2) = false:=by
     cases h : (b1 == b2) with
     | false=>rfl
     | true=>exact absurd (.inl h) hc
   have hb2 : (b1 != b2) = true:=by rw [bne,hb1]; rfl
   have hk0 : ((kr : Int) == 0) = false:=by
     rw [beq_eq_false_iff_ne]; intro h; exact hc (.inr (hk.1 (by omega)))
   clear HQ HR; subst eQ; subst eR; have esx : sx = true:=HSX.out.trans hb2; clear HSX; subst esx; clear hc hk; have hap:=fun (W : World) (hW : Below w1.heap.size w1 W)=>kn (N:=N) ((H2.out.below bw1).below hW).rd (hr.below hW).rd HB.out.1 HB.out.2.1 (Nat.le_trans HN.out (by omega)); have hg : gapOf n2 (n1 % n2) = n2 - n1 % n2:=if_pos (Nat.le_of_lt HB.out.2.2.2); rw [hg] at hap; have HAP:=Lib.hid hap; clear hap hg
   go_wp2_with (go_at_call 116; refine (sizeNone_any _ _ _ _).mono ?_; rintro e w' ⟨rfl,rfl⟩)
   refine (HAP.out _ (Below.refl _ _)).mono ?_; rintro e w2 ⟨Am,km,cm,rfl,hm,hb⟩; have hz:=hb.size; have q2:=(hb.cell (p:=⟨w.heap.size + 1,1,none⟩) hlt).trans q2; have J3:=J3.step hb; have J4:=J4.step hb; have bw1:=bstep bw1 hb; have hq:=hq.below hb; have hlt : w.heap.size + 1 < w2.heap.size:=by omega
   have h41 : w.heap.size + 4 ≤ w2.heap.size:=by omega
   clear hb hr HAP
   go_wp2_with fail
   refine az (w.heap.size) [kIs (.slice Aq kq cq),kRr 1,kRoO (w.heap.size + 4) (n1 / n2 + 1),kNumO (w.heap.size + 4) (n1 / n2 + 1) (sgn (n1 / n2 + 1) true),kIs (.slice Am km cm),kIs (.pointer (some ⟨w.heap.size + 1,1,none⟩)),kIs (.bool b2),kNum (n2 - n1 % n2) (sgn (n2 - n1 % n2) b2),kCellNumO (w.heap.size + 4) (w.heap.size + 1 + 1) (n1 / n2 + 1) (sgn (n1 / n2 + 1) true),kCellNum (w.heap.size + 1 + 1 + 1) (n2 - n1 % n2) (sgn (n2 - n1 % n2) b2)] [ [],[],[(0,some 45),(1,some 46)],[(2,some 47)],[],[],[(5,some 50)],[(4,some 49),(6,some 51)],[(3,some 48)],[(7,some 52)] ] [(0,some 45),(1,some 46),(2,some 47),(3,some 48),(4,some 49),(5,some 50),(6,some 51),(7,some 52),(8,none),(9,none)] [] [] ?n1 ?n2 ?n3 ?n4 ?st ?en
   case n1=>show List.Nodup ([(w.heap.size + 1 + 1),(w.heap.size + 1 + 1 + 1)] : List Nat); simp
   case n2=>show ∀ g ∈ ([(w.heap.size + 1 + 1),(w.heap.size + 1 + 1 + 1)] : List Nat),_; intro g hg; simp only [List.mem_cons,List.not_mem_nil,or_false] at hg; omega
   case n3=>omega
   case n4 =>
     show ∀ g ∈ ([(w.heap.size + 1 + 1),(w.heap.size + 1 + 1 + 1)] : List Nat),∃ cs,Holds_ _ g cs
     intro g hg; simp only [List.mem_cons,List.not_mem_nil,or_false] at hg; rcases hg with rfl | rfl
     · exact ⟨_,J3⟩
     · exact ⟨_,J4⟩
   case st =>
     refine aa rfl rfl ?_ ?_
     · intro wr x hC; simp only [deps,at_,List.getD_cons_zero,PK.sem,PK.move,kIs,kNumO,kCellNumO,kRoO,kNum2O,kPutNumO,kIntO,kCellIntO]; intro K hK; simp only [putE,retOf]
       go_simp
       exact hK _ _ (Below.refl _ _) rfl
     refine aa rfl rfl ?_ ?_
     · intro wr x hC; simp only [deps,at_,List.getD_cons_zero,List.getD_cons_succ,PK.sem,PK.move,kRr,kNumO,kCellNumO,kRoO,kNum2O,kPutNumO,kIntO,kCellIntO]; intro K hK; simp only [putE,retOf]
       go_simp
       exact hK _ _ ((Below.refl _ _).alloc (Nat.le_refl _) _) ⟨_,_,_,rfl,rr_lit1 _⟩
     refine aa rfl rfl ?_ ?_
     · intro wr x hC; simp only [deps,at_,List.getD_cons_zero,List.getD_cons_succ,PK.sem,PK.move,kIs,kRr,kNumO,kCellNumO,kRoO,kNum2O,kPutNumO,kIntO,kCellIntO]; intro hA hB; intro K hK; obtain ⟨A,k,c,hB,hr1⟩:=hB; simp only [putE,retOf,hA,hB]
       go_simp
       refine (joined_o (hC.rr hq.1).rd hr1.rd HB.out.2.2.1 (show N + 1 ≤ 4000 from Nat.succ_le_succ HN.out)).mono ?_; rintro e w2 ⟨A2,k2,c2,rfl,h1,h2⟩
       go_simp
       exact hK _ _ h2 ⟨A2,k2,c2,rfl,h1.mono (Nat.le_trans (by omega) hC.below.size)⟩
     refine aa rfl rfl ?_ ?_
     · intro wr x hC; simp only [deps,at_,List.getD_cons_zero,List.getD_cons_succ,PK.sem,PK.move,kNum,kRr,kNumO,kCellNumO,kRoO,kNum2O,kPutNumO,kIntO,kCellIntO]; intro hA; intro K hK; obtain ⟨A,k,c,hA,hr1⟩:=hA; simp only [putE,retOf,hA]
       go_simp
       refine (signed_o true hr1).mono ?_; rintro e w2 ⟨A2,k2,c2,rfl,h1,h2,h3⟩
       go_simp
       exact hK _ _ h3 ⟨A2,k2,c2,rfl,h1,h2⟩
     refine aa rfl rfl ?_ ?_
     · intro wr x hC; simp only [deps,at_,List.getD_cons_zero,List.getD_cons_succ,PK.sem,PK.move,kIs,kNumO,kCellNumO,kRoO,kNum2O,kPutNumO,kIntO,kCellIntO]; intro K hK; simp only [putE,retOf]
       go_simp
       exact hK _ _ (Below.refl _ _) rfl
     refine aa rfl rfl ?_ ?_
     · intro wr x hC; simp only [deps,at_,List.getD_cons_zero,List.getD_cons_succ,PK.sem,PK.move,kIs,kNumO,kCellNumO,kRoO,kNum2O,kPutNumO,kIntO,kCellIntO]; intro K hK; simp only [putE,retOf]
       go_simp
       exact hK _ _ (Below.refl _ _) rfl
     refine aa rfl rfl ?_ ?_
     · intro wr x hC; simp only [deps,at_,List.getD_cons_zero,List.getD_cons_succ,PK.sem,PK.move,kIs,kNumO,kCellNumO,kRoO,kNum2O,kPutNumO,kIntO,kCellIntO]; intro h0; intro K hK; have hce1:=(hC.cell (b:=w.heap.size + 1) (by omega) (show _ ∉ ([(w.heap.size + 1 + 1),(w.heap.size + 1 + 1 + 1)] : List Nat) by simp <;> omega) 1).1.trans q2; simp only [putE,retOf,h0]
       go_simp
       exact hK _ _ (Below.refl _ _) rfl
     refine aa rfl rfl ?_ ?_
     · intro wr x hC; simp only [deps,at_,List.getD_cons_zero,List.getD_cons_succ,PK.sem,PK.move,kIs,kNum,kNumO,kCellNumO,kRoO,kNum2O,kPutNumO,kIntO,kCellIntO]; intro hA hB; intro K hK; simp only [putE,retOf,hA,hB]
       go_simp
       refine (signed_s b2 (hC.rr hm)).mono ?_; rintro e w2 ⟨A2,k2,c2,rfl,h1,h2,h3⟩
       go_simp
       exact hK _ _ h3 ⟨A2,k2,c2,rfl,h1,h2⟩
     refine aa rfl rfl ?_ ?_
     · intro wr x hC; simp only [deps,at_,List.getD_cons_zero,List.getD_cons_succ,PK.sem,PK.move,kCellNum,kNum,kNumO,kCellNumO,kRoO,kNum2O,kPutNumO,kIntO,kCellIntO]; intro hA; intro K hK; obtain ⟨A,k,c,hx,hr1,hr2⟩:=hA; obtain ⟨u0,v0,hg⟩:=hC.two (show _ ∈ ([(w.heap.size + 1 + 1),(w.heap.size + 1 + 1 + 1)] : List Nat) by simp) J3; obtain ⟨m1,m2,m3,m4⟩:=hg.two; simp only [putE,retOf,hx]
       go_simp
       exact hK _ _ (stored_put2 hg (noDig_slice _ _ _) (noDig_bool _)) ⟨_,ay hg (noDig_slice _ _ _) (noDig_bool _),A,k,c,rfl,hr1.stored (stored_put2 hg (noDig_slice _ _ _) (noDig_bool _)),hr2⟩
     refine aa rfl rfl ?_ ?_
     · intro wr x hC; simp only [deps,at_,List.getD_cons_zero,List.getD_cons_succ,PK.sem,PK.move,kCellNum,kNum,kNumO,kCellNumO,kRoO,kNum2O,kPutNumO,kIntO,kCellIntO]; intro hA; intro K hK; obtain ⟨A,k,c,hx,hr1,hr2⟩:=hA; obtain ⟨u0,v0,hg⟩:=hC.two (show _ ∈ ([(w.heap.size + 1 + 1),(w.heap.size + 1 + 1 + 1)] : List Nat) by simp) J4; obtain ⟨m1,m2,m3,m4⟩:=hg.two; simp only [putE,retOf,hx]
       go_simp
       exact hK _ _ (stored_put2 hg (noDig_slice _ _ _) (noDig_bool _)) ⟨_,ay hg (noDig_slice _ _ _) (noDig_bool _),A,k,c,rfl,(stored_put2 hg (noDig_slice _ _ _) (noDig_bool _)).rr hr1,hr2⟩
     exact ag rfl
   case en =>
     intro wr x hC hall; have h8:=hall 8 (of_decide_eq_true (by kernel_rfl)); have h9:=hall 9 (of_decide_eq_true (by kernel_rfl)); clear hall; simp only [at_,List.getD_cons_zero,List.getD_cons_succ,PK.sem,kCellNum,kNumO,kCellNumO,kRoO,kNum2O,kPutNumO,kIntO,kCellIntO] at h8 h9; obtain ⟨_,e4,A4,k4,c4,rfl,r4,z4⟩:=h8; obtain ⟨_,e5,A5,k5,c5,rfl,r5,z5⟩:=h9; have hbw:=bw1.trans hC.below; obtain ⟨i1,i2,_,_⟩:=e4.two; obtain ⟨j1,j2,_,_⟩:=e5.two; simp only [putE]
     go_wp2
     refine bodyPost_ret (v:=.tuple #[.agg #[.slice A4 k4 c4,.bool (sgn (n1 / n2 + 1) true)],.agg #[.slice A5 k5 c5,.bool (sgn (n2 - n1 % n2) b2)]]) (by simp [results,Tryz.results117,go_sem,i1,i2,j1,j2]) rfl ?_; exact ⟨_,_,rfl,⟨A4,k4,c4,rfl,r4.mono (by omega),z4⟩,⟨A5,k5,c5,rfl,r5,z5⟩,hbw⟩
theorem divMod_o {w : World} {A1 A2 : Option Addr} {k1 c1 k2 c2 n1 n2 N : Nat} (b1 b2 : Bool) (h1 : Rd w (.slice A1 k1 c1) n1) (h2 : Rd w (.slice A2 k2 c2) n2) (h0 : 0 < n2) (hn1 : n1 < 1000000000 ^ N) (hn2 : n2 < 1000000000 ^ N) (hN : N ≤ 3999) :
   Calls Tryz.prog 59 #[.agg #[.bool b1,.slice A1 k1 c1],.agg #[.bool b2,.slice A2 k2 c2]] w (RetInt2O w (divQ n1 (sgn n1 b1) n2 b2) (sgn (divQ n1 (sgn n1 b1) n2 b2) ((sgn n1 b1) != b2)) (divR n1 (sgn n1 b1) n2 b2) (sgn (divR n1 (sgn n1 b1) n2 b2) b2)):=by
 have hof:=fun (W : World) (hW : Below w.heap.size w W)=>numOf_any b1 (h1.below hW) hn1 (show N ≤ 4000 by omega)
 have hof2:=fun (W : World) (hW : Below w.heap.size w W)=>numOf_any b2 (h2.below hW) hn2 (show N ≤ 4000 by omega)
 have hdv:=fun (W : World) (A : Option Addr) (k c : Nat) (h1 : Rr W (.slice A k c) n1) (A2 : Option Addr) (k2 c2 : Nat) (h2 : Rr W (.slice A2 k2 c2) n2)=>divide_o (sgn n1 b1) b2 h1 h2 h0 hn1 hn2 hN
 have hs2 : sgn n2 b2 = b2:=by
   unfold sgn; rw [decide_eq_true (show n2 ≠ 0 by omega),Bool.and_true]
 obtain ⟨Q,hQ⟩ : ∃ Q,Q = divQ n1 (sgn n1 b1) n2 b2:=⟨_,rfl⟩
 obtain ⟨M,hM⟩ : ∃ M,M = divR n1 (sgn n1 b1) n2 b2:=⟨_,rfl⟩
 rw [← hQ,← hM] at hdv ⊢
 obtain ⟨sq,hsq⟩ : ∃ s,s = sgn Q ((sgn n1 b1) != b2):=⟨_,rfl⟩
 obtain ⟨sm,hsm⟩ : ∃ s,s = sgn M b2:=⟨_,rfl⟩
 rw [← hsq,← hsm] at hdv ⊢
 rw [hs2] at hof2
 have hHDV : ∀ (W : World) (A : Option Addr) (k c : Nat),Rr W (.slice A k c) n1 → ∀ {A2 : Option Addr} {k2 c2 : Nat},Rr W (.slice A2 k2 c2) n2 → Calls Tryz.prog 117 #[.agg #[.slice A k c,.bool (sgn n1 b1)],.agg #[.slice A2 k2 c2,.bool b2]] W (RetNum2O W Q sq M sm):=fun W A k c h A2 k2 c2 h'=>hdv W A k c h A2 k2 c2 h'
 have HOF:=Lib.hid hof
 have HOF2:=Lib.hid hof2
 have HDV:=Lib.hid hHDV
 have H0:=Lib.hid h0
 clear hof hof2 hdv hHDV h1 h2 h0 hn1 hn2 hN hQ hM hsq hsm hs2
 go_enter Tryz.func59,Tryz.ntmps59
 go_wp2_with fail
 obtain ⟨W,hW⟩ : ∃ W,W = (((w.alloc (Obj.cells #[Value.bool b1,Value.slice A1 k1 c1] 24)).alloc (Obj.cells #[Value.bool b2,Value.slice A2 k2 c2] 24)).alloc (Obj.cells #[Value.bool false,Value.slice none 0 0] 24)).alloc (Obj.cells #[Value.bool false,Value.slice none 0 0] 24):=⟨_,rfl⟩
 obtain ⟨bW0,sW0,K0,_,K2,K3⟩:=gz hW
 rw [← hW]
 clear hW
 refine (HOF2.out _ bW0).mono ?_
 clear HOF2
 rintro e w2 ⟨B2,j2,d2,rfl,hr,_,hb⟩
 have hk0 : ((j2 : Int) == 0) = false:=by
   rw [beq_eq_false_iff_ne]; intro h; have:=(rr_len hr).1.1 (by omega); have:=H0.out; omega
 have hz:=hb.size
 have K0:=(hb.block w.heap.size (by omega)).trans K0
 have K2:=(hb.block (w.heap.size + 1 + 1) (by omega)).trans K2
 have K3:=(hb.block (w.heap.size + 1 + 1 + 1) (by omega)).trans K3
 have bw2:=bstep bW0 hb
 clear hb bW0
 go_wp2_with (go_at_call 116; refine (sizeNone_any _ _ _ _).mono ?_; rintro e w' ⟨rfl,rfl⟩)
 obtain ⟨W4,hW4⟩ : ∃ W4,W4 = w2.alloc (Obj.cells #[Value.slice B2 j2 d2,Value.bool b2] 91):=⟨_,rfl⟩
 have bW : Below w.heap.size w W4:=by rw [hW4]; exact bal bw2 _
 have sW : W4.heap.size = w2.heap.size + 1:=by rw [hW4]; simp
 have hr : Rr W4 (.slice B2 j2 d2) n2:=by rw [hW4]; exact hr.alloc _
 have K7 : W4.heap[w2.heap.size]? = some (Obj.cells #[Value.slice B2 j2 d2,Value.bool b2] 91):=by rw [hW4]; exact heap_alloc_new _ _
 have K0 : W4.heap[w.heap.size]? = _:=(by rw [hW4]; exact Below.heap_alloc _ _ _ (by omega) : W4.heap[w.heap.size]? = w2.heap[w.heap.size]?).trans K0
 have K2 : W4.heap[w.heap.size + 1 + 1]? = _:=(by rw [hW4]; exact Below.heap_alloc _ _ _ (by omega) : W4.heap[w.heap.size + 1 + 1]? = w2.heap[w.heap.size + 1 + 1]?).trans K2
 have K3 : W4.heap[w.heap.size + 1 + 1 + 1]? = _:=(by rw [hW4]; exact Below.heap_alloc _ _ _ (by omega) : W4.heap[w.heap.size + 1 + 1 + 1]? = w2.heap[w.heap.size + 1 + 1 + 1]?).trans K3
 obtain ⟨p1,p2,_,_⟩:=cell_of_two K0
 obtain ⟨q1,q2,_,_⟩:=cell_of_two K7
 rw [← hW4]
 clear hW4 K0 K7 bw2 hk0
 have hwz : w.heap.size + 4 ≤ w2.heap.size:=by omega
 refine az (w.heap.size) [kIs (.agg #[.bool b1,.slice A1 k1 c1]),kNum n1 (sgn n1 b1),kIs (.agg #[.slice B2 j2 d2,.bool b2]),kNum2O (w.heap.size + 4) Q sq M sm,kNum2O (w.heap.size + 4) Q sq M sm,kNumO (w.heap.size + 4) Q sq,kNum M sm,PK.fresh 2,PK.fresh 2,kPutNumO (w.heap.size + 4) 7 Q sq,kPutNum 8 M sm] [ [],[(0,some 18)],[],[(1,some 19),(2,some 20)],[(3,some 21)],[(4,some 17)],[(4,some 17)],[],[],[(7,some 8),(5,some 22)],[(8,some 9),(6,some 23)] ] [(0,some 18),(1,some 19),(2,some 20),(3,some 21),(4,some 17),(5,some 22),(6,some 23),(7,some 8),(8,some 9),(9,none),(10,none)] [] [] ?n1 ?n2 ?n3 ?n4 ?st ?en
 case n1=>show List.Nodup ([] : List Nat); simp
 case n2=>show ∀ g ∈ ([] : List Nat),_; intro g hg; cases hg
 case n3=>omega
 case n4 =>
   show ∀ g ∈ ([] : List Nat),∃ cs,Holds_ _ g cs
   intro g hg
   cases hg
 case st =>
   refine aa rfl rfl ?_ ?_
   · intro wr x hC; simp only [deps,at_,List.getD_cons_zero,PK.sem,PK.move,kIs,kNumO,kCellNumO,kRoO,kNum2O,kPutNumO,kIntO,kCellIntO]; intro K hK; have hce0:=(hC.cell (b:=w.heap.size) (by omega) (show _ ∉ ([] : List Nat) by simp <;> omega) 0).1.trans p1; have hce1:=(hC.cell (b:=w.heap.size) (by omega) (show _ ∉ ([] : List Nat) by simp <;> omega) 1).1.trans p2; simp only [putE,retOf]
     go_simp
     exact hK _ _ (Below.refl _ _) rfl
   refine aa rfl rfl ?_ ?_
   · intro wr x hC; simp only [deps,at_,List.getD_cons_zero,List.getD_cons_succ,PK.sem,PK.move,kIs,kNum,kNumO,kCellNumO,kRoO,kNum2O,kPutNumO,kIntO,kCellIntO]; intro hA; intro K hK; simp only [putE,retOf,hA]
     go_simp
     refine (HOF.out _ (bW.trans hC.below)).mono ?_; rintro e w2 ⟨A2,k2,c2,rfl,h1,h2,h3⟩
     go_simp
     exact hK _ _ h3 ⟨A2,k2,c2,rfl,h1,h2⟩
   refine aa rfl rfl ?_ ?_
   · intro wr x hC; simp only [deps,at_,List.getD_cons_zero,List.getD_cons_succ,PK.sem,PK.move,kIs,kNumO,kCellNumO,kRoO,kNum2O,kPutNumO,kIntO,kCellIntO]; intro K hK; have hce0:=(hC.cell (b:=w2.heap.size) (by omega) (show _ ∉ ([] : List Nat) by simp <;> omega) 0).1.trans q1; have hce1:=(hC.cell (b:=w2.heap.size) (by omega) (show _ ∉ ([] : List Nat) by simp <;> omega) 1).1.trans q2; simp only [putE,retOf]
     go_simp
     exact hK _ _ (Below.refl _ _) rfl
   refine aa rfl rfl ?_ ?_
   · intro wr x hC; simp only [deps,at_,List.getD_cons_zero,List.getD_cons_succ,PK.sem,PK.move,kIs,kNum,kNum2,kNumO,kCellNumO,kRoO,kNum2O,kPutNumO,kIntO,kCellIntO]; intro hA hB; intro K hK; obtain ⟨A,k,c,hA,hr1,hr2⟩:=hA; simp only [putE,retOf,hA,hB]
     go_simp
     refine (HDV.out _ A k c hr1 (hC.rr hr)).mono ?_; rintro e w3 ⟨x,y,rfl,h1,h2,h3⟩
     go_simp
     exact hK _ _ h3 ⟨x,y,rfl,h1.mono (Nat.le_trans (by omega) hC.below.size),h2⟩
   refine aa rfl rfl ?_ ?_
   · intro wr x hC; simp only [deps,at_,List.getD_cons_zero,List.getD_cons_succ,PK.sem,PK.move,kNum2,kNumO,kCellNumO,kRoO,kNum2O,kPutNumO,kIntO,kCellIntO]; intro hA; intro K hK; obtain ⟨x,y,hA,h1,h2⟩:=hA; simp only [putE,retOf,hA]
     go_simp
     exact hK _ _ (Below.refl _ _) ⟨x,y,rfl,h1,h2⟩
   refine aa rfl rfl ?_ ?_
   · intro wr x hC; simp only [deps,at_,List.getD_cons_zero,List.getD_cons_succ,PK.sem,PK.move,kNum,kNum2,kNumO,kCellNumO,kRoO,kNum2O,kPutNumO,kIntO,kCellIntO]; intro hA; intro K hK; obtain ⟨x,y,hA,h1,h2⟩:=hA; simp only [putE,retOf,hA]
     go_simp
     exact hK _ _ (Below.refl _ _) h1
   refine aa rfl rfl ?_ ?_
   · intro wr x hC; simp only [deps,at_,List.getD_cons_zero,List.getD_cons_succ,PK.sem,PK.move,kNum,kNum2,kNumO,kCellNumO,kRoO,kNum2O,kPutNumO,kIntO,kCellIntO]; intro hA; intro K hK; obtain ⟨x,y,hA,h1,h2⟩:=hA; simp only [putE,retOf,hA]
     go_simp
     exact hK _ _ (Below.refl _ _) h2
   refine aa rfl rfl ?_ ?_
   · intro wr x hC; simp only [deps,at_,List.getD_cons_zero,List.getD_cons_succ,PK.sem,PK.move,kNumO,kCellNumO,kRoO,kNum2O,kPutNumO,kIntO,kCellIntO]; intro K hK; have hsz:=hC.below.size; simp only [putE,retOf]
     go_simp
     exact hK _ _ ⟨(Below.refl _ _).alloc (Nat.le_refl _) _,_,rfl,Nat.le_refl _⟩ ⟨_,_,rfl,hsz,ft _ (noDig_slice _ _ _) (noDig_bool _) _,rfl⟩
   refine aa rfl rfl ?_ ?_
   · intro wr x hC; simp only [deps,at_,List.getD_cons_zero,List.getD_cons_succ,PK.sem,PK.move,kNumO,kCellNumO,kRoO,kNum2O,kPutNumO,kIntO,kCellIntO]; intro K hK; have hsz:=hC.below.size; simp only [putE,retOf]
     go_simp
     exact hK _ _ ⟨(Below.refl _ _).alloc (Nat.le_refl _) _,_,rfl,Nat.le_refl _⟩ ⟨_,_,rfl,hsz,ft _ (noDig_slice _ _ _) (noDig_bool _) _,rfl⟩
   refine aa rfl rfl ?_ ?_
   · intro wr x hC; simp only [deps,at_,List.getD_cons_zero,List.getD_cons_succ,PK.sem,PK.move,kNum,kPutNum,kNumO,kCellNumO,kRoO,kNum2O,kPutNumO,kIntO,kCellIntO]; intro hA hB; intro K hK; obtain ⟨g,cs,hx,hg0,hg,hsz⟩:=hA; obtain ⟨u0,v0,rfl⟩:=jb hsz; obtain ⟨A,k,c,hy,hr1,hr2⟩:=hB; obtain ⟨m1,m2,m3,m4⟩:=hg.two; simp only [putE,retOf,hx,hy]
     go_simp
     exact hK _ _ ⟨g,hx,hg0,stored_put2 hg (noDig_slice _ _ _) (noDig_bool _)⟩ ⟨g,_,hx,hg0,ay hg (noDig_slice _ _ _) (noDig_bool _),A,k,c,rfl,hr1.stored (stored_put2 hg (noDig_slice _ _ _) (noDig_bool _)),hr2⟩
   refine aa rfl rfl ?_ ?_
   · intro wr x hC; simp only [deps,at_,List.getD_cons_zero,List.getD_cons_succ,PK.sem,PK.move,kNum,kPutNum,kNumO,kCellNumO,kRoO,kNum2O,kPutNumO,kIntO,kCellIntO]; intro hA hB; intro K hK; obtain ⟨g,cs,hx,hg0,hg,hsz⟩:=hA; obtain ⟨u0,v0,rfl⟩:=jb hsz; obtain ⟨A,k,c,hy,hr1,hr2⟩:=hB; obtain ⟨m1,m2,m3,m4⟩:=hg.two; simp only [putE,retOf,hx,hy]
     go_simp
     exact hK _ _ ⟨g,hx,hg0,stored_put2 hg (noDig_slice _ _ _) (noDig_bool _)⟩ ⟨g,_,hx,hg0,ay hg (noDig_slice _ _ _) (noDig_bool _),A,k,c,rfl,(stored_put2 hg (noDig_slice _ _ _) (noDig_bool _)).rr hr1,hr2⟩
   exact ag rfl
 case en =>
   intro wr x hC hall; have h9:=hall 9 (of_decide_eq_true (by kernel_rfl)); have h10:=hall 10 (of_decide_eq_true (by kernel_rfl)); clear hall; simp only [at_,List.getD_cons_zero,List.getD_cons_succ,PK.sem,kPutNum,kNumO,kCellNumO,kRoO,kNum2O,kPutNumO,kIntO,kCellIntO] at h9 h10; obtain ⟨g8,_,hx8,hs8,e8,A8,k8,c8,rfl,r8,z8⟩:=h9; obtain ⟨g9,_,hx9,hs9,e9,A9,k9,c9,rfl,r9,z9⟩:=h10; simp only [putE,hx8,hx9]; clear hx8 hx9; obtain ⟨i1,i2,_,_⟩:=e8.two; obtain ⟨j1,j2,_,_⟩:=e9.two; have bwr:=bW.trans hC.below; have hzr:=hC.below.size
   have J2 : Holds_ wr (w.heap.size + 1 + 1) #[Value.bool false,Value.slice none 0 0]:=⟨⟨_,(hC.old _ (by omega) (show _ ∉ ([] : List Nat) by simp)).trans K2⟩,by simp [noDig]⟩
   have J3 : Holds_ wr (w.heap.size + 1 + 1 + 1) #[Value.bool false,Value.slice none 0 0]:=⟨⟨_,(hC.old _ (by omega) (show _ ∉ ([] : List Nat) by simp)).trans K3⟩,by simp [noDig]⟩
   have hl8:=e8.lt; have hl9:=e9.lt
   rename_i w4
   clear hC K2 K3 p1 p2 q1 q2
   go_wp2_with fail
   go_simp
   refine az (w.heap.size) [kIs (.agg #[.slice A8 k8 c8,.bool sq]),kIntO (w.heap.size + 4) Q sq,kIs (.agg #[.slice A9 k9 c9,.bool sm]),kInt M sm,kCellIntO (w.heap.size + 4) (w.heap.size + 1 + 1) Q sq,kCellInt (w.heap.size + 1 + 1 + 1) M sm,kIs (.int .i64 0)] [ [],[(0,some 24)],[],[(2,some 26)],[(1,some 25)],[(3,some 27)],[] ] [(0,some 24),(1,some 25),(2,some 26),(3,some 27),(4,none),(5,none),(6,some 6)] [] [] ?n1 ?n2 ?n3 ?n4 ?st ?en
   case n1=>show List.Nodup ([(w.heap.size + 1 + 1),(w.heap.size + 1 + 1 + 1)] : List Nat); simp
   case n2=>show ∀ g ∈ ([(w.heap.size + 1 + 1),(w.heap.size + 1 + 1 + 1)] : List Nat),_; intro g hg; simp only [List.mem_cons,List.not_mem_nil,or_false] at hg; omega
   case n3=>omega
   case n4 =>
     show ∀ g ∈ ([(w.heap.size + 1 + 1),(w.heap.size + 1 + 1 + 1)] : List Nat),∃ cs,Holds_ _ g cs
     intro g hg; simp only [List.mem_cons,List.not_mem_nil,or_false] at hg; rcases hg with rfl | rfl
     · exact ⟨_,J2⟩
     · exact ⟨_,J3⟩
   case st =>
     refine aa rfl rfl ?_ ?_
     · intro wr x hC; simp only [deps,at_,List.getD_cons_zero,PK.sem,PK.move,kIs,kNumO,kCellNumO,kRoO,kNum2O,kPutNumO,kIntO,kCellIntO]; intro K hK; have hce0:=(hC.cell (b:=g8) (by omega) (show _ ∉ ([(w.heap.size + 1 + 1),(w.heap.size + 1 + 1 + 1)] : List Nat) by simp <;> omega) 0).1.trans i1; have hce1:=(hC.cell (b:=g8) (by omega) (show _ ∉ ([(w.heap.size + 1 + 1),(w.heap.size + 1 + 1 + 1)] : List Nat) by simp <;> omega) 1).1.trans i2; simp only [putE,retOf]
       go_simp
       exact hK _ _ (Below.refl _ _) rfl
     refine aa rfl rfl ?_ ?_
     · intro wr x hC; simp only [deps,at_,List.getD_cons_zero,List.getD_cons_succ,PK.sem,PK.move,kInt,kIs,kNumO,kCellNumO,kRoO,kNum2O,kPutNumO,kIntO,kCellIntO]; intro hA; intro K hK; simp only [putE,retOf,hA]
       go_simp
       refine (told_o (hC.ro (show ∀ g ∈ ([(w.heap.size + 1 + 1),(w.heap.size + 1 + 1 + 1)] : List Nat),g < w.heap.size + 4 from fun g hg=>by simp only [List.mem_cons,List.not_mem_nil,or_false] at hg; omega) r8) z8).mono ?_; rintro e w2 ⟨A2,k2,c2,rfl,h1,h2,h3⟩
       go_simp
       exact hK _ _ h3 ⟨A2,k2,c2,rfl,h1,h2⟩
     refine aa rfl rfl ?_ ?_
     · intro wr x hC; simp only [deps,at_,List.getD_cons_zero,List.getD_cons_succ,PK.sem,PK.move,kIs,kNumO,kCellNumO,kRoO,kNum2O,kPutNumO,kIntO,kCellIntO]; intro K hK; have hce0:=(hC.cell (b:=g9) (by omega) (show _ ∉ ([(w.heap.size + 1 + 1),(w.heap.size + 1 + 1 + 1)] : List Nat) by simp <;> omega) 0).1.trans j1; have hce1:=(hC.cell (b:=g9) (by omega) (show _ ∉ ([(w.heap.size + 1 + 1),(w.heap.size + 1 + 1 + 1)] : List Nat) by simp <;> omega) 1).1.trans j2; simp only [putE,retOf]
       go_simp
       exact hK _ _ (Below.refl _ _) rfl
     refine aa rfl rfl ?_ ?_
     · intro wr x hC; simp only [deps,at_,List.getD_cons_zero,List.getD_cons_succ,PK.sem,PK.move,kInt,kIs,kNumO,kCellNumO,kRoO,kNum2O,kPutNumO,kIntO,kCellIntO]; intro hA; intro K hK; simp only [putE,retOf,hA]
       go_simp
       refine (told_any (hC.rr r9) z9).mono ?_; rintro e w2 ⟨A2,k2,c2,rfl,h1,h2,h3⟩
       go_simp
       exact hK _ _ h3 ⟨A2,k2,c2,rfl,h1,h2⟩
     refine aa rfl rfl ?_ ?_
     · intro wr x hC; simp only [deps,at_,List.getD_cons_zero,List.getD_cons_succ,PK.sem,PK.move,kCellInt,kInt,kNumO,kCellNumO,kRoO,kNum2O,kPutNumO,kIntO,kCellIntO]; intro hA; intro K hK; obtain ⟨A,k,c,hx,hr1,hr2⟩:=hA; obtain ⟨u0,v0,hg⟩:=hC.two (show _ ∈ ([(w.heap.size + 1 + 1),(w.heap.size + 1 + 1 + 1)] : List Nat) by simp) J2; obtain ⟨m1,m2,m3,m4⟩:=hg.two; simp only [putE,retOf,hx]
       go_simp
       exact hK _ _ (stored_put2 hg (noDig_bool _) (noDig_slice _ _ _)) ⟨_,ay hg (noDig_bool _) (noDig_slice _ _ _),A,k,c,rfl,hr1.stored (stored_put2 hg (noDig_bool _) (noDig_slice _ _ _)),hr2⟩
     refine aa rfl rfl ?_ ?_
     · intro wr x hC; simp only [deps,at_,List.getD_cons_zero,List.getD_cons_succ,PK.sem,PK.move,kCellInt,kInt,kNumO,kCellNumO,kRoO,kNum2O,kPutNumO,kIntO,kCellIntO]; intro hA; intro K hK; obtain ⟨A,k,c,hx,hr1,hr2⟩:=hA; obtain ⟨u0,v0,hg⟩:=hC.two (show _ ∈ ([(w.heap.size + 1 + 1),(w.heap.size + 1 + 1 + 1)] : List Nat) by simp) J3; obtain ⟨m1,m2,m3,m4⟩:=hg.two; simp only [putE,retOf,hx]
       go_simp
       exact hK _ _ (stored_put2 hg (noDig_bool _) (noDig_slice _ _ _)) ⟨_,ay hg (noDig_bool _) (noDig_slice _ _ _),A,k,c,rfl,(stored_put2 hg (noDig_bool _) (noDig_slice _ _ _)).rr hr1,hr2⟩
     refine aa rfl rfl ?_ ?_
     · intro wr x hC; simp only [deps,at_,List.getD_cons_zero,List.getD_cons_succ,PK.sem,PK.move,kIs,kNumO,kCellNumO,kRoO,kNum2O,kPutNumO,kIntO,kCellIntO]; intro K hK; simp only [putE,retOf]
       go_simp
       exact hK _ _ (Below.refl _ _) rfl
     exact ag rfl
   case en =>
     intro wr x hC hall; have h4:=hall 4 (of_decide_eq_true (by kernel_rfl)); have h5:=hall 5 (of_decide_eq_true (by kernel_rfl)); have h6:=hall 6 (of_decide_eq_true (by kernel_rfl)); clear hall; simp only [at_,List.getD_cons_zero,List.getD_cons_succ,PK.sem,kCellInt,kIs,kNumO,kCellNumO,kRoO,kNum2O,kPutNumO,kIntO,kCellIntO] at h4 h5 h6; obtain ⟨_,e4,A4,k4,c4,rfl,r4,z4⟩:=h4; obtain ⟨_,e5,A5,k5,c5,rfl,r5,z5⟩:=h5; have hbw:=bwr.trans hC.below; obtain ⟨i1,i2,_,_⟩:=e4.two; obtain ⟨j1,j2,_,_⟩:=e5.two; simp only [putE,h6]; clear h6
     go_wp2
     refine bodyPost_ret (v:=.tuple #[.agg #[.bool sq,.slice A4 k4 c4],.agg #[.bool sm,.slice A5 k5 c5],.int .i64 0]) (by simp [results,Tryz.results59,go_sem,i1,i2,j1,j2]) rfl ?_; exact ⟨_,_,rfl,⟨A4,k4,c4,rfl,r4.mono (by omega),z4⟩,⟨A5,k5,c5,rfl,r5,z5⟩,hbw⟩
def ZrO (W : World) (B : Nat) (v : Value) (k : Nat) (z : Int) : Prop:=∃ A l c,v = .agg #[.bool (decide (z < 0)),.slice A l c] ∧ Ro W B (.slice A l c) z.natAbs ∧ z.natAbs < 1000000000 ^ k
def PrO (W : World) (B : Nat) (v : Value) (k : Nat) (x y : Int) : Prop:=∃ A l c A' l' c',v = .agg #[.bool (decide (x < 0)),.slice A l c,.bool (decide (y < 0)),.slice A' l' c'] ∧ (Ro W B (.slice A l c) x.natAbs ∧ x.natAbs < 1000000000 ^ k) ∧ Ro W B (.slice A' l' c') y.natAbs ∧ y.natAbs < 1000000000 ^ k
theorem PrO.pr {W : World} {B k : Nat} {v : Value} {x y : Int} (h : PrO W B v k x y) : Pr W v k x y:=by
 obtain ⟨A,l,c,A',l',c',e,⟨h1,h2⟩,h3,h4⟩:=h
 exact ⟨A,l,c,A',l',c',e,⟨h1.1,h2⟩,h3.1,h4⟩
theorem PrO.below {W W' : World} {B k : Nat} {v : Value} {x y : Int} (h : PrO W B v k x y) (hb : Below W.heap.size W W') : PrO W' B v k x y:=by
 obtain ⟨A,l,c,A',l',c',e,⟨h1,h2⟩,h3,h4⟩:=h
 exact ⟨A,l,c,A',l',c',e,⟨h1.below hb,h2⟩,h3.below hb,h4⟩
theorem PrO.stored {W W' : World} {B k g : Nat} {v : Value} {x y : Int} (h : PrO W B v k x y) (hs : Stored g W W') : PrO W' B v k x y:=by
 obtain ⟨A,l,c,A',l',c',e,⟨h1,h2⟩,h3,h4⟩:=h
 exact ⟨A,l,c,A',l',c',e,⟨h1.stored hs,h2⟩,h3.stored hs,h4⟩
theorem PrO.mono {W : World} {B B' k : Nat} {v : Value} {x y : Int} (h : PrO W B v k x y) (hB : B' ≤ B) : PrO W B' v k x y:=by
 obtain ⟨A,l,c,A',l',c',e,⟨h1,h2⟩,h3,h4⟩:=h
 exact ⟨A,l,c,A',l',c',e,⟨h1.mono hB,h2⟩,h3.mono hB,h4⟩
theorem PrO.tight {W : World} {B j k : Nat} {v : Value} {x y : Int} (h : PrO W B v j x y) (hx : x.natAbs < 1000000000 ^ k) (hy : y.natAbs < 1000000000 ^ k) : PrO W B v k x y:=by
 obtain ⟨A,l,c,A',l',c',e,⟨h1,_⟩,h3,_⟩:=h
 exact ⟨A,l,c,A',l',c',e,⟨h1,hx⟩,h3,hy⟩
def TellsPO (w : World) (k : Nat) (x y : Int) (e : Ending) (w' : World) : Prop:=∃ v,e = .returned v ∧ PrO w' w.heap.size v k x y ∧ Below w.heap.size w w'
def TellsQO (w : World) (j k : Nat) (q r : Int) (e : Ending) (w' : World) : Prop:=∃ v u,e = .returned (.tuple #[v,u,.int .i64 0]) ∧ ZrO w' w.heap.size v j q ∧ Zr w' u k r ∧ Below w.heap.size w w'
theorem z_divMod_o {w : World} {v1 v2 : Value} {j k m : Nat} {x y : Int} (h1 : Zd w v1 j x) (h2 : Zd w v2 k y) (hy : y ≠ 0) (h1m : 1 < m) (hj : j < m) (hk : k ≤ m) (hm : m ≤ 3999) : Calls Tryz.prog 59 #[v1,v2] w (TellsQO w m k (zq x y) (zm x y)):=by
 have hl1:=h1.lt
 have hl2:=h2.lt
 have hq:=zq_le (x:=x) (y:=y)
 have hr:=zm_lt (x:=x) hy
 have hp : 0 < 1000000000 ^ j:=Nat.pow_pos (by decide)
 have hqb : (zq x y).natAbs < 1000000000 ^ m:=Nat.lt_of_le_of_lt hq (two_pow (j:=j) (k:=1) hl1 (by decide) hj h1m)
 obtain ⟨b1,A1,l1,c1,n1,rfl,r1,e1,rfl⟩:=h1
 obtain ⟨b2,A2,l2,c2,n2,rfl,r2,e2,rfl⟩:=h2
 have hn2 : 0 < n2:=by
   have:=bg n2 b2; omega
 have h:=divMod_o b1 b2 r1 r2 hn2 (Nat.lt_of_lt_of_le e1 (pow_le (Nat.le_of_lt hj))) (Nat.lt_of_lt_of_le e2 (pow_le hk)) hm
 have s2 : decide (zOf n2 b2 < 0) = b2:=by rw [dj,sgn,decide_eq_true (show n2 ≠ 0 by omega),Bool.and_true]
 refine h.mono fun e w' hh=>?_
 obtain ⟨a,b,he,⟨A,l,c,rfl,ra,_⟩,⟨A',l',c',rfl,rb,_⟩,hb⟩:=hh
 have eq1 : zq (zOf n1 b1) (zOf n2 b2) = zOf (divQ n1 (sgn n1 b1) n2 b2) (sgn n1 b1 != b2):=by
   unfold zq; rw [bg,bg,dj,s2]
 have er1 : zm (zOf n1 b1) (zOf n2 b2) = zOf (divR n1 (sgn n1 b1) n2 b2) b2:=by
   unfold zm; rw [bg,bg,dj,s2]
 refine ⟨_,_,he,⟨A,l,c,?_,?_,hqb⟩,⟨A',l',c',?_,?_,Nat.lt_trans hr hl2⟩,hb⟩
 · rw [eq1,dj]
 · rw [eq1,bg]; exact ra
 · rw [er1,dj]
 · rw [er1,bg]; exact rb
theorem lowest_o {w : World} {v1 v2 : Value} {k : Nat} {n d : Int} (h1 : Zr w v1 k n) (h2 : Zr w v2 k d) (hd : d ≠ 0) (hk1 : 1 ≤ k) (hk : k ≤ 3998) :
   Calls Tryz.prog 69 #[v1,v2] w (TellsPO w k (Rat.divInt n d).num ((Rat.divInt n d).den : Int)):=by
 obtain ⟨A1,l1,c1,rfl,r1,u1⟩:=h1
 obtain ⟨A2,l2,c2,rfl,r2,u2⟩:=h2
 have hx1 : ∀ W,Below w.heap.size w W → Zr W (.agg #[.bool (decide (n < 0)),.slice A1 l1 c1]) k n:=fun W hW=>⟨A1,l1,c1,rfl,r1.below hW,u1⟩
 have hx2 : ∀ W,Below w.heap.size w W → Zr W (.agg #[.bool (decide (d < 0)),.slice A2 l2 c2]) k d:=fun W hW=>⟨A2,l2,c2,rfl,r2.below hW,u2⟩
 obtain ⟨b1,hb1⟩ : ∃ b,b = decide (n < 0):=⟨_,rfl⟩
 obtain ⟨b2,hb2⟩ : ∃ b,b = decide (d < 0):=⟨_,rfl⟩
 rw [← hb1] at hx1 ⊢
 rw [← hb2] at hx2 ⊢
 have HX1:=Lib.hid hx1
 have HX2:=Lib.hid hx2
 have HD:=Lib.hid (show d ≠ 0 ∧ 1 ≤ k ∧ k ≤ 3998 ∧ b2 = decide (d < 0) ∧ n.natAbs < 1000000000 ^ k ∧ d.natAbs < 1000000000 ^ k from ⟨hd,hk1,hk,hb2,u1,u2⟩)
 clear hx1 hx2 hd hk1 hk hb1 hb2 u1 u2 r1 r2
 obtain ⟨W0,hW0⟩ : ∃ W,W = ((w.alloc (Obj.cells #[Value.bool b1,Value.slice A1 l1 c1] 24)).alloc (Obj.cells #[Value.bool b2,Value.slice A2 l2 c2] 24)).alloc (Obj.cells #[Value.bool false,Value.slice none 0 0,Value.bool false,Value.slice none 0 0] 72):=⟨_,rfl⟩
 obtain ⟨bW0,sW0,K0,K1,K2⟩:=fv hW0
 have sW0' : W0.heap.size = w.heap.size + 1 + 1 + 1:=sW0
 have hgc:=l_gcd2 (HX1.out W0 bW0).zd (HX2.out W0 bW0).zd (by have:=HD.out.2.2.1; omega)
 rw [sW0'] at hgc
 have HW0:=Lib.hid hW0
 have HGC:=Lib.hid hgc
 have HK:=Lib.hid (show _ ∧ _ ∧ _ from ⟨K0,K1,K2⟩)
 have HB0:=Lib.hid bW0
 clear hgc hW0 K0 K1 K2 bW0 sW0
 by_cases hneg : d < 0
 · have eb2 : b2 = true:=by rw [HD.out.2.2.2.1]; exact decide_eq_true hneg
   subst eb2; have HN:=Lib.hid hneg; clear hneg
   go_enter Tryz.func69,Tryz.ntmps69
   go_wp2_with fail
   rw [← HW0.out]; refine HGC.out.mono ?_; rintro e w1 ⟨v,rfl,⟨A3,l3,c3,rfl,r3,u3⟩,hb1⟩; have b01:=bstep (bal (Below.refl W0.heap.size W0) _) hb1; have hz1:=b01.size; have K1:=(b01.block (w.heap.size + 1) (by omega)).trans HK.out.2.1; have K0:=(b01.block w.heap.size (by omega)).trans HK.out.1; have K2:=(b01.block (w.heap.size + 1 + 1) (by omega)).trans HK.out.2.2; have HB1:=Lib.hid (HB0.out.trans (b01.mono (by omega))); obtain ⟨q1,q2,_,_⟩:=cell_of_two K1; obtain ⟨q3,q4,_,_⟩:=cell_of_two K0; have HK1:=Lib.hid (show _ ∧ _ ∧ _ from ⟨K0,K1,K2⟩); have hlt0 : w.heap.size < w1.heap.size:=by omega
   have hlt1 : w.heap.size + 1 < w1.heap.size:=by omega
   have hlt2 : w.heap.size + 1 + 1 < w1.heap.size:=by omega
   have HR3:=Lib.hid (show _ ∧ _ from ⟨r3,u3⟩); clear b01 hb1 hz1 K0 K1 K2 r3 u3
   obtain ⟨s3,hs3⟩ : ∃ s,s = decide (((zgcd [(n),(d)] : Nat) : Int) < 0):=⟨_,rfl⟩
   rw [← hs3]; have HNG:=Lib.hid (z_neg (w:=w1.alloc (Obj.cells #[Value.bool s3,Value.slice A3 l3 c3] 24)) (v:=.agg #[.bool s3,.slice A3 l3 c3]) (Zr.zd ⟨A3,l3,c3,by rw [hs3],HR3.out.1.alloc _,HR3.out.2⟩) (by have:=HD.out.2.2.1; omega)); clear hs3
   go_wp2_with fail
   refine HNG.out.mono ?_; rintro e w2 ⟨v,rfl,⟨A4,l4,c4,rfl,r4,u4⟩,hb2⟩
   obtain ⟨s4,hs4⟩ : ∃ s,s = decide (-((zgcd [(n),(d)] : Nat) : Int) < 0):=⟨_,rfl⟩
   rw [← hs4]; have b12:=bstep (bal (Below.refl w1.heap.size w1) _) hb2; have hz2:=b12.size; have K0:=(b12.block w.heap.size (by omega)).trans HK1.out.1; have K1:=(b12.block (w.heap.size + 1) (by omega)).trans HK1.out.2.1; have K2:=(b12.block (w.heap.size + 1 + 1) (by omega)).trans HK1.out.2.2; have K3:=(hb2.block w1.heap.size (lt_alloc _ _)).trans (heap_alloc_new _ _); have hlt3 : w1.heap.size < w2.heap.size:=Nat.lt_of_lt_of_le (lt_alloc w1 _) hb2.size; have HB2:=Lib.hid (HB1.out.trans (b12.mono (by omega))); obtain ⟨p1,p2,_,_⟩:=cell_of_two K0; obtain ⟨m1,m2,m3,m4⟩:=cell_of_two K3; have hne0 : w.heap.size ≠ w1.heap.size:=by omega
   have hne1 : w.heap.size + 1 ≠ w1.heap.size:=by omega
   have hne2 : w.heap.size + 1 + 1 ≠ w1.heap.size:=by omega
   obtain ⟨_,_,t3⟩:=bk (a':=.bool s4) (b':=.slice A4 l4 c4) K3 (fun d h=>by cases h) (fun d h=>by cases h) r4
   obtain ⟨W3,hW3⟩ : ∃ W,W = ((w2.setCell ⟨w1.heap.size,0,none⟩ (.bool s4)).setCell ⟨w1.heap.size,1,none⟩ (.slice A4 l4 c4)).alloc (Obj.cells #[Value.bool false,Value.slice none 0 0,Value.bool false,Value.slice none 0 0] 72):=⟨_,rfl⟩
   have far : ∀ i,i < w2.heap.size → i ≠ w1.heap.size → W3.heap[i]? = w2.heap[i]?:=fun i hi hn=>by
     rw [hW3,Below.heap_alloc _ _ _ (by simp; omega)]; exact (Below.heap_setCell _ _ _ _ hn).trans (Below.heap_setCell _ _ _ _ hn)
   have J0:=(far _ (by omega) hne0).trans K0; have J1:=(far _ (by omega) hne1).trans K1; have J2:=(far _ (by omega) hne2).trans K2
   have J3 : W3.heap[w1.heap.size]? = some (Obj.cells #[Value.bool s4,Value.slice A4 l4 c4] 24):=by
     rw [hW3,Below.heap_alloc _ _ _ (by simp; omega)]; exact ic (set_two0 K3)
   have J4 : W3.heap[w2.heap.size]? = some (Obj.cells #[Value.bool false,Value.slice none 0 0,Value.bool false,Value.slice none 0 0] 72):=by
     rw [hW3]; exact new_at (by simp)
   have sz3 : W3.heap.size = w2.heap.size + 1:=by rw [hW3]; simp
   have b3 : Below w.heap.size w W3:=by
     rw [hW3]; exact bal ((((HB1.out.trans (b12.mono (by omega))).setCell (Nat.le_of_lt hlt0) _).setCell (Nat.le_of_lt hlt0) _)) _
   have r5 : Rr W3 (.slice A4 l4 c4) (-((zgcd [(n),(d)] : Nat) : Int)).natAbs:=by rw [hW3]; exact t3.alloc _
   obtain ⟨p1,p2,_,_⟩:=cell_of_two J0; obtain ⟨p3,p4,_,_⟩:=cell_of_two J3; rw [hW3] at p1 p2 p3 p4; have HT:=Lib.hid (show _ ∧ _ ∧ _ ∧ _ ∧ _ from ⟨J0,J1,J2,J3,J4⟩); have HS:=Lib.hid (show Zr W3 (.agg #[.bool s4,.slice A4 l4 c4]) k (sdiv n d) from ⟨A4,l4,c4,by rw [hs4,sdiv,if_pos HN.out],by rw [sdiv,if_pos HN.out]; exact r5,by rw [sdiv,if_pos HN.out]; exact u4⟩); have HB3:=Lib.hid b3; have HW3:=Lib.hid hW3; have hl3 : w2.heap.size < W3.heap.size:=by omega
   have hl4 : w1.heap.size < w2.heap.size:=hlt3; have hl5 : w.heap.size + 1 + 1 < w1.heap.size:=by omega
   clear far J0 J1 J2 J3 J4 b3 r5 t3 r4 u4 hs4 b12 hb2 hz2 K0 K1 K2 K3 q1 q2 q3 q4 hW3
   go_wp2_with fail
   rw [← HW3.out]; refine (z_divMod_o (m:=k + 1) (HX1.out _ HB3.out).zd HS.out.zd (sdiv_ne HD.out.1) (by have:=HD.out.2.1; omega) (by omega) (by omega) (by have:=HD.out.2.2.1; omega)).mono ?_; rw [jq HD.out.1]; rintro e w4 ⟨vq,vr,rfl,⟨A5,l5,c5,rfl,r5,_⟩,⟨A6,l6,c6,rfl,_,_⟩,hb4⟩; have r5:=r5.mono HB3.out.size
   obtain ⟨s5,hs5⟩ : ∃ s,s = decide ((Rat.divInt n d).num < 0):=⟨_,rfl⟩
   rw [← hs5]; have hz4:=hb4.size; have L1:=(hb4.block (w.heap.size + 1) (by omega)).trans HT.out.2.1; have L2:=(hb4.block (w.heap.size + 1 + 1) (by omega)).trans HT.out.2.2.1; have L3:=(hb4.block w1.heap.size (by omega)).trans HT.out.2.2.2.1
   have L4 : Holds_ w4 w2.heap.size #[Value.bool false,Value.slice none 0 0,Value.bool false,Value.slice none 0 0]:=⟨⟨_,(hb4.block w2.heap.size (by omega)).trans HT.out.2.2.2.2⟩,by simp [noDig]⟩
   obtain ⟨y1,y2,y3,y4,y5,y6,y7,y8⟩:=L4.four; obtain ⟨st5,L5⟩:=ga L4 (noDig_bool s5) (noDig_slice A5 l5 c5)
   obtain ⟨W5,hW5⟩ : ∃ W,W = (w4.setCell ⟨w2.heap.size,0,none⟩ (.bool s5)).setCell ⟨w2.heap.size,1,none⟩ (.slice A5 l5 c5):=⟨_,rfl⟩
   rw [← hW5] at st5 L5; have b5 : Below w.heap.size w W5:=st5.below (HB3.out.trans (hb4.mono (by omega))) (by omega); have M1:=(st5.other (w.heap.size + 1) (by omega)).trans L1; have M2:=(st5.other (w.heap.size + 1 + 1) (by omega)).trans L2; have M3:=(st5.other w1.heap.size (by omega)).trans L3; have HS5:=Lib.hid ((HS.out.below hb4).stored st5); have R5:=Lib.hid (show _ ∧ _ from ⟨r5.stored st5,hs5⟩); obtain ⟨u1,u2,_,_⟩:=cell_of_two M1; obtain ⟨u3,u4',_,_⟩:=cell_of_two M3; rw [hW5] at u1 u2 u3 u4'; have HW5:=Lib.hid hW5; have HB5:=Lib.hid b5; have HM:=Lib.hid (show _ ∧ _ ∧ _ ∧ _ from ⟨M1,M2,M3,L5⟩); have hz5 : W5.heap.size = w4.heap.size:=st5.size; clear hb4 L1 L2 L3 L4 st5 L5 b5 M1 M2 M3 r5 hs5 hW5 p1 p2 p3 p4
   go_wp2_with fail
   rw [← HW5.out]; refine (z_divMod_o (m:=k + 1) (HX2.out _ HB5.out).zd HS5.out.zd (sdiv_ne HD.out.1) (by have:=HD.out.2.1; omega) (by omega) (by omega) (by have:=HD.out.2.2.1; omega)).mono ?_; rw [jr HD.out.1]; rintro e w6 ⟨vq,vr,rfl,⟨A7,l7,c7,rfl,r7,_⟩,⟨A8,l8,c8,rfl,_,_⟩,hb6⟩; have r7:=r7.mono HB5.out.size
   obtain ⟨s7,hs7⟩ : ∃ s,s = decide (((Rat.divInt n d).den : Int) < 0):=⟨_,rfl⟩
   rw [← hs7]; have hz6:=hb6.size
   have N2 : Holds_ w6 (w.heap.size + 1 + 1) #[Value.bool false,Value.slice none 0 0,Value.bool false,Value.slice none 0 0]:=⟨⟨_,(hb6.block (w.heap.size + 1 + 1) (by omega)).trans HM.out.2.1⟩,by simp [noDig]⟩
   have N4:=HM.out.2.2.2.step hb6; obtain ⟨y1,y2,y3,y4,y5,y6,y7,y8⟩:=N4.four; obtain ⟨st7,L7⟩:=gb N4 (noDig_bool s7) (noDig_slice A7 l7 c7)
   obtain ⟨W7,hW7⟩ : ∃ W,W = (w6.setCell ⟨w2.heap.size,2,none⟩ (.bool s7)).setCell ⟨w2.heap.size,3,none⟩ (.slice A7 l7 c7):=⟨_,rfl⟩
   rw [← hW7] at st7 L7; have N7:=N2.stored st7 (by omega); have st8:=bu N7 (noDig_bool s5) (noDig_slice A5 l5 c5) (noDig_bool s7) (noDig_slice A7 l7 c7); have N8:=cd N7 (noDig_bool s5) (noDig_slice A5 l5 c5) (noDig_bool s7) (noDig_slice A7 l7 c7); have b8:=st8.below (st7.below (HB5.out.trans (hb6.mono (by omega))) (by omega)) (show w.heap.size ≤ w.heap.size + 1 + 1 by omega); have hle:=fj n d; have hle2:=fk (n:=n) HD.out.1
   have P8 : PrO (put4 W7 (w.heap.size + 1 + 1) (.bool s5) (.slice A5 l5 c5) (.bool s7) (.slice A7 l7 c7)) w.heap.size (.agg #[.bool s5,.slice A5 l5 c5,.bool s7,.slice A7 l7 c7]) k (Rat.divInt n d).num ((Rat.divInt n d).den : Int) :=
     ⟨A5,l5,c5,A7,l7,c7,by rw [R5.out.2,hs7],⟨((R5.out.1.below hb6).stored st7).stored st8,Nat.lt_of_le_of_lt hle HD.out.2.2.2.2.1⟩,(r7.stored st7).stored st8,Nat.lt_of_le_of_lt (by rw [Int.natAbs_natCast]; exact hle2) HD.out.2.2.2.2.2⟩
   obtain ⟨f1,f2,f3,f4,_,_,_,_⟩:=L7.four; obtain ⟨g1,g2,g3,g4,g5,g6,g7,g8⟩:=N7.four; obtain ⟨i1,i2,i3,i4,_,_,_,_⟩:=N8.four; have HF:=Lib.hid (show _ ∧ _ from ⟨P8,b8⟩); rw [hW7] at f1 f2 f3 f4 g1 g2 g3 g4 g5 g6 g7 g8 i1 i2 i3 i4 HF; unfold put4 at i1 i2 i3 i4; have HI:=Lib.hid (show _ ∧ _ ∧ _ ∧ _ from ⟨i1,i2,i3,i4⟩); clear hb6 N2 N4 st7 L7 N7 st8 N8 b8 P8 r7 hs7 hW7 u1 u2 u3 u4' i1 i2 i3 i4 hle hle2
   go_wp2
   obtain ⟨i1,i2,i3,i4⟩:=HI.out; refine bodyPost_ret (v:=.agg #[.bool s5,.slice A5 l5 c5,.bool s7,.slice A7 l7 c7]) (by simp [results,Tryz.results69,go_sem,i1,i2,i3,i4]) rfl ?_; exact ⟨_,rfl,HF.out.1,HF.out.2⟩
 · have eb2 : b2 = false:=by rw [HD.out.2.2.2.1]; exact decide_eq_false hneg
   subst eb2; have HN:=Lib.hid hneg; clear hneg
   go_enter Tryz.func69,Tryz.ntmps69
   go_wp2_with fail
   rw [← HW0.out]; refine HGC.out.mono ?_; rintro e w1 ⟨v,rfl,⟨A3,l3,c3,rfl,r3,u3⟩,hb1⟩; have b01:=bstep (bal (Below.refl W0.heap.size W0) _) hb1; have hz1:=b01.size; have K1:=(b01.block (w.heap.size + 1) (by omega)).trans HK.out.2.1; have K0:=(b01.block w.heap.size (by omega)).trans HK.out.1; have K2:=(b01.block (w.heap.size + 1 + 1) (by omega)).trans HK.out.2.2; have HB1:=Lib.hid (HB0.out.trans (b01.mono (by omega))); obtain ⟨q1,q2,_,_⟩:=cell_of_two K1; obtain ⟨q3,q4,_,_⟩:=cell_of_two K0; have HK1:=Lib.hid (show _ ∧ _ ∧ _ from ⟨K0,K1,K2⟩); have hlt0 : w.heap.size < w1.heap.size:=by omega
   have hlt1 : w.heap.size + 1 < w1.heap.size:=by omega
   have hlt2 : w.heap.size + 1 + 1 < w1.heap.size:=by omega
   have HR3:=Lib.hid (show _ ∧ _ from ⟨r3,u3⟩); clear b01 hb1 hz1 K0 K1 K2 r3 u3
   obtain ⟨s3,hs3⟩ : ∃ s,s = decide (((zgcd [(n),(d)] : Nat) : Int) < 0):=⟨_,rfl⟩
   rw [← hs3]
   obtain ⟨W3,hW3⟩ : ∃ W,W = (w1.alloc (Obj.cells #[Value.bool s3,Value.slice A3 l3 c3] 24)).alloc (Obj.cells #[Value.bool false,Value.slice none 0 0,Value.bool false,Value.slice none 0 0] 72):=⟨_,rfl⟩
   have far : ∀ i,i < w1.heap.size → W3.heap[i]? = w1.heap[i]?:=fun i hi=>by
     rw [hW3,Below.heap_alloc _ _ _ (by simp; omega),Below.heap_alloc _ _ _ hi]
   have J0:=(far _ hlt0).trans HK1.out.1; have J1:=(far _ hlt1).trans HK1.out.2.1; have J2:=(far _ hlt2).trans HK1.out.2.2
   have J3 : W3.heap[w1.heap.size]? = some (Obj.cells #[Value.bool s3,Value.slice A3 l3 c3] 24):=by
     rw [hW3,Below.heap_alloc _ _ _ (by simp)]; exact heap_alloc_new _ _
   have J4 : W3.heap[w1.heap.size + 1]? = some (Obj.cells #[Value.bool false,Value.slice none 0 0,Value.bool false,Value.slice none 0 0] 72):=by
     rw [hW3]; exact new_at (by simp)
   have sz3 : W3.heap.size = w1.heap.size + 1 + 1:=by rw [hW3]; simp
   have b3 : Below w.heap.size w W3:=by
     rw [hW3]; exact bal (bal HB1.out _) _
   have r5 : Rr W3 (.slice A3 l3 c3) (((zgcd [(n),(d)] : Nat) : Int)).natAbs:=by rw [hW3]; exact (HR3.out.1.alloc _).alloc _
   obtain ⟨p1,p2,_,_⟩:=cell_of_two J0; obtain ⟨p3,p4,_,_⟩:=cell_of_two J3; rw [hW3] at p1 p2 p3 p4; have HT:=Lib.hid (show _ ∧ _ ∧ _ ∧ _ ∧ _ from ⟨J0,J1,J2,J3,J4⟩); have HS:=Lib.hid (show Zr W3 (.agg #[.bool s3,.slice A3 l3 c3]) k (sdiv n d) from ⟨A3,l3,c3,by rw [hs3,sdiv,if_neg (show ¬ d < 0 by have:=HN.out; omega)],by rw [sdiv,if_neg (show ¬ d < 0 by have:=HN.out; omega)]; exact r5,by rw [sdiv,if_neg (show ¬ d < 0 by have:=HN.out; omega)]; exact HR3.out.2⟩); have HB3:=Lib.hid b3; have HW3:=Lib.hid hW3; have hl3 : w1.heap.size + 1 < W3.heap.size:=by omega
   clear far J0 J1 J2 J3 J4 b3 r5 q3 q4 hW3 hs3
   go_wp2_with fail
   rw [← HW3.out]; refine (z_divMod_o (m:=k + 1) (HX1.out _ HB3.out).zd HS.out.zd (sdiv_ne HD.out.1) (by have:=HD.out.2.1; omega) (by omega) (by omega) (by have:=HD.out.2.2.1; omega)).mono ?_; rw [jq HD.out.1]; rintro e w4 ⟨vq,vr,rfl,⟨A5,l5,c5,rfl,r5,_⟩,⟨A6,l6,c6,rfl,_,_⟩,hb4⟩; have r5:=r5.mono HB3.out.size
   obtain ⟨s5,hs5⟩ : ∃ s,s = decide ((Rat.divInt n d).num < 0):=⟨_,rfl⟩
   rw [← hs5]; have hz4:=hb4.size; have L1:=(hb4.block (w.heap.size + 1) (by omega)).trans HT.out.2.1; have L2:=(hb4.block (w.heap.size + 1 + 1) (by omega)).trans HT.out.2.2.1; have L3:=(hb4.block w1.heap.size (by omega)).trans HT.out.2.2.2.1
   have L4 : Holds_ w4 (w1.heap.size + 1) #[Value.bool false,Value.slice none 0 0,Value.bool false,Value.slice none 0 0]:=⟨⟨_,(hb4.block (w1.heap.size + 1) (by omega)).trans HT.out.2.2.2.2⟩,by simp [noDig]⟩
   obtain ⟨y1,y2,y3,y4,y5,y6,y7,y8⟩:=L4.four; obtain ⟨st5,L5⟩:=ga L4 (noDig_bool s5) (noDig_slice A5 l5 c5)
   obtain ⟨W5,hW5⟩ : ∃ W,W = (w4.setCell ⟨w1.heap.size + 1,0,none⟩ (.bool s5)).setCell ⟨w1.heap.size + 1,1,none⟩ (.slice A5 l5 c5):=⟨_,rfl⟩
   rw [← hW5] at st5 L5; have b5 : Below w.heap.size w W5:=st5.below (HB3.out.trans (hb4.mono (by omega))) (by omega); have M1:=(st5.other (w.heap.size + 1) (by omega)).trans L1; have M2:=(st5.other (w.heap.size + 1 + 1) (by omega)).trans L2; have M3:=(st5.other w1.heap.size (by omega)).trans L3; have HS5:=Lib.hid ((HS.out.below hb4).stored st5); have R5:=Lib.hid (show _ ∧ _ from ⟨r5.stored st5,hs5⟩); obtain ⟨u1,u2,_,_⟩:=cell_of_two M1; obtain ⟨u3,u4',_,_⟩:=cell_of_two M3; rw [hW5] at u1 u2 u3 u4'; have HW5:=Lib.hid hW5; have HB5:=Lib.hid b5; have HM:=Lib.hid (show _ ∧ _ ∧ _ ∧ _ from ⟨M1,M2,M3,L5⟩); have hz5 : W5.heap.size = w4.heap.size:=st5.size; clear hb4 L1 L2 L3 L4 st5 L5 b5 M1 M2 M3 r5 hs5 hW5 p1 p2 p3 p4
   go_wp2_with fail
   rw [← HW5.out]; refine (z_divMod_o (m:=k + 1) (HX2.out _ HB5.out).zd HS5.out.zd (sdiv_ne HD.out.1) (by have:=HD.out.2.1; omega) (by omega) (by omega) (by have:=HD.out.2.2.1; omega)).mono ?_; rw [jr HD.out.1]; rintro e w6 ⟨vq,vr,rfl,⟨A7,l7,c7,rfl,r7,_⟩,⟨A8,l8,c8,rfl,_,_⟩,hb6⟩; have r7:=r7.mono HB5.out.size
   obtain ⟨s7,hs7⟩ : ∃ s,s = decide (((Rat.divInt n d).den : Int) < 0):=⟨_,rfl⟩
   rw [← hs7]; have hz6:=hb6.size
   have N2 : Holds_ w6 (w.heap.size + 1 + 1) #[Value.bool false,Value.slice none 0 0,Value.bool false,Value.slice none 0 0]:=⟨⟨_,(hb6.block (w.heap.size + 1 + 1) (by omega)).trans HM.out.2.1⟩,by simp [noDig]⟩
   have N4:=HM.out.2.2.2.step hb6; obtain ⟨y1,y2,y3,y4,y5,y6,y7,y8⟩:=N4.four; obtain ⟨st7,L7⟩:=gb N4 (noDig_bool s7) (noDig_slice A7 l7 c7)
   obtain ⟨W7,hW7⟩ : ∃ W,W = (w6.setCell ⟨w1.heap.size + 1,2,none⟩ (.bool s7)).setCell ⟨w1.heap.size + 1,3,none⟩ (.slice A7 l7 c7):=⟨_,rfl⟩
   rw [← hW7] at st7 L7; have N7:=N2.stored st7 (by omega); have st8:=bu N7 (noDig_bool s5) (noDig_slice A5 l5 c5) (noDig_bool s7) (noDig_slice A7 l7 c7); have N8:=cd N7 (noDig_bool s5) (noDig_slice A5 l5 c5) (noDig_bool s7) (noDig_slice A7 l7 c7); have b8:=st8.below (st7.below (HB5.out.trans (hb6.mono (by omega))) (by omega)) (show w.heap.size ≤ w.heap.size + 1 + 1 by omega); have hle:=fj n d; have hle2:=fk (n:=n) HD.out.1
   have P8 : PrO (put4 W7 (w.heap.size + 1 + 1) (.bool s5) (.slice A5 l5 c5) (.bool s7) (.slice A7 l7 c7)) w.heap.size (.agg #[.bool s5,.slice A5 l5 c5,.bool s7,.slice A7 l7 c7]) k (Rat.divInt n d).num ((Rat.divInt n d).den : Int) :=
     ⟨A5,l5,c5,A7,l7,c7,by rw [R5.out.2,hs7],⟨((R5.out.1.below hb6).stored st7).stored st8,Nat.lt_of_le_of_lt hle HD.out.2.2.2.2.1⟩,(r7.stored st7).stored st8,Nat.lt_of_le_of_lt (by rw [Int.natAbs_natCast]; exact hle2) HD.out.2.2.2.2.2⟩
   obtain ⟨f1,f2,f3,f4,_,_,_,_⟩:=L7.four; obtain ⟨g1,g2,g3,g4,g5,g6,g7,g8⟩:=N7.four; obtain ⟨i1,i2,i3,i4,_,_,_,_⟩:=N8.four; have HF:=Lib.hid (show _ ∧ _ from ⟨P8,b8⟩); rw [hW7] at f1 f2 f3 f4 g1 g2 g3 g4 g5 g6 g7 g8 i1 i2 i3 i4 HF; unfold put4 at i1 i2 i3 i4; have HI:=Lib.hid (show _ ∧ _ ∧ _ ∧ _ from ⟨i1,i2,i3,i4⟩); clear hb6 N2 N4 st7 L7 N7 st8 N8 b8 P8 r7 hs7 hW7 u1 u2 u3 u4' i1 i2 i3 i4 hle hle2
   go_wp2
   obtain ⟨i1,i2,i3,i4⟩:=HI.out; refine bodyPost_ret (v:=.agg #[.bool s5,.slice A5 l5 c5,.bool s7,.slice A7 l7 c7]) (by simp [results,Tryz.results69,go_sem,i1,i2,i3,i4]) rfl ?_; exact ⟨_,rfl,HF.out.1,HF.out.2⟩
theorem tp {P : Program} {F : FuncId} {vs : Array Value} {w : World} {S0 : Nat} {x : Nat → Value} {k : Nat} {z1 z2 : Int} (h : Calls P F vs w (TellsP w k z1 z2)) : Calls P F vs w (Told (kP k z1 z2) S0 x w) :=
 h.mono fun _ _ ⟨v,e,h1,h2⟩=>⟨v,e,h2,h1⟩
def kPO (B k : Nat) (x y : Int) : PK:=.p (fun v w=>PrO w B v k x y) (fun _ _ _ h hb=>h.below hb) (fun _ _ _ _ h hs=>h.stored hs)
def isPO (B k : Nat) (x y : Int) (cs : Array Value) (w : World) : Prop:=∃ A l c A' l' c',cs = #[.bool (decide (x < 0)),.slice A l c,.bool (decide (y < 0)),.slice A' l' c'] ∧ PrO w B (.agg #[.bool (decide (x < 0)),.slice A l c,.bool (decide (y < 0)),.slice A' l' c']) k x y
def kResO (B g k : Nat) (x y : Int) : PK:=.cell g (isPO B k x y) (fun _ _ _ ⟨A,l,c,A',l',c',e,h⟩ hb=>⟨A,l,c,A',l',c',e,h.below hb⟩) (fun _ _ _ _ ⟨A,l,c,A',l',c',e,h⟩ hs=>⟨A,l,c,A',l',c',e,h.stored hs⟩)
theorem tpo {P : Program} {F : FuncId} {vs : Array Value} {w : World} {S0 B : Nat} {x : Nat → Value} {k : Nat} {z1 z2 : Int} (hB : B ≤ w.heap.size) (h : Calls P F vs w (TellsPO w k z1 z2)) : Calls P F vs w (Told (kPO B k z1 z2) S0 x w) :=
 h.mono fun _ _ ⟨v,e,h1,h2⟩=>⟨v,e,h2,h1.mono hB⟩
section
variable {G : List Nat} {S0 B : Nat} {ks : List PK} {a0 : Act} {i : Nat} {N : Nat} {W0 : World} {T : TypeId} {pos : String} {af : Array Edge} {gu : Option (Nat × Bool)}
theorem gk {t u j g k B' : Nat} {x1 x2 : Int} {cs0 : Array Value} (h0 : Holds_ W0 g cs0) (hs0 : cs0.size = 4)  (hp : a0.eval (.tmp t) = .pointer (some ⟨g,0,none⟩))    (hj : at_ ks j = kPO B' k x1 x2) (hi : at_ ks i = kResO B' g k x1 x2) (hG : g ∈ G:=by simp) (hN : a0.tmps.size = N:=by assumption) (hu : decide (u < N) = true:=by kernel_rfl) (htu : decide (t = u) = false:=by kernel_rfl) :
   PkStep Tryz.prog (Reg B W0 G) S0 ks a0 i { dst:=none,op:=.store 72 (.tmp t) (.tmp u),type:=T,pos:=pos,after:=af,guard:=gu } [(j,some u)]:=by
 intro w x hC
 refine aw _ fun hdeps K hK=>?_
 have g1:=hdeps (j,some u) (by simp)
 rw [hj] at g1
 obtain ⟨A,l,c,A',l',c',hx,q1,q3,q4⟩:=(show PrO w B' (x j) k x1 x2 from g1)
 have htu' : t ≠ u:=of_decide_eq_false htu
 have e1 : (putE x a0 [(j,some u)]).eval (.tmp t) = .pointer (some ⟨g,0,none⟩):=(putE_old _ _ (by simp [slotAt,Ne.symm htu'])).trans hp
 have e2 : (putE x a0 [(j,some u)]).eval (.tmp u) = x j:=putE_new _ _ (by rw [hN]; exact of_decide_eq_true hu) (by simp [slotAt])
 obtain ⟨a,b,c0,d0,hg⟩:=hC.four hG h0 hs0
 obtain ⟨m1,m2,m3,m4,f1,f2,f3,f4⟩:=hg.four
 have hst:=bu hg (noDig_bool (decide (x1 < 0))) (noDig_slice A l c) (noDig_bool (decide (x2 < 0))) (noDig_slice A' l' c')
 refine gp (w':=put4 w g (.bool (decide (x1 < 0))) (.slice A l c) (.bool (decide (x2 < 0))) (.slice A' l' c')) rfl ?_ (hK _ _ ?_ ?_)
 · exact dz e1 (e2.trans hx) (run_storeF m1 m2 m3 m4 f1 f2 f3 f4)
 · rw [hi]; exact hst
 · rw [hi]; exact ⟨_,cd hg (noDig_bool _) (noDig_slice _ _ _) (noDig_bool _) (noDig_slice _ _ _),A,l,c,A',l',c',rfl,A,l,c,A',l',c',rfl,⟨q1.1.stored hst,q1.2⟩,q3.stored hst,q4⟩
end
theorem gc {fn : Func} {R : Ending → World → Prop} {a : Act} {w : World} {t g k B : Nat} {x y : Int} {cs : Array Value} (hres : fn.results = #[.cell t 72 ]) (hd : a.defers = []) (hp : a.eval (.tmp t) = .pointer (some ⟨g,0,none⟩)) (hg : Holds_ w g cs) (hP : isPO B k x y cs w) (hR : ∀ v,PrO w B v k x y → R (.returned v) w) : bodyPost Tryz.prog fn R .ret a w:=by
 obtain ⟨A,l,c,A',l',c',rfl,h⟩:=hP
 obtain ⟨m1,m2,m3,m4,_,_,_,_⟩:=hg.four
 refine bodyPost_ret (v:=.agg #[.bool (decide (x < 0)),.slice A l c,.bool (decide (y < 0)),.slice A' l' c']) ?_ hd (hR _ h)
 have hp' : a.tmps[t]?.getD undef = .pointer (some ⟨g,0,none⟩):=by
   rw [← Array.getD_eq_getD_getElem?]; exact hp
 simp [results,hres,go_sem,hp',m1,m2,m3,m4]
theorem plus_o {w : World} {v1 v2 : Value} {a b : Rat} (h1 : Pr w v1 79 (a.num) ((a.den : Int))) (h2 : Pr w v2 79 (b.num) ((b.den : Int))) :
   Calls Tryz.prog 81 #[v1,v2] w (TellsPO w 159 (a + b).num ((a + b).den : Int)):=by
 obtain ⟨A1,l1,c1,A1',l1',c1',rfl,⟨r1,u1⟩,r1',u1'⟩:=h1
 obtain ⟨b1,hb1⟩ : ∃ s,s = decide (a.num < 0):=⟨_,rfl⟩
 obtain ⟨b1',hb1'⟩ : ∃ s,s = decide ((a.den : Int) < 0):=⟨_,rfl⟩
 rw [← hb1,← hb1']
 obtain ⟨A2,l2,c2,A2',l2',c2',rfl,⟨r2,u2⟩,r2',u2'⟩:=h2
 obtain ⟨b2,hb2⟩ : ∃ s,s = decide (b.num < 0):=⟨_,rfl⟩
 obtain ⟨b2',hb2'⟩ : ∃ s,s = decide ((b.den : Int) < 0):=⟨_,rfl⟩
 rw [← hb2,← hb2']
 have H1:=Lib.hid (show _ ∧ _ ∧ _ ∧ _ ∧ _ ∧ _ from ⟨hb1,hb1',r1,u1,r1',u1'⟩)
 have H2:=Lib.hid (show _ ∧ _ ∧ _ ∧ _ ∧ _ ∧ _ from ⟨hb2,hb2',r2,u2,r2',u2'⟩)
 clear hb1 hb1' r1 u1 r1' u1' hb2 hb2' r2 u2 r2' u2'
 go_enter Tryz.func81,Tryz.ntmps81
 repeat apply wp_seq
 refine ls fun K HK=>?_
 go_wp2
 refine HK.out _ _ (then_n ?_)
 refine O39 (G:=fun W=>Code.wp _ _ _ _ W) ?_
 intro W_0 bb_0 K0 K1 K2
 obtain ⟨m1,n1,m1',n1',_,_,_,_⟩:=bz K0
 have f1 : AtR W_0 (w.heap.size) 0 79 (a.num):=⟨A1,l1,c1,by rw [← H1.out.1]; exact m1,n1,A1,l1,c1,rfl,H1.out.2.2.1.below bb_0,H1.out.2.2.2.1⟩
 have f1' : AtR W_0 (w.heap.size) 2 79 ((a.den : Int)):=⟨A1',l1',c1',by rw [← H1.out.2.1]; exact m1',n1',A1',l1',c1',rfl,H1.out.2.2.2.2.1.below bb_0,H1.out.2.2.2.2.2⟩
 obtain ⟨m2,n2,m2',n2',_,_,_,_⟩:=bz K1
 have f2 : AtR W_0 (w.heap.size + 1) 0 79 (b.num):=⟨A2,l2,c2,by rw [← H2.out.1]; exact m2,n2,A2,l2,c2,rfl,H2.out.2.2.1.below bb_0,H2.out.2.2.2.1⟩
 have f2' : AtR W_0 (w.heap.size + 1) 2 79 ((b.den : Int)):=⟨A2',l2',c2',by rw [← H2.out.2.1]; exact m2',n2',A2',l2',c2',rfl,H2.out.2.2.2.2.1.below bb_0,H2.out.2.2.2.2.2⟩
 have R:=kg K2
 clear K0 K1 K2 m1 n1 m1' n1' m2 n2 m2' n2'
 refine lm (G:=fun a=>Code.wp _ _ _ a _) 32 ?_
 intro a_0 ha hN_0 hD_0
 have e2_0:=lj ha 2 w.heap.size
 have e3_0:=lj ha 3 (w.heap.size + 1)
 have e4_0:=lj ha 4 (w.heap.size + 1 + 1)
 repeat first | apply lk | apply ll
 refine lu bb_0 R [lf w.heap.size 0,lf w.heap.size 0,kZ 79 (a.num),lf (w.heap.size + 1) 0,lf (w.heap.size + 1) 2,kZ 79 ((b.den : Int)),kZs [(79,(a.num)),(79,((b.den : Int)))],kZ 158 ((a.num) * ((b.den : Int))),lf (w.heap.size + 1) 0,lf (w.heap.size + 1) 0,kZ 79 (b.num),lf w.heap.size 0,lf w.heap.size 2,kZ 79 ((a.den : Int)),kZs [(79,(b.num)),(79,((a.den : Int)))],kZ 158 ((b.num) * ((a.den : Int))),kZs [(158,((a.num) * ((b.den : Int)))),(158,((b.num) * ((a.den : Int))))],kZ 159 (((a.num) * ((b.den : Int))) + ((b.num) * ((a.den : Int)))),lf w.heap.size 0,lf w.heap.size 2,kZ 79 ((a.den : Int)),lf (w.heap.size + 1) 0,lf (w.heap.size + 1) 2,kZ 79 ((b.den : Int)),kZs [(79,((a.den : Int))),(79,((b.den : Int)))],kZ 158 (((a.den : Int)) * ((b.den : Int))),kPO w.heap.size 159 ((Rat.divInt (((a.num) * ((b.den : Int))) + ((b.num) * ((a.den : Int)))) (((a.den : Int)) * ((b.den : Int)))).num) (((Rat.divInt (((a.num) * ((b.den : Int))) + ((b.num) * ((a.den : Int)))) (((a.den : Int)) * ((b.den : Int)))).den : Int)),kResO w.heap.size (w.heap.size + 1 + 1) 159 ((Rat.divInt (((a.num) * ((b.den : Int))) + ((b.num) * ((a.den : Int)))) (((a.den : Int)) * ((b.den : Int)))).num) (((Rat.divInt (((a.num) * ((b.den : Int))) + ((b.num) * ((a.den : Int)))) (((a.den : Int)) * ((b.den : Int)))).den : Int))] [[],[0],[1],[],[3],[4],[2,5],[6],[],[8],[9],[],[11],[12],[10,13],[14],[7,15],[16],[],[18],[19],[],[21],[22],[20,23],[24],[17,25],[26]] [5,6,7,8,9,10,11,12,13,14,15,16,17,18,19,20,21,22,23,24,25,26,27,28,29,30,31,999] [] [] ?_ ?_
 ·
   refine p01 e2_0 ?_; refine p10 ?_; refine ak (hG:=(by simp only [List.mem_singleton]; omega)) f1 ?_; refine p01 e3_0 ?_; refine p10 ?_; refine ak (hG:=(by simp only [List.mem_singleton]; omega)) f2' ?_; refine aa rfl rfl (fg asR asR rfl) ?_; refine aa rfl rfl (ae rfl rfl fun hC h1=>tz (l_mul2 158 (lz h1) (by decide) (by decide) (by decide))) ?_; refine p01 e3_0 ?_; refine p10 ?_; refine ak (hG:=(by simp only [List.mem_singleton]; omega)) f2 ?_; refine p01 e2_0 ?_; refine p10 ?_; refine ak (hG:=(by simp only [List.mem_singleton]; omega)) f1' ?_; refine aa rfl rfl (fg asR asR rfl) ?_; refine aa rfl rfl (ae rfl rfl fun hC h1=>tz (l_mul2 158 (lz h1) (by decide) (by decide) (by decide))) ?_; refine aa rfl rfl (fg asR asR rfl) ?_; refine aa rfl rfl (ae rfl rfl fun hC h1=>tz (l_add2 159 (lz h1) (by decide) (by decide) (by decide))) ?_; refine p01 e2_0 ?_; refine p10 ?_; refine ak (hG:=(by simp only [List.mem_singleton]; omega)) f1' ?_; refine p01 e3_0 ?_; refine p10 ?_; refine ak (hG:=(by simp only [List.mem_singleton]; omega)) f2' ?_; refine aa rfl rfl (fg asR asR rfl) ?_; refine aa rfl rfl (ae rfl rfl fun hC h1=>tz (l_mul2 158 (lz h1) (by decide) (by decide) (by decide))) ?_; refine aa rfl rfl (ap rfl rfl rfl fun hC h1 h2=>tpo (Nat.le_trans bb_0.size hC.below.size) (lowest_o (k:=159) ((rr h1).mono (by decide)) ((rr h2).mono (by decide)) (Int.mul_ne_zero (Int.ne_of_gt (den_pos a)) (Int.ne_of_gt (den_pos b))) (by decide) (by decide))) ?_; refine aa rfl rfl (gk R rfl e4_0 rfl rfl) ?_; exact ag rfl
 intro W x a1 hC hall ha hN1 hD1 bb1
 obtain ⟨cs,hg,hP⟩:=lr hall 27
 have e1:=ab (t:=4) ha e4_0
 repeat first | apply lk | apply ll
 refine wp_ret ?_
 repeat (refine then_r ?_)
 exact gc (t:=4) rfl hD1 e1 hg hP fun v hv=>⟨v,rfl,(q_add a b) ▸ hv,bb1⟩
theorem times_o {w : World} {v1 v2 : Value} {a b : Rat} (h1 : Pr w v1 79 (a.num) ((a.den : Int))) (h2 : Pr w v2 79 (b.num) ((b.den : Int))) :
   Calls Tryz.prog 65 #[v1,v2] w (TellsPO w 158 (a * b).num ((a * b).den : Int)):=by
 obtain ⟨A1,l1,c1,A1',l1',c1',rfl,⟨r1,u1⟩,r1',u1'⟩:=h1
 obtain ⟨b1,hb1⟩ : ∃ s,s = decide (a.num < 0):=⟨_,rfl⟩
 obtain ⟨b1',hb1'⟩ : ∃ s,s = decide ((a.den : Int) < 0):=⟨_,rfl⟩
 rw [← hb1,← hb1']
 obtain ⟨A2,l2,c2,A2',l2',c2',rfl,⟨r2,u2⟩,r2',u2'⟩:=h2
 obtain ⟨b2,hb2⟩ : ∃ s,s = decide (b.num < 0):=⟨_,rfl⟩
 obtain ⟨b2',hb2'⟩ : ∃ s,s = decide ((b.den : Int) < 0):=⟨_,rfl⟩
 rw [← hb2,← hb2']
 have H1:=Lib.hid (show _ ∧ _ ∧ _ ∧ _ ∧ _ ∧ _ from ⟨hb1,hb1',r1,u1,r1',u1'⟩)
 have H2:=Lib.hid (show _ ∧ _ ∧ _ ∧ _ ∧ _ ∧ _ from ⟨hb2,hb2',r2,u2,r2',u2'⟩)
 clear hb1 hb1' r1 u1 r1' u1' hb2 hb2' r2 u2 r2' u2'
 go_enter Tryz.func65,Tryz.ntmps65
 repeat apply wp_seq
 refine ls fun K HK=>?_
 go_wp2
 refine HK.out _ _ (then_n ?_)
 refine O39 (G:=fun W=>Code.wp _ _ _ _ W) ?_
 intro W_0 bb_0 K0 K1 K2
 obtain ⟨m1,n1,m1',n1',_,_,_,_⟩:=bz K0
 have f1 : AtR W_0 (w.heap.size) 0 79 (a.num):=⟨A1,l1,c1,by rw [← H1.out.1]; exact m1,n1,A1,l1,c1,rfl,H1.out.2.2.1.below bb_0,H1.out.2.2.2.1⟩
 have f1' : AtR W_0 (w.heap.size) 2 79 ((a.den : Int)):=⟨A1',l1',c1',by rw [← H1.out.2.1]; exact m1',n1',A1',l1',c1',rfl,H1.out.2.2.2.2.1.below bb_0,H1.out.2.2.2.2.2⟩
 obtain ⟨m2,n2,m2',n2',_,_,_,_⟩:=bz K1
 have f2 : AtR W_0 (w.heap.size + 1) 0 79 (b.num):=⟨A2,l2,c2,by rw [← H2.out.1]; exact m2,n2,A2,l2,c2,rfl,H2.out.2.2.1.below bb_0,H2.out.2.2.2.1⟩
 have f2' : AtR W_0 (w.heap.size + 1) 2 79 ((b.den : Int)):=⟨A2',l2',c2',by rw [← H2.out.2.1]; exact m2',n2',A2',l2',c2',rfl,H2.out.2.2.2.2.1.below bb_0,H2.out.2.2.2.2.2⟩
 have R:=kg K2
 clear K0 K1 K2 m1 n1 m1' n1' m2 n2 m2' n2'
 refine lm (G:=fun a=>Code.wp _ _ _ a _) 22 ?_
 intro a_0 ha hN_0 hD_0
 have e2_0:=lj ha 2 w.heap.size
 have e3_0:=lj ha 3 (w.heap.size + 1)
 have e4_0:=lj ha 4 (w.heap.size + 1 + 1)
 repeat first | apply lk | apply ll
 refine lu bb_0 R [lf w.heap.size 0,lf w.heap.size 0,kZ 79 (a.num),lf (w.heap.size + 1) 0,lf (w.heap.size + 1) 0,kZ 79 (b.num),kZs [(79,(a.num)),(79,(b.num))],kZ 158 ((a.num) * (b.num)),lf w.heap.size 0,lf w.heap.size 2,kZ 79 ((a.den : Int)),lf (w.heap.size + 1) 0,lf (w.heap.size + 1) 2,kZ 79 ((b.den : Int)),kZs [(79,((a.den : Int))),(79,((b.den : Int)))],kZ 158 (((a.den : Int)) * ((b.den : Int))),kPO w.heap.size 158 ((Rat.divInt ((a.num) * (b.num)) (((a.den : Int)) * ((b.den : Int)))).num) (((Rat.divInt ((a.num) * (b.num)) (((a.den : Int)) * ((b.den : Int)))).den : Int)),kResO w.heap.size (w.heap.size + 1 + 1) 158 ((Rat.divInt ((a.num) * (b.num)) (((a.den : Int)) * ((b.den : Int)))).num) (((Rat.divInt ((a.num) * (b.num)) (((a.den : Int)) * ((b.den : Int)))).den : Int))] [[],[0],[1],[],[3],[4],[2,5],[6],[],[8],[9],[],[11],[12],[10,13],[14],[7,15],[16]] [5,6,7,8,9,10,11,12,13,14,15,16,17,18,19,20,21,999] [] [] ?_ ?_
 ·
   refine p01 e2_0 ?_; refine p10 ?_; refine ak (hG:=(by simp only [List.mem_singleton]; omega)) f1 ?_; refine p01 e3_0 ?_; refine p10 ?_; refine ak (hG:=(by simp only [List.mem_singleton]; omega)) f2 ?_; refine aa rfl rfl (fg asR asR rfl) ?_; refine aa rfl rfl (ae rfl rfl fun hC h1=>tz (l_mul2 158 (lz h1) (by decide) (by decide) (by decide))) ?_; refine p01 e2_0 ?_; refine p10 ?_; refine ak (hG:=(by simp only [List.mem_singleton]; omega)) f1' ?_; refine p01 e3_0 ?_; refine p10 ?_; refine ak (hG:=(by simp only [List.mem_singleton]; omega)) f2' ?_; refine aa rfl rfl (fg asR asR rfl) ?_; refine aa rfl rfl (ae rfl rfl fun hC h1=>tz (l_mul2 158 (lz h1) (by decide) (by decide) (by decide))) ?_; refine aa rfl rfl (ap rfl rfl rfl fun hC h1 h2=>tpo (Nat.le_trans bb_0.size hC.below.size) (lowest_o (k:=158) ((rr h1).mono (by decide)) ((rr h2).mono (by decide)) (Int.mul_ne_zero (Int.ne_of_gt (den_pos a)) (Int.ne_of_gt (den_pos b))) (by decide) (by decide))) ?_; refine aa rfl rfl (gk R rfl e4_0 rfl rfl) ?_; exact ag rfl
 intro W x a1 hC hall ha hN1 hD1 bb1
 obtain ⟨cs,hg,hP⟩:=lr hall 17
 have e1:=ab (t:=4) ha e4_0
 repeat first | apply lk | apply ll
 refine wp_ret ?_
 repeat (refine then_r ?_)
 exact gc (t:=4) rfl hD1 e1 hg hP fun v hv=>⟨v,rfl,(q_mul a b) ▸ hv,bb1⟩
end Go.Proofs.YtifgcjpgelbelaaGreatDoor

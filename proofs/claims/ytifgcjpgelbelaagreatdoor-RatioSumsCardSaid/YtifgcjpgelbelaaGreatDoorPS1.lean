/- Words on memory for the texts of this seat: Plain numbers: Contracts of small functions of package nat: Contract of nat.number.plus: Contract of nat.fold: Contract of nat.number.minus: DERIVED: Contracts of strconv.FormatUint at base 10 (numbers of 64 bits), of strings.Builder.WriteString, and what decimal texts are. Contracts of whetstonekit.SameLimbs and of the laws' same: Contract of the laws' awake: Contract of nat.number.divideShort: A region that draws its order of evaluation, whose operations call, make and write memory: Contract of nat.DivMod: Contract of nat.number.times: Contracts of nat.fold with times, and of nat.Mul: -/
import Derived.WalkKit
import Derived.Lib.Hide
import Derived.Deep.Draws
import Derived.BigQuiet
import Derived.Deep.QuietTactic
import Derived.Handy
import Derived.Test.YtifgcjpgelbelaaGreatDoorChecked
import Derived.Lib.MinMax
import Derived.Deep.RegionHeld3
import Derived.Shelf.Strings.Builder1
import Derived.Shelf.Strings.Builder2
import Derived.Shelf.Small.Bits
import Derived.Shelf.Small.Wraps
import Derived.Shelf.Strings.BuilderF
import Derived.Shelf.Strings.BuilderK
import Derived.Shelf.Strings.Builder2Cap
import Derived.Shelf.Strconv.Itoa0
import Derived.Shelf.Strconv.Itoa1
import Derived.Shelf.LaysM
import Derived.Shelf.Strconv.Itoa2
import Derived.Shelf.Strings.Search1
import Derived.Shelf.Strings.Search2
import Derived.Shelf.Strings.Cut
import Derived.Shelf.Strings.Shaped
import Derived.Shelf.Strings.Prefix
import Derived.Shelf.Bits.Mul64
import Derived.Shelf.Strings.Repeat
import Derived.Shelf.Strings.BuilderCap
import Derived.Ground.Names2Prog
import Derived.Shelf.Slices.SearchI
import Derived.Test.YtifgcjpgelbelaaGreatDoorProg
import Derived.Lib.ItoaMem
import Derived.Lib.Repeat
import Derived.Lib.AppendIntMem
import Derived.WalkSmall
import Derived.Deep.RegionWith
import Derived.Outline
import Derived.RegionTactic
import Derived.Deep.DeepCutAuto
set_option maxRecDepth 100000
set_option maxHeartbeats 16000000
set_option linter.unusedVariables false
set_option linter.unusedSimpArgs false
namespace Go.Proofs.YtifgcjpgelbelaaGreatDoor
open Go.RowKit
def Row (w : World) (A : Option Addr) (xs : List Value) : Prop:=∀ j v,xs[j]? = some v → ∃ ad,A = some ad ∧ w.cell? (ad.add j) = some v
theorem fo (a : Addr) (n : Nat) : (a.add n).block = a.block:=by unfold Addr.add; split <;> rfl
theorem cell_lt {w : World} {p : Addr} {v : Value} (h : w.cell? p = some v) : p.block < w.heap.size:=by
 rcases Nat.lt_or_ge p.block w.heap.size with hl | hl
 · exact hl
 · simp [World.cell?,Array.getElem?_eq_none hl] at h
theorem Row.below {w w' : World} {A : Option Addr} {xs : List Value} (h : Row w A xs) (hb : Below w.heap.size w w') : Row w' A xs:=by
 intro j v hv
 obtain ⟨ad,ha,hc⟩:=h j v hv
 exact ⟨ad,ha,(hb.cell (cell_lt hc)).trans hc⟩
def Drawn (w w' : World) : Prop:=∃ m,w' = w.drewN m
theorem Drawn.refl (w : World) : Drawn w w:=⟨0,rfl⟩
theorem Drawn.trans {a b c : World} (h : Drawn a b) (k : Drawn b c) : Drawn a c:=by
 obtain ⟨m,rfl⟩:=h
 obtain ⟨n,rfl⟩:=k
 exact ⟨m + n,by rw [World.drewN_drewN]⟩
theorem Drawn.more {a b : World} (h : Drawn a b) (n : Nat) : Drawn a (b.drewN n):=h.trans ⟨n,rfl⟩
theorem Drawn.below {w w' : World} (h : Drawn w w') : Below w.heap.size w w':=by
 obtain ⟨m,rfl⟩:=h
 exact ⟨rfl,rfl,rfl,Nat.le_refl _,fun _ _=>rfl⟩
theorem Row.drewN {w : World} {A : Option Addr} {xs : List Value} (h : Row w A xs) (m : Nat) : Row (w.drewN m) A xs:=h
theorem Row.drawn {w w' : World} {A : Option Addr} {xs : List Value} (h : Row w A xs) (hd : Drawn w w') : Row w' A xs:=h.below hd.below
theorem Row.nil (w : World) (A : Option Addr) : Row w A []:=fun j v h=>by simp at h
theorem Row.at_ {w : World} {A : Option Addr} {xs : List Value} (h : Row w A xs) {k : Nat} (hk : k < xs.length) : ∃ ad,A = some ad ∧ w.cell? (ad.add k) = some xs[k] :=
 h k xs[k] (List.getElem?_eq_getElem hk)
theorem Row.take {w : World} {A : Option Addr} {xs : List Value} (h : Row w A xs) (k : Nat) : Row w A (xs.take k):=by
 intro j v hv
 rw [List.getElem?_take] at hv
 split at hv
 · exact h j v hv
 · cases hv
def Own (w : World) (B T : Nat) (v : Value) (xs : List Value) : Prop:=w.ownsRow B T 1 v xs.length xs
theorem Own.mk_ {w : World} {B T : Nat} {v : Value} {n : Nat} {xs : List Value} (h : w.ownsRow B T 1 v n xs) : Own w B T v xs:=by
 have : xs.length = n:=by simpa using h.1
 subst this; exact h
theorem Own.slice {w : World} {B T : Nat} {v : Value} {xs : List Value} (h : Own w B T v xs) : ∃ A c,v = .slice A xs.length c ∧ Row w A xs ∧ xs.length ≤ c ∧ (A = none → c = 0):=by
 have hh : w.ownsRow B T 1 v xs.length xs:=h
 rcases hh.2 with ⟨rfl,h0⟩ | ⟨g,cap,cur,rfl,_,hg,hle,_,hsz,ht⟩
 · have : xs = []:=List.eq_nil_of_length_eq_zero h0; subst this; exact ⟨none,0,rfl,Row.nil _ _,Nat.le_refl _,fun _=>rfl⟩
 · refine ⟨some ⟨g,0,none⟩,cap,rfl,fun j u hu=>⟨_,rfl,hh.cells (g:=g) rfl j u hu⟩,hle,fun h=>by cases h⟩
theorem Own.lt {w : World} {B T : Nat} {A : Option Addr} {n c : Nat} {xs : List Value} (h : Own w B T (.slice A n c) xs) : n = xs.length ∧ (∀ ad,A = some ad → ∃ g,ad = ⟨g,0,none⟩ ∧ B ≤ g ∧ g < w.heap.size):=by
 have hh : w.ownsRow B T 1 (.slice A n c) xs.length xs:=h
 rcases hh.2 with ⟨e,h0⟩ | ⟨g,cap,cur,e,hB,hg,_⟩
 · injection e with e1 e2 e3; subst e1; subst e2; exact ⟨h0.symm,fun ad h=>by cases h⟩
 · injection e with e1 e2 e3; subst e1; subst e2; exact ⟨rfl,fun ad h=>by cases h; exact ⟨g,rfl,hB,cell_lt' hg⟩⟩
where
 cell_lt' {w : World} {g : Nat} {o : Obj} (h : w.heap[g]? = some o) : g < w.heap.size:=by
   rcases Nat.lt_or_ge g w.heap.size with hl | hl
   · exact hl
   · rw [Array.getElem?_eq_none hl] at h; cases h
theorem Own.nil (w : World) (B T : Nat) : Own w B T (.slice none 0 0) []:=World.ownsRow_nil w B T 1
theorem Own.mono {w : World} {B B' T : Nat} {v : Value} {xs : List Value} (h : Own w B T v xs) (hB : B' ≤ B) : Own w B' T v xs:=by
 have hh : w.ownsRow B T 1 v xs.length xs:=h
 refine ⟨hh.1,?_⟩
 rcases hh.2 with h0 | ⟨g,cap,cur,e,hb,r⟩
 · exact .inl h0
 · exact .inr ⟨g,cap,cur,e,Nat.le_trans hB hb,r⟩
theorem Own.below {w w' : World} {B T : Nat} {v : Value} {xs : List Value} (h : Own w B T v xs) (hb : Below w.heap.size w w') : Own w' B T v xs:=by
 have hh : w.ownsRow B T 1 v xs.length xs:=h
 refine ⟨hh.1,?_⟩
 rcases hh.2 with h0 | ⟨g,cap,cur,e,hB,hg,r⟩
 · exact .inl h0
 · refine .inr ⟨g,cap,cur,e,hB,?_,r⟩; rw [hb.block g (Own.lt.cell_lt' hg)]; exact hg
theorem Own.cut {w : World} {B T : Nat} {A : Option Addr} {n c : Nat} {xs : List Value} (h : Own w B T (.slice A n c) xs) (k : Nat) (hk : k ≤ xs.length) : Own w B T (.slice A k c) (xs.take k):=by
 have hh : w.ownsRow B T 1 (.slice A n c) xs.length xs:=h
 have hl : (xs.take k).length = k:=by rw [List.length_take]; omega
 refine ⟨by simp,?_⟩
 rcases hh.2 with ⟨e,h0⟩ | ⟨g,cap,cur,e,hB,hg,hle,hm,hsz,ht⟩
 · injection e with e1 e2 e3; subst e1; subst e3; have : k = 0:=by omega
   subst this; exact .inl ⟨rfl,by simp⟩
 · injection e with e1 e2 e3; subst e1; subst e3; refine .inr ⟨g,c,cur,by rw [hl],hB,hg,by omega,hm,hsz,?_⟩; rw [hl,← ht,List.take_take]; congr 1; omega
def u32s (ds : List Nat) : List Value:=ds.map fun (d : Nat)=>Value.int .u32 (d : Int)
def u8s (ds : List Nat) : List Value:=ds.map fun (d : Nat)=>Value.int .u8 (d : Int)
theorem am (ds : List Nat) : (u32s ds).length = ds.length:=by simp [u32s]
theorem av (ds : List Nat) : (u8s ds).length = ds.length:=by simp [u8s]
theorem u32s_take (ds : List Nat) (k : Nat) : (u32s ds).take k = u32s (ds.take k):=by simp [u32s,List.map_take]
theorem u8s_take (ds : List Nat) (k : Nat) : (u8s ds).take k = u8s (ds.take k):=by simp [u8s,List.map_take]
theorem u32s_snoc (ds : List Nat) (d : Nat) : u32s ds ++ [.int .u32 (d : Int)] = u32s (ds ++ [d]):=by simp [u32s]
theorem u8s_snoc (ds : List Nat) (d : Nat) : u8s ds ++ [.int .u8 (d : Int)] = u8s (ds ++ [d]):=by simp [u8s]
theorem Row.u32 {w : World} {A : Option Addr} {ds : List Nat} (h : Row w A (u32s ds)) {k : Nat} (hk : k < ds.length) : ∃ ad,A = some ad ∧ w.cell? (ad.add k) = some (.int .u32 ((ds.getD k 0 : Nat) : Int)):=by
 refine h k _ ?_
 simp [u32s,List.getD,hk]
theorem Row.u8 {w : World} {A : Option Addr} {ds : List Nat} (h : Row w A (u8s ds)) {k : Nat} (hk : k < ds.length) : ∃ ad,A = some ad ∧ w.cell? (ad.add k) = some (.int .u8 ((ds.getD k 0 : Nat) : Int)):=by
 refine h k _ ?_
 simp [u8s,List.getD,hk]
theorem Row.dig {w : World} {A : Option Addr} {ds : List Nat} (h : Row w A (u32s ds)) {k : Nat} (hk : k < ds.length) : ∃ (ad : Addr) (x : Nat),A = some ad ∧ w.cell? (ad.add k) = some (.int .u32 (x : Int)) ∧ Hid (ds.getD k 0 = x) ∧ x ∈ ds:=by
 obtain ⟨ad,e,hc⟩:=h.u32 hk
 refine ⟨ad,_,e,hc,rfl,?_⟩
 rw [List.getD_eq_getElem?_getD,List.getElem?_eq_getElem hk]
 exact List.getElem_mem hk
theorem Row.byte {w : World} {A : Option Addr} {ds : List Nat} (h : Row w A (u8s ds)) {k : Nat} (hk : k < ds.length) : ∃ (ad : Addr) (x : Nat),A = some ad ∧ w.cell? (ad.add k) = some (.int .u8 (x : Int)) ∧ Hid (ds.getD k 0 = x) ∧ x ∈ ds:=by
 obtain ⟨ad,e,hc⟩:=h.u8 hk
 refine ⟨ad,_,e,hc,rfl,?_⟩
 rw [List.getD_eq_getElem?_getD,List.getElem?_eq_getElem hk]
 exact List.getElem_mem hk
theorem one_news {w : World} {u v : Value} {T : TypeId} (e : v = u) : ∀ j z,[u][j]? = some z → (w.alloc (.cells #[v] T)).cell? ((⟨w.heap.size,0,none⟩ : Addr).add j) = some z:=by
 subst e
 intro j z hj
 match j,hj with
 | 0,hj=>simp at hj; subst hj; simp [Addr.add]
theorem ch {k : IntKind} {a : Int} : ∀ u ∈ [Value.int k a],u.oneCell' = true:=by
 intro u hu
 rw [List.mem_singleton.1 hu]; rfl
theorem dc {w wr w2 : World} {B T : Nat} {v : Value} {xs : List Value} {o : Obj} (hb : Below w.heap.size w wr) (ho : Own wr B T v xs) (hB : Hid (B = w.heap.size)) (hg : (wr.alloc o).grownBy w2 v.ownBlock) : Below w.heap.size w w2 :=
 (hb.alloc hb.size o).grown hg (Nat.le_trans hb.size (by simp)) (fun k hk=>by
   have hh : wr.ownsRow B T 1 v xs.length xs:=ho; have:=(hh.lt k hk).1; rw [hB.out] at this
   exact this)
theorem int_eq {k : IntKind} {a b : Int} (h : a = b) : Value.int k a = .int k b:=by rw [h]
theorem de {w : World} {B n : Nat} {v : Value} {ds : List Nat} {d : Nat} (h : w.ownsRow B 88 1 v n (u32s ds ++ [.int .u32 (d : Int)])) : Own w B 88 v (u32s (ds ++ [d])):=by
 rw [← u32s_snoc]; exact Own.mk_ h
theorem ck {w w1 : World} {o : Obj} (hb : Below (w.alloc o).heap.size (w.alloc o) w1) : w1.heap[w.heap.size]? = some o :=
 (hb.block _ (by simp)).trans (heap_alloc_new w o)
theorem Own.setBelow {w : World} {B T : Nat} {v : Value} {xs : List Value} (h : Own w B T v xs) {p : Addr} (hp : p.block < B) (u : Value) : Own (w.setCell p u) B T v xs :=
 ownsRow_setCell_below (w:=w) h hp u
theorem below_first {w w1 : World} {o : Obj} (hb : Below (w.alloc o).heap.size (w.alloc o) w1) : Below w.heap.size w w1 :=
 ((Below.refl _ _).alloc (Nat.le_refl _) o).trans (hb.mono (by simp))
theorem Row.alloc {w : World} {A : Option Addr} {xs : List Value} (h : Row w A xs) (o : Obj) : Row (w.alloc o) A xs:=h.below ((Below.refl _ _).alloc (Nat.le_refl _) o)
theorem lt_block {w : World} {g : Nat} {o : Obj} (h : w.heap[g]? = some o) : g < w.heap.size:=Own.lt.cell_lt' h
theorem ix {w w1 : World} {o1 o2 o3 : Obj} (hg : (((w.alloc o1).alloc o2).alloc o3).grownBy w1 none) :
   Below w.heap.size w w1 ∧ w.heap.size + 3 ≤ w1.heap.size ∧ w1.heap[w.heap.size]? = some o1 ∧ w1.heap[w.heap.size + 1]? = some o2 ∧ w1.heap[w.heap.size + 1 + 1]? = some o3:=by
 have hb : Below (((w.alloc o1).alloc o2).alloc o3).heap.size (((w.alloc o1).alloc o2).alloc o3) w1:=(Below.refl _ _).grown hg (Nat.le_refl _) (fun k h=>by cases h)
 have e1 : (((w.alloc o1).alloc o2).alloc o3).heap.size = w.heap.size + 3:=by simp
 have b2 : Below (w.alloc o1).heap.size (w.alloc o1) w1:=below_first (below_first hb)
 have e2 : (w.alloc o1).heap.size = w.heap.size + 1:=by simp
 have e3 : ((w.alloc o1).alloc o2).heap.size = w.heap.size + 1 + 1:=by simp
 refine ⟨below_first b2,?_,ck b2,?_,?_⟩
 · have:=hb.size; omega
 · have:=ck (w:=w.alloc o1) (below_first hb); rw [e2] at this; exact this
 · have:=ck (w:=(w.alloc o1).alloc o2) hb; rw [e3] at this; exact this
theorem ed {w1 wr w2 : World} {B T : Nat} {v : Value} {xs : List Value} {o : Obj} (hb : Below B w1 wr) (ho : Own wr B T v xs) (hB : B ≤ w1.heap.size) (hg : (wr.alloc o).grownBy w2 v.ownBlock) : Below B w1 w2 :=
 (hb.alloc (Nat.le_trans hB hb.size) o).grown hg (by have:=hb.size; simp; omega) (fun k hk=>by
   have hh : wr.ownsRow B T 1 v xs.length xs:=ho
   exact (hh.lt k hk).1)
theorem below_trans {w w1 w2 : World} {B : Nat} (h1 : Below w.heap.size w w1) (h2 : Below B w1 w2) (hB : w.heap.size ≤ B) : Below w.heap.size w w2:=h1.trans (h2.mono hB)
theorem gf {w w' : World} {B : Nat} (h : Below B w w') (m : Nat) : Below B w (w'.drewN m):=h.trans ⟨rfl,rfl,rfl,Nat.le_refl _,fun _ _=>rfl⟩
theorem Own.slice32 {w : World} {B T : Nat} {v : Value} {ds : List Nat} (h : Own w B T v (u32s ds)) : ∃ A c,v = .slice A ds.length c ∧ Row w A (u32s ds) ∧ ds.length ≤ c ∧ (A = none → c = 0):=by
 have:=h.slice
 rwa [am] at this
theorem Own.slice8 {w : World} {B T : Nat} {v : Value} {ds : List Nat} (h : Own w B T v (u8s ds)) : ∃ A c,v = .slice A ds.length c ∧ Row w A (u8s ds) ∧ ds.length ≤ c ∧ (A = none → c = 0):=by
 have:=h.slice
 rwa [av] at this
theorem Own.row32 {w : World} {B T n c : Nat} {A : Option Addr} {ds : List Nat} (h : Own w B T (.slice A n c) (u32s ds)) : Row w A (u32s ds):=by
 obtain ⟨A',c',e,hr,_⟩:=h.slice
 injection e with e1
 subst e1; exact hr
theorem Own.row8 {w : World} {B T n c : Nat} {A : Option Addr} {ds : List Nat} (h : Own w B T (.slice A n c) (u8s ds)) : Row w A (u8s ds):=by
 obtain ⟨A',c',e,hr,_⟩:=h.slice
 injection e with e1
 subst e1; exact hr
theorem Own.setOther {w : World} {B T T' : Nat} {v u0 : Value} {xs : List Value} (h : Own w B T v xs) {g : Nat} (hg : w.heap[g]? = some (.cells #[u0] T' (0,0))) (hne : T ≠ T') (u : Value) : Own (w.setCell ⟨g,0,none⟩ u) B T v xs:=by
 have hh : w.ownsRow B T 1 v xs.length xs:=h
 refine ownsRow_setCell_other hh ?_ u
 rcases hh.2 with ⟨rfl,_⟩ | ⟨g',cap,cur,rfl,_,hg',_⟩
 · simp [Value.ownBlock]
 · intro he; have : g' = g:=by simpa [Value.ownBlock] using he
   subst this; rw [hg'] at hg; injection hg with hg; injection hg with _ ht; exact hne ht
theorem fp {w : World} {B g n c : Nat} {ds : List Nat} (h : Own w B 88 (.slice (some ⟨g,0,none⟩) n c) (u32s ds)) (k d : Nat) :
   Own (w.setCell ⟨g,k,none⟩ (.int .u32 (d : Int))) B 88 (.slice (some ⟨g,0,none⟩) n c) (u32s (ds.set k d)):=by
 have hn:=h.lt.1
 have hh : w.ownsRow B 88 1 (.slice (some ⟨g,0,none⟩) n c) n (u32s ds):=by rw [hn]; rw [hn] at h; exact h
 have:=(hh.stored k (.int .u32 (d : Int))).1
 rw [show (u32s ds).set k (.int .u32 (d : Int)) = u32s (ds.set k d) from by simp [u32s,List.map_set]] at this
 exact Own.mk_ this
theorem own_cell {w : World} {B T g n c : Nat} {xs : List Value} (h : Own w B T (.slice (some ⟨g,0,none⟩) n c) xs) {k : Nat} (hk : k < xs.length) : w.cell? ⟨g,k,none⟩ = some xs[k] ∧ w.frozen? ⟨g,k,none⟩ = false:=by
 have hn:=h.lt.1
 have hh : w.ownsRow B T 1 (.slice (some ⟨g,0,none⟩) n c) n xs:=by rw [hn]; rw [hn] at h; exact h
 refine ⟨?_,hh.frozenAt k⟩
 rw [hh.cellAt k (by omega)]
 exact List.getElem?_eq_getElem hk
theorem kh {w : World} {B n : Nat} {v : Value} (h : w.ownsRow B 88 1 v n (madeCells #[Value.int .u32 0] n).toList) : Own w B 88 v (u32s (List.replicate n 0)):=by
 rw [toList_madeCells_one,show List.replicate n (Value.int .u32 0) = u32s (List.replicate n 0) from by simp [u32s]] at h
 exact Own.mk_ h
theorem own_lit32 (w : World) {B : Nat} (d : Nat) (hB : B ≤ w.heap.size) : Own (w.alloc (.cells #[Value.int .u32 (d : Int)] 88)) B 88 (.slice (some ⟨w.heap.size,0,none⟩) 1 1) (u32s [d]) :=
 Own.mk_ (World.ownsRow_lit w #[Value.int .u32 (d : Int)] 1 hB (by decide) rfl)
theorem ki {w : World} {g1 g2 : Nat} {a1 a2 u1 u2 : Value} {t1 t2 : TypeId} (h1 : w.heap[g1]? = some (.cells #[a1] t1 (0,0))) (h2 : w.heap[g2]? = some (.cells #[a2] t2 (0,0))) (hne : g1 ≠ g2) :
   (w.setCell ⟨g1,0,none⟩ u1).heap[g2]? = some (.cells #[a2] t2 (0,0)) ∧ ((w.setCell ⟨g1,0,none⟩ u1).setCell ⟨g2,0,none⟩ u2).heap[g1]? = some (.cells #[u1] t1 (0,0)) ∧ ((w.setCell ⟨g1,0,none⟩ u1).setCell ⟨g2,0,none⟩ u2).heap[g2]? = some (.cells #[u2] t2 (0,0)):=by
 have e1 : (w.setCell ⟨g1,0,none⟩ u1).heap[g2]? = some (.cells #[a2] t2 (0,0)):=(Below.heap_setCell _ _ _ _ (fun e=>hne e.symm)).trans h2
 exact ⟨e1,(Below.heap_setCell _ _ _ _ hne).trans (one_setCell h1),one_setCell e1⟩
theorem new_at {w : World} {o : Obj} {k : Nat} (h : k = w.heap.size) : (w.alloc o).heap[k]? = some o:=by subst h; exact heap_alloc_new w o
theorem gz {w W : World} {o1 o2 o3 o4 : Obj} (h : W = (((w.alloc o1).alloc o2).alloc o3).alloc o4) :
   Below w.heap.size w W ∧ W.heap.size = w.heap.size + 4 ∧ W.heap[w.heap.size]? = some o1 ∧ W.heap[w.heap.size + 1]? = some o2 ∧ W.heap[w.heap.size + 1 + 1]? = some o3 ∧ W.heap[w.heap.size + 1 + 1 + 1]? = some o4:=by
 subst h
 refine ⟨below_first (below_first (below_first ((Below.refl _ _).alloc (Nat.le_refl _) _))),by simp,?_,?_,?_,?_⟩
 · rw [Below.heap_alloc _ _ _ (by simp <;> omega),Below.heap_alloc _ _ _ (by simp <;> omega),Below.heap_alloc _ _ _ (by simp)]; exact new_at rfl
 · rw [Below.heap_alloc _ _ _ (by simp <;> omega),Below.heap_alloc _ _ _ (by simp)]; exact new_at (by simp)
 · rw [Below.heap_alloc _ _ _ (by simp)]; exact new_at (by simp)
 · exact new_at (by simp)
theorem fc {k : IntKind} {a b : Int} (h : a = b) : Ending.returned (.int k a) = .returned (.int k b):=by rw [h]
end Go.Proofs.YtifgcjpgelbelaaGreatDoor
namespace Go.Proofs.YtifgcjpgelbelaaGreatDoor
def val : List Nat → Nat
 | []=>0
 | d :: ds=>d + 1000000000 * val ds
theorem dp (xs ys : List Nat) : val (xs ++ ys) = val xs + 1000000000 ^ xs.length * val ys:=by
 induction xs with
 | nil=>simp [val]
 | cons x xs ih=>simp only [List.cons_append,val,ih,List.length_cons,Nat.pow_succ]; rw [Nat.mul_add,Nat.mul_comm (1000000000 ^ xs.length) 1000000000,Nat.mul_assoc]; omega
theorem dq (xs : List Nat) (d : Nat) : val (xs ++ [d]) = val xs + 1000000000 ^ xs.length * d:=by
 rw [dp]; simp [val]
theorem dr (ds : List Nat) (k : Nat) (hk : k < ds.length) : val (ds.take (k + 1)) = val (ds.take k) + 1000000000 ^ k * ds.getD k 0:=by
 rw [List.take_add_one,List.getElem?_eq_getElem hk]
 simp only [Option.toList_some]
 rw [dq,List.length_take,Nat.min_eq_left (by omega),List.getD_eq_getElem?_getD,List.getElem?_eq_getElem hk]
 rfl
def small (b : Nat) (ds : List Nat) : Prop:=∀ d ∈ ds,d < b
theorem bl (b : Nat) : small b []:=fun d h=>by cases h
theorem small_snoc {b d : Nat} {ds : List Nat} (h : small b ds) (hd : d < b) : small b (ds ++ [d]):=by
 intro x hx
 rcases List.mem_append.1 hx with h1 | h1
 · exact h x h1
 · rw [List.mem_singleton.1 h1]; exact hd
theorem bh {ds : List Nat} {b : Nat} (h : small b ds) (hb : 0 < b) (k : Nat) : ds.getD k 0 < b:=by
 rw [List.getD_eq_getElem?_getD]
 cases hk : ds[k]? with
 | none=>simpa using hb
 | some x=>simpa using h x (List.mem_of_getElem? hk)
theorem small_take {b : Nat} {ds : List Nat} (h : small b ds) (k : Nat) : small b (ds.take k):=fun d hd=>h d (List.mem_of_mem_take hd)
theorem small_drop {b : Nat} {ds : List Nat} (h : small b ds) (k : Nat) : small b (ds.drop k):=fun d hd=>h d (List.mem_of_mem_drop hd)
theorem small_mono {b b' : Nat} {ds : List Nat} (h : small b ds) (hb : b ≤ b') : small b' ds:=fun d hd=>Nat.lt_of_lt_of_le (h d hd) hb
theorem val_lt {ds : List Nat} (h : small 1000000000 ds) : val ds < 1000000000 ^ ds.length:=by
 induction ds with
 | nil=>simp [val]
 | cons d ds ih =>
   have h1:=h d (List.mem_cons_self ..); have h2:=ih (fun x hx=>h x (List.mem_cons_of_mem _ hx)); simp only [val,List.length_cons,Nat.pow_succ]; omega
def strip : List Nat → List Nat
 | []=>[]
 | d :: ds => match strip ds with
   | []=>if d = 0 then [] else [d]
   | r=>d :: r
theorem cx (ds : List Nat) (k : Nat) (h : ∀ j,k ≤ j → ds.getD j 0 = 0) (hk : k ≤ ds.length) (hlast : k = 0 ∨ ds.getD (k - 1) 0 ≠ 0) : strip ds = ds.take k:=by
 induction ds generalizing k with
 | nil=>simp at hk; subst hk; rfl
 | cons d ds ih =>
   cases k with
   | zero =>
     have h0 : d = 0:=by simpa using h 0 (by omega)
     have:=ih 0 (fun j _=>by simpa using h (j + 1) (by omega)) (by omega) (.inl rfl); simp [strip,this,h0]
   | succ k =>
     have hh:=ih k (fun j hj=>by simpa using h (j + 1) (by omega)) (by simpa using hk) (by
       cases k with
       | zero=>exact .inl rfl
       | succ k => right; rcases hlast with h1 | h1
                   · omega
                   · simpa using h1)
     rw [strip,hh]
     cases k with
     | zero =>
       have : d ≠ 0:=by
         rcases hlast with h1 | h1
         · omega
         · simpa using h1
       simp [this]
     | succ k =>
       cases ds with
       | nil=>simp at hk
       | cons x xs=>simp
def right (ds : List Nat) : Prop:=small 1000000000 ds ∧ (ds = [] ∨ ds.getLast? ≠ some 0)
theorem dt (ds : List Nat) : val (strip ds) = val ds:=by
 induction ds with
 | nil=>rfl
 | cons d ds ih =>
   rw [strip]; split
   · rename_i h
     rw [h] at ih; simp only [val] at ih ⊢; split
     · rename_i h0; simp only [val]; omega
     · simp only [val]; omega
   · simp only [val,ih]
theorem strip_mem (ds : List Nat) (x : Nat) (h : x ∈ strip ds) : x ∈ ds:=by
 induction ds with
 | nil=>exact h
 | cons d ds ih =>
   rw [strip] at h; split at h
   · split at h
     · cases h
     · rw [List.mem_singleton.1 h]; exact List.mem_cons_self ..
   · rcases List.mem_cons.1 h with h1 | h1
     · rw [h1]; exact List.mem_cons_self ..
     · exact List.mem_cons_of_mem _ (ih h1)
theorem strip_last (ds : List Nat) : strip ds = [] ∨ (strip ds).getLast? ≠ some 0:=by
 induction ds with
 | nil=>exact .inl rfl
 | cons d ds ih =>
   rw [strip]; split
   · split
     · exact .inl rfl
     · right; simp; omega
   · rename_i r hr
     right; rcases ih with h | h
     · exact absurd h hr
     · cases hs : strip ds with
       | nil=>exact absurd hs hr
       | cons x xs=>rw [hs] at h; rw [List.getLast?_cons_cons]; exact h
theorem cz {ds : List Nat} (h : small 1000000000 ds) : right (strip ds):=⟨fun x hx=>h x (strip_mem ds x hx),strip_last ds⟩
theorem strip_length (ds : List Nat) : (strip ds).length ≤ ds.length:=by
 induction ds with
 | nil=>exact Nat.le_refl _
 | cons d ds ih =>
   rw [strip]; split
   · split <;> simp
   · simpa using ih
theorem iy : right []:=⟨bl _,.inl rfl⟩
theorem right_tail {d : Nat} {ds : List Nat} (h : right (d :: ds)) : right ds:=by
 refine ⟨fun x hx=>h.1 x (List.mem_cons_of_mem _ hx),?_⟩
 rcases h.2 with h1 | h1
 · cases h1
 · cases ds with
   | nil=>exact .inl rfl
   | cons x xs=>rw [List.getLast?_cons_cons] at h1; exact .inr h1
theorem fq {ds : List Nat} (h : right ds) (hne : ds ≠ []) : 1000000000 ^ (ds.length - 1) ≤ val ds:=by
 induction ds with
 | nil=>exact absurd rfl hne
 | cons d ds ih =>
   cases ds with
   | nil =>
     have : d ≠ 0:=by
       rcases h.2 with h1 | h1
       · cases h1
       · simpa using h1
     simp [val]; omega
   | cons x xs =>
     have:=ih (right_tail h) (by simp); simp only [val,List.length_cons,Nat.add_sub_cancel,Nat.pow_succ] at this ⊢; omega
theorem right_zero {ds : List Nat} (h : right ds) (h0 : val ds = 0) : ds = []:=by
 rcases Decidable.em (ds = []) with h1 | h1
 · exact h1
 · have:=fq h h1; have h2 : 0 < 1000000000 ^ (ds.length - 1):=Nat.pow_pos (by omega); omega
theorem right_unique {xs ys : List Nat} (hx : right xs) (hy : right ys) (h : val xs = val ys) : xs = ys:=by
 induction xs generalizing ys with
 | nil=>exact (right_zero hy (by rw [← h]; rfl)).symm
 | cons x xs ih =>
   cases ys with
   | nil=>exact right_zero hx (by rw [h]; rfl)
   | cons y ys =>
     have h1:=hx.1 x (List.mem_cons_self ..); have h2:=hy.1 y (List.mem_cons_self ..); simp only [val] at h; have e1 : x = y:=by omega
     have e2 : val xs = val ys:=by omega
     rw [e1,ih (right_tail hx) (right_tail hy) e2]
theorem du {xs ys : List Nat} (hx : right xs) (hy : right ys) (h : xs.length < ys.length) : val xs < val ys:=by
 have h1:=val_lt hx.1
 have h2:=fq hy (fun e=>by subst e; simp at h)
 have h3 : 1000000000 ^ xs.length ≤ 1000000000 ^ (ys.length - 1):=Nat.pow_le_pow_right (by omega) (by omega)
 omega
theorem right_length_le {xs : List Nat} (hx : right xs) {k : Nat} (h : val xs < 1000000000 ^ k) : xs.length ≤ k:=by
 rcases Nat.lt_or_ge k xs.length with h1 | h1
 · have h2:=fq hx (fun e=>by subst e; simp at h1); have h3 : 1000000000 ^ k ≤ 1000000000 ^ (xs.length - 1):=Nat.pow_le_pow_right (by omega) (by omega); omega
 · exact h1
theorem aux32 (d v q : Nat) (h1 : d < 4294967296) (h2 : v * 999999999 + 4294967295 ≤ q) : (d + 1000000000 * v) * 999999999 + 4294967295 ≤ q * 1000000000:=by
 have e : (d + 1000000000 * v) * 999999999 = d * 999999999 + 1000000000 * (v * 999999999):=by rw [Nat.add_mul,Nat.mul_assoc]
 have h3:=Nat.mul_le_mul_left 1000000000 h2
 have h4 : d * 999999999 ≤ 4294967295 * 999999999:=Nat.mul_le_mul_right _ (by omega)
 have e5 : 4294967295 * 999999999 + 4294967295 = 1000000000 * 4294967295:=by decide
 rw [Nat.mul_add] at h3
 rw [e,Nat.mul_comm q]
 exact Nat.le_trans (by rw [Nat.add_right_comm]; exact Nat.add_le_add_right (Nat.le_trans (Nat.add_le_add_right h4 _) (Nat.le_of_eq e5)) _) (Nat.le_trans (Nat.le_of_eq (Nat.add_comm _ _)) h3)
theorem val_lt32' {ds : List Nat} (h : small 4294967296 ds) : val ds * 999999999 + 4294967295 ≤ 4294967295 * 1000000000 ^ ds.length:=by
 induction ds with
 | nil=>simp [val]
 | cons d ds ih =>
   have h2:=aux32 d (val ds) _ (h d (List.mem_cons_self ..)) (ih (fun x hx=>h x (List.mem_cons_of_mem _ hx))); rw [Nat.mul_assoc,← Nat.pow_succ] at h2; exact h2
theorem aux32' (v p : Nat) (h : v * 999999999 + 4294967295 ≤ 4294967295 * p) : v < p * 1000000000:=by omega
theorem val_lt32 {ds : List Nat} (h : small 4294967296 ds) : val ds < 1000000000 ^ (ds.length + 1):=by
 rw [Nat.pow_succ]
 exact aux32' _ _ (val_lt32' h)
end Go.Proofs.YtifgcjpgelbelaaGreatDoor
namespace Go.Proofs.YtifgcjpgelbelaaGreatDoor
open Go.RowKit
theorem at_any {w : World} {A : Option Addr} {c : Nat} {ds : List Nat} (hr : Row w A (u32s ds)) (hd : ∀ d ∈ ds,d < 4294967296) (i : Int) (h0 : 0 ≤ i) :
   Calls Tryz.prog 175 #[.slice A ds.length c,.int .i64 i] w fun e w'=>e = .returned (.int .u64 ((ds.getD i.toNat 0 : Nat) : Int)) ∧ w = w':=by
 obtain ⟨k,rfl⟩:=Int.eq_ofNat_of_zero_le h0
 rw [Int.toNat_natCast]
 by_cases hk : k < ds.length
 · obtain ⟨ad,x,rfl,hc,hx,hm⟩:=hr.dig hk; have hb:=hd x hm; clear hm
   go_enter Tryz.func175,Tryz.ntmps175
   go_wp2
   go_ret
   exact ⟨fc (by rw [hx.out]),rfl⟩
 · have e : ds.getD k 0 = 0:=by rw [List.getD_eq_getElem?_getD,List.getElem?_eq_none (by omega)]; rfl
   rw [e]
   go_enter Tryz.func175,Tryz.ntmps175
   go_wp2
   go_ret
   exact ⟨rfl,rfl⟩
theorem none_any (w : World) (A : Option Addr) (n c : Nat) :
   Calls Tryz.prog 167 #[.slice A n c] w fun e w'=>e = .returned (.bool ((n : Int) == 0)) ∧ w = w':=by
 go_enter Tryz.func167,Tryz.ntmps167
 go_wp2
 go_ret
 exact ⟨rfl,rfl⟩
theorem stripped_any {w : World} {B : Nat} {A : Option Addr} {n c : Nat} {ds : List Nat} (ho : Own w B 88 (.slice A n c) (u32s ds)) (hlen : ds.length ≤ 1000000) :
   Calls Tryz.prog 157 #[.slice A n c] w fun e w'=>(∃ v,e = .returned v ∧ Own w B 88 v (u32s (strip ds))) ∧ w = w':=by
 obtain ⟨A',c',e,hr,hle,_⟩:=ho.slice
 injection e with e1 e2 e3
 subst e1; subst e2; subst e3
 rw [am] at ho hle ⊢
 go_enter Tryz.func157,Tryz.ntmps157
 go_wp2
 go_loop [3] (fun i=>∃ k : Nat,k ≤ ds.length ∧ i = .int .i64 k ∧ ∀ j,k ≤ j → ds.getD j 0 = 0) (fun i=>(intOf i).toNat)
 case atStart=>exact ⟨ds.length,Nat.le_refl _,rfl,fun j hj=>by rw [List.getD_eq_getElem?_getD,List.getElem?_eq_none hj]; rfl⟩
 case round =>
   obtain ⟨k,hk,rfl,hz⟩:=hrel; have HZ:=Lib.hid hz; clear hz; rcases Nat.eq_zero_or_pos k with rfl | hpos
   · go_wp2
     go_ret
     exact ⟨⟨_,rfl,by rw [cx ds 0 HZ.out (Nat.zero_le _) (.inl rfl)]; exact Own.nil _ _ _⟩,rfl⟩
   · obtain ⟨ad,x,rfl,hc,hx,_⟩:=hr.dig (k:=k - 1) (by omega); have hb : k ≤ c:=by omega
     by_cases hd : x = 0
     · subst hd
       go_wp2
       go_round
       case rel=>exact ⟨k - 1,by omega,by go_num,fun j hj=>by
         rcases Nat.lt_or_ge j k with h | h
         · have : j = k - 1:=by omega
           rw [this]; exact hx.out
         · exact HZ.out j h⟩
       case measure=>simp [intOf]; omega
     · have ht : ((x : Int) == 0) = false:=by rw [beq_eq_false_iff_ne]; omega
       have hk0 : ((k : Int) == 0) = false:=by rw [beq_eq_false_iff_ne]; omega
       have HD:=Lib.hid hd; clear hd
       go_wp2
       go_ret
       refine ⟨⟨_,rfl,?_⟩,rfl⟩; rw [cx ds k HZ.out hk (.inr (by rw [hx.out]; exact HD.out)),← u32s_take]; exact ho.cut k (by rw [am]; exact hk)
theorem at_q {w : World} {A : Option Addr} {c : Nat} {ds : List Nat} (hr : Row w A (u32s ds)) (hd : ∀ d ∈ ds,d < 4294967296) (i : Int) (h0 : 0 ≤ i) :
   Calls Tryz.prog 175 #[.slice A ds.length c,.int .i64 i] w fun e w'=>e = .returned (.int .u64 ((ds.getD i.toNat 0 : Nat) : Int)) ∧ w' = w :=
 (at_any hr hd i h0).mono fun _ _ h=>⟨h.1,h.2.symm⟩
def IsNat (w : World) (B : Nat) (v : Value) (n : Nat) : Prop:=∃ rs,right rs ∧ val rs = n ∧ Own w B 88 v (u32s rs)
def RetNat (w : World) (n : Nat) (e : Ending) (w' : World) : Prop:=∃ v,e = .returned v ∧ IsNat w' w.heap.size v n ∧ Below w.heap.size w w'
theorem carry_step {out ds : List Nat} {k cy : Nat} (hk : k < ds.length) (hlen : out.length = k) (hval : val out + 1000000000 ^ k * cy = val (ds.take k)) :
   val (out ++ [(cy + ds.getD k 0) % 1000000000]) + 1000000000 ^ (k + 1) * ((cy + ds.getD k 0) / 1000000000) = val (ds.take (k + 1)):=by
 rw [dq,dr ds k hk,← hval,hlen,Nat.pow_succ,Nat.add_assoc,Nat.mul_assoc,← Nat.mul_add,Nat.mod_add_div,Nat.mul_add,Nat.add_assoc]
theorem dw : (Tryz.prog.info? 88).map (fun i=>(i.zero,i.size,i.bytes)) = some (some (.int .u32 0),1,4):=by kernel_rfl
theorem carried_any {w : World} {A : Option Addr} {c : Nat} {ds : List Nat} (hr : Row w A (u32s ds)) (hd : small 4294967296 ds) (hlen : ds.length ≤ 100000) :
   Calls Tryz.prog 160 #[.slice A ds.length c] w (RetNat w (val ds)):=by
 obtain ⟨i0,hi,hz0,hz1,hz2⟩:=info_parts dw
 obtain ⟨B,hB⟩ : ∃ B,B = w.heap.size:=⟨_,rfl⟩
 have HB:=Lib.hid hB
 clear hB
 have hl63 : ds.length ≤ 9223372036854775807:=by omega
 go_enter Tryz.func160,Tryz.ntmps160
 go_wp2_with (at_make; refine wpList_make_own _ rfl _ _ 132 rfl B 88 i0 (.int .u32 0) 1 Tryz.underlying132 hi hz0 hz1 .i64 .i64 ((ds.length : Int) + 1) (ds.length + 1) rfl rfl (by omega) ?b2 ?b3 ?b4 ?_)
 case b2=>rw [hz2]; omega
 case b3=>unfold maxLen; omega
 case b4=>rw [HB.out]; exact Nat.le_refl _
 intro w1 hown hgrow
 have hb1 : Below w.heap.size w w1:=(Below.refl _ _).grown hgrow (Nat.le_refl _) (fun k h=>by cases h)
 have ho1 : Own w1 B 88 (.slice (some ⟨w.heap.size,0,none⟩) 0 (ds.length + 1)) (u32s []):=Own.mk_ hown
 clear hown hgrow
 go_wp2_with fail
 go_loopw [3, 4, 13] (fun v cv i wr => ∃ (k cy : Nat) (out : List Nat), k ≤ ds.length ∧ i = .int .i64 k ∧ cv = .int .u64 cy ∧ cy ≤ 4 ∧ Own wr B 88 v (u32s out) ∧ Hid (out.length = k ∧ small 1000000000 out ∧ val out + 1000000000 ^ k * cy = val (ds.take k)) ∧ Below w.heap.size w wr)
   (fun _ _ i _=>ds.length - (intOf i).toNat)
 case atStart=>exact ⟨0,0,[],Nat.zero_le _,rfl,rfl,by omega,ho1,⟨rfl,bl _,by simp [val]⟩,hb1⟩
 case round =>
   obtain ⟨k,cy,out,hk,rfl,rfl,hcy,hout,HO,hb⟩:=hrel
   by_cases hlt : k < ds.length
   · obtain ⟨ad,x,rfl,hc,hx,hm⟩:=(hr.below hb).dig hlt; have hxb:=hd x hm; clear hm; have hsz:=hb.size
     go_wp2_with (at_builtin; refine wpList_append_own _ rfl _ _ 132 rfl B 88 i0 (.int .u32 0) 1 4 Tryz.underlying132 hi hz0 hz1 hz2 rfl (by decide) _ _ _ rfl (hout.alloc _) ⟨wr.heap.size,0,none⟩ 1 1 [.int .u32 ((((cy + x) % 1000000000 : Nat)) : Int)] rfl rfl ?c1 ?c2 ?c3 ?c4 ?c5 ?_)
     case c1=>exact one_news (int_eq (by omega))
     case c2=>exact ch
     case c3=>rw [am,HO.out.1]; unfold maxLen; omega
     case c4=>rw [am,HO.out.1]; omega
     case c5=>rw [HB.out]; simp; omega
     intro v' w2 hown' hgrow _; have ho2:=de hown'; have hb2:=dc hb hout HB hgrow; clear hown' hgrow hc hout hb
     go_wp2
     go_roundw
     case rel=>exact ⟨k + 1,(cy + x) / 1000000000,_,by omega,by go_num,by go_num,by omega,ho2,by
       have h:=HO.out; rw [← hx.out]
       exact ⟨by rw [List.length_append,h.1]; rfl,small_snoc h.2.1 (Nat.mod_lt _ (by decide)),carry_step hlt h.1 h.2.2⟩,hb2⟩
     case measure=>simp [intOf]; omega
   · have hk' : k = ds.length:=by omega
     have HK:=Lib.hid hk'; clear hk'; have hsz:=hb.size
     go_wp2_with (at_builtin; refine wpList_append_own _ rfl _ _ 132 rfl B 88 i0 (.int .u32 0) 1 4 Tryz.underlying132 hi hz0 hz1 hz2 rfl (by decide) _ _ _ rfl (hout.alloc _) ⟨wr.heap.size,0,none⟩ 1 1 [.int .u32 (cy : Int)] rfl rfl ?d1 ?d2 ?d3 ?d4 ?d5 ?_)
     case d1=>exact one_news rfl
     case d2=>exact ch
     case d3=>rw [am,HO.out.1]; unfold maxLen; omega
     case d4=>rw [am,HO.out.1]; omega
     case d5=>rw [HB.out]; simp; omega
     intro v' w2 hown' hgrow _; have ho2:=de hown'; have hb2:=dc hb hout HB hgrow; clear hown' hgrow hout hb; obtain ⟨A2,c2,rfl,_⟩:=ho2.slice; have hl : (out ++ [cy]).length ≤ 1000000:=by rw [List.length_append,HO.out.1]; simp; omega
     go_wp2_with fail
     refine (stripped_any ho2 hl).mono ?_; rintro e w3 ⟨⟨v,rfl,hv⟩,rfl⟩
     go_wp2
     go_ret
     have h:=HO.out; exact ⟨v,rfl,⟨_,cz (small_snoc h.2.1 (by omega)),by rw [dt,dq,h.1,h.2.2,HK.out,List.take_length],HB.out ▸ hv⟩,hb2⟩
def RetNum (w : World) (n : Nat) (e : Ending) (w' : World) : Prop:=∃ v,e = .returned (.agg #[v]) ∧ IsNat w' w.heap.size v n ∧ Below w.heap.size w w'
theorem of_any {w : World} {A : Option Addr} {c : Nat} {ds : List Nat} (hr : Row w A (u32s ds)) (hd : small 4294967296 ds) (hlen : ds.length ≤ 100000) :
   Calls Tryz.prog 146 #[.slice A ds.length c] w (RetNum w (val ds)):=by
 go_enter Tryz.func146,Tryz.ntmps146
 go_wp2_with fail
 refine (carried_any (hr.alloc _) hd hlen).mono ?_
 rintro e w1 ⟨v,rfl,⟨rs,hrs,hval,hown⟩,hb⟩
 have hfb:=ck hb
 have hc:=cell_of_one hfb
 have hf:=free_of_one hfb
 have hb':=below_first hb
 have hsz:=hb'.size
 obtain ⟨A2,c2,rfl,_⟩:=hown.slice
 have hcs:=cell_of_one (one_setCell (u:=.slice A2 (u32s rs).length c2) hfb)
 clear hb hfb
 go_wp2
 refine bodyPost_ret (v:=.agg #[.slice A2 (u32s rs).length c2]) (by simp [results,Tryz.results146,go_sem,hcs]) rfl ?_
 exact ⟨_,rfl,⟨rs,hrs,hval,(hown.setBelow (by simp) _).mono (by simp)⟩,hb'.setCell (Nat.le_refl _) _⟩
theorem fl (A : Option Addr) (n c : Nat) (w : World) : (Instr.field 137 (.agg #[.slice A n c]) 0).run Tryz.prog w = .ok (.slice A n c) w:=by kernel_rfl
def ordI (a b : Int) : Int:=if a < b then -1 else if b < a then 1 else 0
theorem nan_int (x : Int) (w : World) : Calls Tryz.prog 190 #[.int .i64 x] w fun e w'=>e = .returned (.bool false) ∧ w' = w:=by
 go_enter Tryz.func190,Tryz.ntmps190
 go_wp2
 go_ret
 exact ⟨by simp,rfl⟩
theorem nan_u32 (x : Int) (w : World) : Calls Tryz.prog 191 #[.int .u32 x] w fun e w'=>e = .returned (.bool false) ∧ w' = w:=by
 go_enter Tryz.func191,Tryz.ntmps191
 go_wp2
 go_ret
 exact ⟨by simp,rfl⟩
theorem cmp_int (x y : Int) (w : World) : Calls Tryz.prog 178 #[.int .i64 x,.int .i64 y] w fun e w'=>e = .returned (.int .i64 (ordI x y)) ∧ w = w':=by
 rcases Int.lt_trichotomy x y with h | h | h
 · go_enter Tryz.func178,Tryz.ntmps178
   go_wp2_with (first | (go_at_call 190; refine (nan_int _ _).mono ?_; rintro e w' ⟨rfl,rfl⟩))
   go_ret
   exact ⟨fc (by unfold ordI; rw [if_pos h]),rfl⟩
 · subst h
   go_enter Tryz.func178,Tryz.ntmps178
   go_wp2_with (first | (go_at_call 190; refine (nan_int _ _).mono ?_; rintro e w' ⟨rfl,rfl⟩))
   go_ret
   exact ⟨fc (by unfold ordI; rw [if_neg (by omega),if_neg (by omega)]),rfl⟩
 · go_enter Tryz.func178,Tryz.ntmps178
   go_wp2_with (first | (go_at_call 190; refine (nan_int _ _).mono ?_; rintro e w' ⟨rfl,rfl⟩))
   go_ret
   exact ⟨fc (by unfold ordI; rw [if_neg (by omega),if_pos h]),rfl⟩
theorem cmp_u32 (x y : Int) (w : World) : Calls Tryz.prog 179 #[.int .u32 x,.int .u32 y] w fun e w'=>e = .returned (.int .i64 (ordI x y)) ∧ w' = w:=by
 rcases Int.lt_trichotomy x y with h | h | h
 · go_enter Tryz.func179,Tryz.ntmps179
   go_wp2_with (first | (go_at_call 191; refine (nan_u32 _ _).mono ?_; rintro e w' ⟨rfl,rfl⟩))
   go_ret
   exact ⟨fc (by unfold ordI; rw [if_pos h]),rfl⟩
 · subst h
   go_enter Tryz.func179,Tryz.ntmps179
   go_wp2_with (first | (go_at_call 191; refine (nan_u32 _ _).mono ?_; rintro e w' ⟨rfl,rfl⟩))
   go_ret
   exact ⟨fc (by unfold ordI; rw [if_neg (by omega),if_neg (by omega)]),rfl⟩
 · go_enter Tryz.func179,Tryz.ntmps179
   go_wp2_with (first | (go_at_call 191; refine (nan_u32 _ _).mono ?_; rintro e w' ⟨rfl,rfl⟩))
   go_ret
   exact ⟨fc (by unfold ordI; rw [if_neg (by omega),if_pos h]),rfl⟩
theorem kj (ds : List Nat) (k : Nat) (hk : k ≤ ds.length) : val ds = val (ds.take k) + 1000000000 ^ k * val (ds.drop k):=by
 have:=dp (ds.take k) (ds.drop k)
 rw [List.take_append_drop,List.length_take,Nat.min_eq_left hk] at this
 exact this
theorem dn (ds : List Nat) (k : Nat) (hk : k < ds.length) : val (ds.drop k) = ds.getD k 0 + 1000000000 * val (ds.drop (k + 1)):=by
 rw [List.drop_eq_getElem_cons hk,val,List.getD_eq_getElem?_getD,List.getElem?_eq_getElem hk]; rfl
theorem ia {xs ys : List Nat} (hl : xs.length = ys.length) {k : Nat} (h : ∀ j,k ≤ j → xs.getD j 0 = ys.getD j 0) : xs.drop k = ys.drop k:=by
 apply List.ext_getElem?
 intro i
 rw [List.getElem?_drop,List.getElem?_drop]
 have:=h (k + i) (by omega)
 rw [List.getD_eq_getElem?_getD,List.getD_eq_getElem?_getD] at this
 rcases Nat.lt_or_ge (k + i) xs.length with h1 | h1
 · rw [List.getElem?_eq_getElem h1,List.getElem?_eq_getElem (by omega)] at this ⊢
   simpa using this
 · rw [List.getElem?_eq_none h1,List.getElem?_eq_none (by omega)]
theorem val_lt_of {xs ys : List Nat} (hx : small 1000000000 xs) (hl : xs.length = ys.length) {k : Nat} (hk : k < xs.length) (h : ∀ j,k + 1 ≤ j → xs.getD j 0 = ys.getD j 0) (hlt : xs.getD k 0 < ys.getD k 0) : val xs < val ys:=by
 rw [kj xs k (by omega),kj ys k (by omega),dn xs k hk,dn ys k (by omega),ia hl h]
 have h1:=val_lt (small_take hx k)
 rw [List.length_take,Nat.min_eq_left (by omega)] at h1
 have h2 : 1000000000 ^ k * (xs.getD k 0 + 1 + 1000000000 * val (ys.drop (k + 1))) ≤ 1000000000 ^ k * (ys.getD k 0 + 1000000000 * val (ys.drop (k + 1))):=Nat.mul_le_mul_left _ (by omega)
 have h3 : 1000000000 ^ k * (xs.getD k 0 + 1 + 1000000000 * val (ys.drop (k + 1))) = 1000000000 ^ k * (xs.getD k 0 + 1000000000 * val (ys.drop (k + 1))) + 1000000000 ^ k:=by
   rw [← Nat.mul_succ]; congr 1; omega
 omega
theorem ordI_length {xs ys : List Nat} (hx : right xs) (hy : right ys) (h : xs.length ≠ ys.length) : ordI (xs.length : Int) (ys.length : Int) = ordI (val xs : Int) (val ys : Int):=by
 unfold ordI
 rcases Nat.lt_or_ge xs.length ys.length with h1 | h1
 · have:=du hx hy h1; rw [if_pos (by omega),if_pos (by omega)]
 · have:=du hy hx (by omega); rw [if_neg (by omega),if_pos (by omega),if_neg (by omega),if_pos (by omega)]
theorem gh {w : World} {A1 A2 : Option Addr} {c1 c2 : Nat} {xs ys : List Nat} (hr1 : Row w A1 (u32s xs)) (hr2 : Row w A2 (u32s ys)) (hx : right xs) (hy : right ys) (hlen : xs.length ≤ 1000000) :
   Calls Tryz.prog 164 #[.slice A1 xs.length c1,.slice A2 ys.length c2] w fun e w'=>e = .returned (.int .i64 (ordI (val xs : Int) (val ys : Int))) ∧ Drawn w w':=by
 by_cases hl : xs.length = ys.length
 · have hne : (ordI (xs.length : Int) (ys.length : Int) != 0) = false:=by unfold ordI; rw [if_neg (by omega),if_neg (by omega)]; rfl
   have HL:=Lib.hid hl; clear hl
   go_enter Tryz.func164,Tryz.ntmps164
   go_wp2_with (first | (go_at_call 178; refine (cmp_int _ _ _).mono ?_; rintro e w' ⟨rfl,rfl⟩))
   go_loopw [6] (fun i wr=>∃ k : Nat,k ≤ xs.length ∧ i = .int .i64 ((k : Int) - 1) ∧ Hid (∀ j,k ≤ j → xs.getD j 0 = ys.getD j 0) ∧ Hid (Drawn w wr)) (fun i _=>(intOf i + 1).toNat)
   case atStart=>exact ⟨xs.length,Nat.le_refl _,rfl,fun j hj=>by
     rw [List.getD_eq_getElem?_getD,List.getD_eq_getElem?_getD,List.getElem?_eq_none hj,List.getElem?_eq_none (by rw [← HL.out]; exact hj)],Drawn.refl _⟩
   case round =>
     obtain ⟨k,hk,rfl,HE,HW⟩:=hrel; rcases Nat.eq_zero_or_pos k with rfl | hpos
     · go_wp2
       go_ret
       refine ⟨fc ?_,HW.out⟩; have : xs = ys:=by simpa using ia HL.out HE.out
       rw [this]; unfold ordI; rw [if_neg (by omega),if_neg (by omega)]
     · obtain ⟨p,rfl⟩ : ∃ p,k = p + 1:=⟨k - 1,by omega⟩
       rw [show ((p + 1 : Nat) : Int) - 1 = (p : Int) from by omega]; have hlt2 : p < ys.length:=by rw [← HL.out]; omega
       obtain ⟨ad1,x,rfl,hc1,hx1,_⟩:=(hr1.drawn HW.out).dig (k:=p) (by omega); obtain ⟨ad2,y,rfl,hc2,hy1,_⟩:=(hr2.drawn HW.out).dig (k:=p) hlt2; have hi1 : (p : Int) < xs.length:=by omega
       have hi2 : (p : Int) < ys.length:=by omega
       have hi0 : 0 ≤ (p : Int):=by omega
       rcases Nat.lt_trichotomy x y with h | h | h
       · have ht : (ordI (x : Int) (y : Int) != 0) = true:=by rw [bne_iff_ne]; unfold ordI; rw [if_pos (by omega)]; decide
         go_wp2
         go_quiet ((go_at_call 179; exact Calls.quiet_of_same (cmp_u32 _ _ _)))
         go_wp2
         go_ret
         refine ⟨fc ?_,HW.out.more nq⟩; have e1 : ordI (x : Int) (y : Int) = -1:=by unfold ordI; rw [if_pos (by omega)]
         have e2:=val_lt_of hx.1 HL.out (k:=p) (by omega) (fun j hj=>HE.out j hj) (by rw [hx1.out,hy1.out]; exact h); rw [e1]; unfold ordI; rw [if_pos (by omega)]
       · subst h; have ht : (ordI (x : Int) (x : Int) != 0) = false:=by unfold ordI; rw [if_neg (by omega),if_neg (by omega)]; rfl
         go_wp2
         go_quiet ((go_at_call 179; exact Calls.quiet_of_same (cmp_u32 _ _ _)))
         go_wp2
         go_roundw
         case rel=>exact ⟨p,by omega,by go_num,fun j hj=>by
           rcases Nat.lt_or_ge j (p + 1) with h | h
           · have : j = p:=by omega
             rw [this,hx1.out,hy1.out]
           · exact HE.out j h,HW.out.more nq⟩
         case measure=>first | (simp [intOf]; done) | (simp [intOf]; omega)
       · have ht : (ordI (x : Int) (y : Int) != 0) = true:=by rw [bne_iff_ne]; unfold ordI; rw [if_neg (by omega),if_pos (by omega)]; decide
         go_wp2
         go_quiet ((go_at_call 179; exact Calls.quiet_of_same (cmp_u32 _ _ _)))
         go_wp2
         go_ret
         refine ⟨fc ?_,HW.out.more nq⟩; have e1 : ordI (x : Int) (y : Int) = 1:=by unfold ordI; rw [if_neg (by omega),if_pos (by omega)]
         have e2:=val_lt_of hy.1 HL.out.symm (k:=p) hlt2 (fun j hj=>(HE.out j hj).symm) (by rw [hx1.out,hy1.out]; exact h); rw [e1]; unfold ordI; rw [if_neg (by omega),if_pos (by omega)]
 · have hne : (ordI (xs.length : Int) (ys.length : Int) != 0) = true:=by
     rw [bne_iff_ne]; unfold ordI; split
     · decide
     · split
       · decide
       · omega
   have HL:=Lib.hid hl; clear hl
   go_enter Tryz.func164,Tryz.ntmps164
   go_wp2_with (first | (go_at_call 178; refine (cmp_int _ _ _).mono ?_; rintro e w' ⟨rfl,rfl⟩))
   go_ret
   exact ⟨fc (ordI_length hx hy HL.out),Drawn.refl _⟩
theorem sum_step {out xs ys : List Nat} {k cy : Nat} (hlen : out.length = k) (hval : val out + 1000000000 ^ k * cy = val (xs.take k) + val (ys.take k)) :
   val (out ++ [(cy + (xs.getD k 0 + ys.getD k 0)) % 1000000000]) + 1000000000 ^ (k + 1) * ((cy + (xs.getD k 0 + ys.getD k 0)) / 1000000000) = val (xs.take (k + 1)) + val (ys.take (k + 1)):=by
 have h (ds : List Nat) : val (ds.take (k + 1)) = val (ds.take k) + 1000000000 ^ k * ds.getD k 0:=by
   rcases Nat.lt_or_ge k ds.length with h | h
   · exact dr ds k h
   · rw [List.take_of_length_le h,List.take_of_length_le (by omega),List.getD_eq_getElem?_getD,List.getElem?_eq_none h]; simp
 rw [dq,h,h,hlen,Nat.pow_succ,Nat.add_assoc,Nat.mul_assoc,← Nat.mul_add,Nat.mod_add_div,Nat.mul_add,Nat.mul_add]
 omega
theorem plus_any {w : World} {A1 A2 : Option Addr} {c1 c2 : Nat} {xs ys : List Nat} (hr1 : Row w A1 (u32s xs)) (hr2 : Row w A2 (u32s ys)) (hx : small 1000000000 xs) (hy : small 1000000000 ys) (hl1 : xs.length ≤ 100000) (hl2 : ys.length ≤ 100000) :
   Calls Tryz.prog 163 #[.agg #[.slice A1 xs.length c1],.agg #[.slice A2 ys.length c2]] w (RetNum w (val xs + val ys)):=by
 obtain ⟨i0,hi,hz0,hz1,hz2⟩:=info_parts dw
 obtain ⟨n,hn⟩ : ∃ n : Nat,n = max xs.length ys.length:=⟨_,rfl⟩
 have hn1 : n ≤ 100000:=by omega
 have hnc : max (xs.length : Int) (ys.length : Int) = (n : Int):=by omega
 have HN:=Lib.hid hn
 clear hn
 go_enter Tryz.func163,Tryz.ntmps163
 go_wp2_with (at_make; refine wpList_make_own _ rfl _ _ 132 rfl (w.heap.size + 3) 88 i0 (.int .u32 0) 1 Tryz.underlying132 hi hz0 hz1 .i64 .i64 ((n : Int) + 1) (n + 1) rfl rfl (by omega) ?b2 ?b3 ?b4 ?_)
 case b2=>rw [hz2]; omega
 case b3=>unfold maxLen; omega
 case b4=>simp
 intro w1 hown hgrow
 have ho1 : Own w1 (w.heap.size + 3) 88 _ (u32s []):=Own.mk_ hown
 obtain ⟨hb1,hs1,hA,hB,hC⟩:=ix hgrow
 have HA:=Lib.hid hA
 have HB:=Lib.hid hB
 have HC:=Lib.hid hC
 clear hown hgrow hnc hA hB hC
 have hx':=small_mono hx (show 1000000000 ≤ 4294967296 by decide)
 have hy':=small_mono hy (show 1000000000 ≤ 4294967296 by decide)
 go_wp2_with fail
 go_loopw [6, 7, 20] (fun v cv i wr => ∃ (k cy : Nat) (out : List Nat), k ≤ n ∧ i = .int .i64 k ∧ cv = .int .u64 cy ∧ cy ≤ 1 ∧ Own wr (w.heap.size + 3) 88 v (u32s out) ∧ Hid (out.length = k ∧ small 1000000000 out ∧ val out + 1000000000 ^ k * cy = val (xs.take k) + val (ys.take k)) ∧ Below (w.heap.size + 3) w1 wr)
   (fun _ _ i _=>n - (intOf i).toNat)
 case atStart=>exact ⟨0,0,[],Nat.zero_le _,rfl,rfl,by omega,ho1,⟨rfl,bl _,by simp [val]⟩,Below.refl _ _⟩
 case round =>
   obtain ⟨k,cy,out,hk,rfl,rfl,hcy,hout,HO,hb⟩:=hrel; have hsz:=hb.size
   by_cases hlt : k < n
   · have bW:=below_trans hb1 hb (by omega); have hcA:=cell_of_one ((hb.block w.heap.size (by omega)).trans HA.out); have hcB:=cell_of_one ((hb.block (w.heap.size + 1) (by omega)).trans HB.out)
     obtain ⟨d1,hd1⟩ : ∃ d,d = xs.getD k 0:=⟨_,rfl⟩
     obtain ⟨d2,hd2⟩ : ∃ d,d = ys.getD k 0:=⟨_,rfl⟩
     have l1 : d1 < 1000000000:=by rw [hd1]; exact bh hx (by decide) k
     have l2 : d2 < 1000000000:=by rw [hd2]; exact bh hy (by decide) k
     have q1 : ∀ m,Calls Tryz.prog 175 #[.slice A1 xs.length c1,.int .i64 k] (wr.drewN m) (fun e w'=>e = .returned (.int .u64 (d1 : Int)) ∧ w' = wr.drewN m):=fun m=>by
       have:=at_q (c:=c1) ((hr1.below bW).drewN m) hx' k (by omega); rw [Int.toNat_natCast,← hd1] at this; exact this
     have q2 : ∀ m,Calls Tryz.prog 175 #[.slice A2 ys.length c2,.int .i64 k] (wr.drewN m) (fun e w'=>e = .returned (.int .u64 (d2 : Int)) ∧ w' = wr.drewN m):=fun m=>by
       have:=at_q (c:=c2) ((hr2.below bW).drewN m) hy' k (by omega); rw [Int.toNat_natCast,← hd2] at this; exact this
     have Q1:=Lib.hid q1; have Q2:=Lib.hid q2; have D1:=Lib.hid hd1; have D2:=Lib.hid hd2; clear q1 q2 hd1 hd2 bW; have s1 : IntKind.u64.wrap ((d1 : Int) + (d2 : Int)) = (d1 : Int) + (d2 : Int):=IntWalk.u64_in _ (by omega); have s2 : IntKind.u64.wrap ((cy : Int) + ((d1 : Int) + (d2 : Int))) = (cy : Int) + ((d1 : Int) + (d2 : Int)):=IntWalk.u64_in _ (by omega)
     go_wp2
     go_quiet ((go_at_call 175; first | (with_reducible exact Calls.quiet_of_same (Q1.out _)) | (with_reducible exact Calls.quiet_of_same (Q2.out _))))
     clear s1 s2; have hout' : Own (wr.drewN nq) (w.heap.size + 3) 88 u6 (u32s out):=hout; have hb':=gf hb nq; have hsz' : w1.heap.size ≤ (wr.drewN nq).heap.size:=hsz; clear hout hb hsz hcA hcB Q1 Q2
     generalize wr.drewN nq = wd at *
     go_wp2_with (at_builtin; refine wpList_append_own _ rfl _ _ 132 rfl (w.heap.size + 3) 88 i0 (.int .u32 0) 1 4 Tryz.underlying132 hi hz0 hz1 hz2 rfl (by decide) _ _ _ rfl (hout'.alloc _) ⟨wd.heap.size,0,none⟩ 1 1 [.int .u32 ((((cy + (d1 + d2)) % 1000000000 : Nat)) : Int)] rfl rfl ?c1 ?c2 ?c3 ?c4 ?c5 ?_)
     case c1=>exact one_news (int_eq (by omega))
     case c2=>exact ch
     case c3=>rw [am,HO.out.1]; unfold maxLen; omega
     case c4=>rw [am,HO.out.1]; omega
     case c5=>simp; omega
     intro v' w2 hown' hgrow' _; have ho2:=de hown'; have hb2:=ed hb' hout' hs1 hgrow'; clear hown' hgrow' hout' hb'
     go_wp2
     go_roundw
     case rel=>exact ⟨k + 1,(cy + (d1 + d2)) / 1000000000,_,by omega,by go_num,by go_num,by omega,ho2,by
       have h:=HO.out; rw [D1.out,D2.out]
       exact ⟨by rw [List.length_append,h.1]; rfl,small_snoc h.2.1 (Nat.mod_lt _ (by decide)),sum_step h.1 h.2.2⟩,hb2⟩
     case measure=>simp [intOf]; omega
   · have hk' : k = n:=by omega
     have HK:=Lib.hid hk'; clear hk'
     go_wp2_with (at_builtin; refine wpList_append_own _ rfl _ _ 132 rfl (w.heap.size + 3) 88 i0 (.int .u32 0) 1 4 Tryz.underlying132 hi hz0 hz1 hz2 rfl (by decide) _ _ _ rfl (hout.alloc _) ⟨wr.heap.size,0,none⟩ 1 1 [.int .u32 (cy : Int)] rfl rfl ?d1 ?d2 ?d3 ?d4 ?d5 ?_)
     case d1=>exact one_news rfl
     case d2=>exact ch
     case d3=>rw [am,HO.out.1]; unfold maxLen; omega
     case d4=>rw [am,HO.out.1]; omega
     case d5=>simp; omega
     intro v' w2 hown' hgrow' _; have ho2:=de hown'; have hb2:=ed hb hout hs1 hgrow'; clear hown' hgrow' hout hb; obtain ⟨A2',c2',rfl,_⟩:=ho2.slice; have hl : (out ++ [cy]).length ≤ 1000000:=by rw [List.length_append,HO.out.1]; simp; omega
     go_wp2_with fail
     refine (stripped_any ho2 hl).mono ?_; rintro e w3 ⟨⟨v,rfl,hv⟩,rfl⟩; have hcell:=(hb2.block (w.heap.size + 1 + 1) (by omega)).trans HC.out; have hc:=cell_of_one hcell; have hf:=free_of_one hcell; obtain ⟨A3,c3,rfl,_⟩:=hv.slice; have hcs:=cell_of_one (one_setCell (u:=.slice A3 (u32s (strip (out ++ [cy]))).length c3) hcell); clear hcell
     go_wp2
     refine bodyPost_ret (v:=.agg #[.slice A3 (u32s (strip (out ++ [cy]))).length c3]) (by simp [results,Tryz.results163,go_sem,hcs]) rfl ?_; have h:=HO.out; refine ⟨_,rfl,⟨_,cz (small_snoc h.2.1 (by omega)),?_,(hv.setBelow (show w.heap.size + 1 + 1 < w.heap.size + 3 by omega) _).mono (by omega)⟩,(below_trans hb1 hb2 (by omega)).setCell (Nat.le_succ_of_le (Nat.le_succ _)) _⟩; rw [dt,dq,h.1,h.2.2,HK.out,HN.out,List.take_of_length_le (by omega),List.take_of_length_le (by omega)]
abbrev Arow:=Option Addr × Nat × List Nat
def sl (r : Arow) : Value:=.slice r.1 r.2.2.length r.2.1
def ka (w : World) (A : Option Addr) (L : List Arow) : Prop:=Row w A (L.map sl) ∧ ∀ r ∈ L,Row w r.1 (u32s r.2.2) ∧ small 4294967296 r.2.2 ∧ r.2.2.length ≤ 10000
def vals (L : List Arow) : List Nat:=L.map fun r=>val r.2.2
theorem ka.below {w w' : World} {A : Option Addr} {L : List Arow} (h : ka w A L) (hb : Below w.heap.size w w') : ka w' A L :=
 ⟨h.1.below hb,fun r hr=>⟨(h.2 r hr).1.below hb,(h.2 r hr).2⟩⟩
def RetNumB (w : World) (B n : Nat) (e : Ending) (w' : World) : Prop:=∃ v,e = .returned (.agg #[v]) ∧ IsNat w' B v n ∧ Below w.heap.size w w'
theorem fold_plus {w : World} {B0 N : Nat} {A1 A : Option Addr} {c1 c : Nat} {xs : List Nat} {L : List Arow} (hx : right xs) (ho1 : Own w B0 88 (.slice A1 xs.length c1) (u32s xs)) (hB0 : B0 ≤ w.heap.size) (hL : ka w A L)
   (hacc : ∀ k,k ≤ L.length → ((vals L).take k).foldl (fun a b=>a + b) (val xs) < 1000000000 ^ N) (hN : N ≤ 100000) (hlen : L.length ≤ 100000) :
   Calls Tryz.prog 162 #[.agg #[.slice A1 xs.length c1],.func (.func 163) #[] #[],.slice A L.length c] w (RetNumB w B0 ((vals L).foldl (fun a b=>a + b) (val xs))):=by
 have HAcc:=Lib.hid hacc
 clear hacc
 go_enter Tryz.func162,Tryz.ntmps162
 go_wp2_with fail
 obtain ⟨w1,hw1⟩ : ∃ w1,w1 = (w.alloc (Obj.cells #[Value.slice A1 xs.length c1] 137)).alloc (Obj.cells #[Value.slice none 0 0] 137):=⟨_,rfl⟩
 have hb1 : Below w.heap.size w w1:=by rw [hw1]; exact below_first ((Below.refl _ _).alloc (Nat.le_refl _) _)
 have hs1 : w1.heap.size = w.heap.size + 2:=by rw [hw1]; simp
 have HBox : Hid (w1.heap[w.heap.size]? = some (.cells #[Value.slice A1 xs.length c1] 137 (0,0))):=by
   rw [hw1]; exact ck ((Below.refl _ _).alloc (Nat.le_refl _) _)
 have HRes : Hid (w1.heap[w.heap.size + 1]? = some (.cells #[Value.slice none 0 0] 137 (0,0))):=by
   rw [hw1]; have:=heap_alloc_new (w.alloc (Obj.cells #[Value.slice A1 xs.length c1] 137)) (Obj.cells #[Value.slice none 0 0] 137); rw [show (w.alloc (Obj.cells #[Value.slice A1 xs.length c1] 137)).heap.size = w.heap.size + 1 from by simp] at this; exact this
 rw [← hw1]
 have HS1:=Lib.hid hs1
 clear hw1 hs1
 go_loopw [11] (fun i wr => ∃ (k : Nat) (A' : Option Addr) (c' : Nat) (rs : List Nat), k ≤ L.length ∧ i = .int .i64 k ∧ Hid (wr.heap[w.heap.size]? = some (.cells #[Value.slice A' rs.length c'] 137 (0, 0))) ∧ Hid (wr.heap[w.heap.size + 1]? = some (.cells #[Value.slice none 0 0] 137 (0, 0))) ∧
     right rs ∧ Hid (val rs = ((vals L).take k).foldl (fun a b=>a + b) (val xs)) ∧ Own wr B0 88 (.slice A' rs.length c') (u32s rs) ∧ Below w.heap.size w wr ∧ w1.heap.size ≤ wr.heap.size)
   (fun i _=>L.length - (intOf i).toNat)
 case atStart=>exact ⟨0,A1,c1,xs,Nat.zero_le _,rfl,HBox,HRes,hx,by simp [Hid],ho1.below hb1,hb1,Nat.le_refl _⟩
 case round =>
   obtain ⟨k,A',c',rs,hk,rfl,HB,HR,hrs,HV,hown,hb,hsz⟩:=hrel
   by_cases hlt : k < L.length
   · have hcb:=cell_of_one HB.out; have hfb:=free_of_one HB.out; obtain ⟨ad,rfl,hce⟩:=(hL.1.below hb).at_ (k:=k) (by simpa using hlt); rw [List.getElem_map] at hce
     obtain ⟨r,hr⟩ : ∃ r,r = L[k]:=⟨_,rfl⟩
     rw [← hr] at hce; have hrm : r ∈ L:=by rw [hr]; exact List.getElem_mem _
     obtain ⟨Ar,cr,ds⟩:=r; have hce' : wr.cell? (ad.add k) = some (.slice Ar ds.length cr):=hce; obtain ⟨hrd0,hdsm,hdsl⟩:=hL.2 _ hrm; have hrd : Row wr Ar (u32s ds):=Row.below hrd0 hb; have hdsm' : small 4294967296 ds:=hdsm; have hdsl' : ds.length ≤ 10000:=hdsl
     have HVs : Hid ((vals L).take (k + 1) = (vals L).take k ++ [val ds]):=by
       show _ = _
       rw [List.take_add_one,List.getElem?_eq_getElem (by simpa [vals] using hlt)]; simp only [vals,List.getElem_map,← hr,Option.toList_some]
     have hrl : rs.length ≤ 100000:=Nat.le_trans (right_length_le hrs (by rw [HV.out]; exact HAcc.out k hk)) hN; have hrr : Row wr.drew A' (u32s rs):=hown.row32; have hlw : w.heap.size + 2 ≤ wr.heap.size:=by rw [← HS1.out]; exact hsz
     clear hr hce hrm hrd0 hdsm hdsl
     go_wp2
     go_region_with (first
       | (go_at_call 146; refine (of_any (w:=wr.drew) hrd hdsm' (by omega)).mono ?_; rintro e w2 ⟨v2,rfl,⟨ys,hy,hyv,hyo⟩,hb2⟩; obtain ⟨A2,c2,rfl,hry,_⟩:=hyo.slice32; have hcb2 : w2.cell? ⟨w.heap.size,0,none⟩ = some (.slice A' rs.length c'):=(hb2.cell (p:=⟨w.heap.size,0,none⟩) (show w.heap.size < wr.heap.size by omega)).trans hcb)
       | (go_at_call 163; refine (plus_any (Row.below hrr hb2) hry hrs.1 hy.1 hrl (Nat.le_trans (right_length_le hy (by rw [hyv]; exact val_lt32 hdsm')) (by omega))).mono ?_; rintro e w3 ⟨v3,rfl,⟨zs,hz,hzv,hzo⟩,hb3⟩; obtain ⟨A3,c3,rfl,_⟩:=hzo.slice32; have hsz2 : wr.heap.size ≤ w2.heap.size:=hb2.size; have hB3:=(hb3.block w.heap.size (by omega)).trans ((hb2.block w.heap.size (show w.heap.size < wr.heap.size by omega)).trans HB.out); have hcb3:=cell_of_one hB3; have hfb3:=free_of_one hB3; have HB3:=Lib.hid hB3; clear hB3))
     all_goals
       go_wp2
       go_roundw
       case rel =>
         refine ⟨k + 1,A3,c3,zs,by omega,by go_num,one_setCell HB3.out,?_,hz,?_,?_,?_,?_⟩
         · exact (Below.heap_setCell _ _ _ _ (by simp)).trans ((hb3.block _ (by omega)).trans ((hb2.block (w.heap.size + 1) (show w.heap.size + 1 < wr.heap.size by omega)).trans HR.out))
         · show _ = _
           rw [HVs.out,List.foldl_append,← HV.out,hzv,hyv]; rfl
         · exact (hzo.setBelow (show w.heap.size < w2.heap.size by omega) _).mono (by omega)
         · exact (((Below.drew hb).trans (hb2.mono (show w.heap.size ≤ wr.heap.size by omega))).trans (hb3.mono (by omega))).setCell (Nat.le_refl _) _
         · have:=hb3.size; simp; omega
       case measure=>simp [intOf]; omega
   · have hcb:=cell_of_one HB.out; have hcr:=cell_of_one HR.out; have hfr:=free_of_one HR.out; have hcs:=cell_of_one (one_setCell (u:=.slice A' rs.length c') HR.out); have hk' : k = L.length:=by omega
     have HK:=Lib.hid hk'; clear hk'
     go_wp2
     refine bodyPost_ret (v:=.agg #[.slice A' rs.length c']) (by simp [results,Tryz.results162,go_sem,hcs]) rfl ?_; refine ⟨_,rfl,⟨rs,hrs,?_,hown.setOther HR.out (by decide) _⟩,hb.setCell (Nat.le_succ _) _⟩; rw [HV.out,HK.out]; congr 1; rw [List.take_of_length_le (by simp [vals])]
theorem add_any {w : World} {N : Nat} {A : Option Addr} {c : Nat} {L : List Arow} (hL : ka w A L) (hacc : ∀ k,k ≤ L.length → ((vals L).take k).foldl (fun a b=>a + b) 0 < 1000000000 ^ N) (hN : N ≤ 100000) (hlen : L.length ≤ 100000) :
   Calls Tryz.prog 149 #[.slice A L.length c] w (RetNat w ((vals L).foldl (fun a b=>a + b) 0)):=by
 have hf:=fold_plus (w:=w) (B0:=w.heap.size) (N:=N) (A1:=none) (c1:=0) (c:=c) (xs:=[]) iy (Own.nil _ _ _) (Nat.le_refl _) hL hacc hN hlen
 have HF:=Lib.hid hf
 have hfield:=fl
 clear hf hacc
 go_enter Tryz.func149,Tryz.ntmps149
 go_wp2_with fail
 refine HF.out.mono ?_
 rintro e w2 ⟨v,rfl,hv,hb⟩
 obtain ⟨rs,h1,h2,h3⟩:=hv
 obtain ⟨A2,c2,rfl,_⟩:=h3.slice32
 go_wp2
 go_ret
 exact ⟨_,rfl,⟨rs,h1,h2,h3⟩,hb⟩
theorem fd (ds : List Nat) (k : Nat) : val (ds.take (k + 1)) = val (ds.take k) + 1000000000 ^ k * ds.getD k 0:=by
 rcases Nat.lt_or_ge k ds.length with h | h
 · exact dr ds k h
 · rw [List.take_of_length_le h,List.take_of_length_le (by omega),List.getD_eq_getElem?_getD,List.getElem?_eq_none h]; simp
theorem diff_step {out xs ys : List Nat} {k bo x : Nat} (hlen : out.length = k) (hx : x + ys.getD k 0 + bo = xs.getD k 0 + 1000000000) (hlt : x < 2000000000) (hval : val out + val (ys.take k) = val (xs.take k) + 1000000000 ^ k * bo) :
   val (out ++ [x % 1000000000]) + val (ys.take (k + 1)) = val (xs.take (k + 1)) + 1000000000 ^ (k + 1) * (1 - x / 1000000000):=by
 rw [dq,fd,fd,hlen,Nat.pow_succ,Nat.mul_assoc]
 have h1 : x % 1000000000 + ys.getD k 0 + bo = xs.getD k 0 + 1000000000 * (1 - x / 1000000000):=by omega
 have h2 : 1000000000 ^ k * (x % 1000000000 + ys.getD k 0 + bo) = 1000000000 ^ k * (xs.getD k 0 + 1000000000 * (1 - x / 1000000000)):=by rw [h1]
 rw [Nat.mul_add,Nat.mul_add,Nat.mul_add] at h2
 omega
theorem minus_any {w : World} {A1 A2 : Option Addr} {c1 c2 : Nat} {xs ys : List Nat} (hr1 : Row w A1 (u32s xs)) (hr2 : Row w A2 (u32s ys)) (hx : small 1000000000 xs) (hy : small 1000000000 ys) (hl1 : xs.length ≤ 100000) (hl2 : ys.length ≤ xs.length) (hle : val ys ≤ val xs) :
   Calls Tryz.prog 165 #[.agg #[.slice A1 xs.length c1],.agg #[.slice A2 ys.length c2]] w (RetNum w (val xs - val ys)):=by
 obtain ⟨i0,hi,hz0,hz1,hz2⟩:=info_parts dw
 obtain ⟨n,hn⟩ : ∃ n : Nat,n = xs.length:=⟨_,rfl⟩
 obtain ⟨m,hm⟩ : ∃ m : Nat,m = ys.length:=⟨_,rfl⟩
 have hn1 : n ≤ 100000:=by omega
 have hmn : m ≤ n:=by omega
 have HLE:=Lib.hid hle
 rw [← hn,← hm]
 have HN:=Lib.hid hn
 have HM:=Lib.hid hm
 clear hn hm hle hl1 hl2
 go_enter Tryz.func165,Tryz.ntmps165
 go_wp2_with (at_make; refine wpList_make_own _ rfl _ _ 132 rfl (w.heap.size + 3) 88 i0 (.int .u32 0) 1 Tryz.underlying132 hi hz0 hz1 .i64 .i64 (n : Int) n rfl rfl (by omega) ?b2 ?b3 ?b4 ?_)
 case b2=>rw [hz2]; omega
 case b3=>unfold maxLen; omega
 case b4=>simp
 intro w1 hown hgrow
 have ho1 : Own w1 (w.heap.size + 3) 88 _ (u32s []):=Own.mk_ hown
 obtain ⟨hb1,hs1,hA,hB,hC⟩:=ix hgrow
 have HA:=Lib.hid hA
 have HB:=Lib.hid hB
 have HC:=Lib.hid hC
 clear hown hgrow
 have hcA0:=cell_of_one hA
 clear hA hB hC
 have hx':=small_mono hx (show 1000000000 ≤ 4294967296 by decide)
 have hy':=small_mono hy (show 1000000000 ≤ 4294967296 by decide)
 go_wp2_with fail
 clear hcA0
 go_loopw [5, 6, 16] (fun v cv i wr => ∃ (k bo : Nat) (out : List Nat), k ≤ n ∧ i = .int .i64 k ∧ cv = .int .u64 bo ∧ bo ≤ 1 ∧ Own wr (w.heap.size + 3) 88 v (u32s out) ∧ Hid (out.length = k ∧ small 1000000000 out ∧ val out + val (ys.take k) = val (xs.take k) + 1000000000 ^ k * bo) ∧ Below (w.heap.size + 3) w1 wr)
   (fun _ _ i _=>n - (intOf i).toNat)
 case atStart=>exact ⟨0,0,[],Nat.zero_le _,rfl,rfl,by omega,ho1,⟨rfl,bl _,by simp [val]⟩,Below.refl _ _⟩
 case round =>
   obtain ⟨k,bo,out,hk,rfl,rfl,hbo,hout,HO,hb⟩:=hrel; have hsz:=hb.size
   by_cases hlt : k < n
   · have bW:=below_trans hb1 hb (by omega); have hcA:=cell_of_one ((hb.block w.heap.size (by omega)).trans HA.out); have hcB:=cell_of_one ((hb.block (w.heap.size + 1) (by omega)).trans HB.out)
     obtain ⟨d1,hd1⟩ : ∃ d,d = xs.getD k 0:=⟨_,rfl⟩
     obtain ⟨d2,hd2⟩ : ∃ d,d = ys.getD k 0:=⟨_,rfl⟩
     have l1 : d1 < 1000000000:=by rw [hd1]; exact bh hx (by decide) k
     have l2 : d2 < 1000000000:=by rw [hd2]; exact bh hy (by decide) k
     have q1 : ∀ j,Calls Tryz.prog 175 #[.slice A1 n c1,.int .i64 k] (wr.drewN j) (fun e w'=>e = .returned (.int .u64 (d1 : Int)) ∧ w' = wr.drewN j):=fun j=>by
       have:=at_q (c:=c1) ((hr1.below bW).drewN j) hx' k (by omega); rw [Int.toNat_natCast,← hd1,← HN.out] at this; exact this
     have q2 : ∀ j,Calls Tryz.prog 175 #[.slice A2 m c2,.int .i64 k] (wr.drewN j) (fun e w'=>e = .returned (.int .u64 (d2 : Int)) ∧ w' = wr.drewN j):=fun j=>by
       have:=at_q (c:=c2) ((hr2.below bW).drewN j) hy' k (by omega); rw [Int.toNat_natCast,← hd2,← HM.out] at this; exact this
     have Q1:=Lib.hid q1; have Q2:=Lib.hid q2; have D1:=Lib.hid hd1; have D2:=Lib.hid hd2; clear q1 q2 hd1 hd2 bW
     obtain ⟨x,hxe⟩ : ∃ x : Nat,x = d1 + 1000000000 - d2 - bo:=⟨_,rfl⟩
     have hx1 : x + d2 + bo = d1 + 1000000000:=by omega
     have hx2 : x < 2000000000:=by omega
     have s1 : IntKind.u64.wrap ((d1 : Int) + 1000000000) = (d1 : Int) + 1000000000:=IntWalk.u64_in _ (by omega); have s2 : IntKind.u64.wrap ((d1 : Int) + 1000000000 - (d2 : Int)) = (d1 : Int) + 1000000000 - (d2 : Int):=IntWalk.u64_in _ (by omega); have s3 : IntKind.u64.wrap ((d1 : Int) + 1000000000 - (d2 : Int) - (bo : Int)) = (x : Int):=(IntWalk.u64_in _ (by omega)).trans (by omega); clear hxe
     go_wp2
     go_quiet ((go_at_call 175; first | (with_reducible exact Calls.quiet_of_same (Q1.out _)) | (with_reducible exact Calls.quiet_of_same (Q2.out _))))
     clear s1 s2 s3; have hout' : Own (wr.drewN nq) (w.heap.size + 3) 88 u5 (u32s out):=hout; have hb':=gf hb nq; have hsz' : w1.heap.size ≤ (wr.drewN nq).heap.size:=hsz; clear hout hb hsz hcA hcB Q1 Q2
     generalize wr.drewN nq = wd at *
     go_wp2_with (at_builtin; refine wpList_append_own _ rfl _ _ 132 rfl (w.heap.size + 3) 88 i0 (.int .u32 0) 1 4 Tryz.underlying132 hi hz0 hz1 hz2 rfl (by decide) _ _ _ rfl (hout'.alloc _) ⟨wd.heap.size,0,none⟩ 1 1 [.int .u32 (((x % 1000000000 : Nat)) : Int)] rfl rfl ?c1 ?c2 ?c3 ?c4 ?c5 ?_)
     case c1=>exact one_news (int_eq (by omega))
     case c2=>exact ch
     case c3=>rw [am,HO.out.1]; unfold maxLen; omega
     case c4=>rw [am,HO.out.1]; omega
     case c5=>simp; omega
     intro v' w2 hown' hgrow' _; have ho2:=de hown'; have hb2:=ed hb' hout' hs1 hgrow'; clear hown' hgrow' hout' hb'
     go_wp2
     go_roundw
     case rel=>exact ⟨k + 1,1 - x / 1000000000,_,by omega,by go_num,int_eq (by omega),by omega,ho2,by
       have h:=HO.out
       exact ⟨by rw [List.length_append,h.1]; rfl,small_snoc h.2.1 (Nat.mod_lt _ (by decide)),diff_step h.1 (by rw [← D1.out,← D2.out]; exact hx1) hx2 h.2.2⟩,hb2⟩
     case measure=>simp [intOf]; omega
   · have hk' : k = n:=by omega
     have HK:=Lib.hid hk'; clear hk'; obtain ⟨A2',c2',rfl,_⟩:=hout.slice32; have hl : out.length ≤ 1000000:=by rw [HO.out.1]; omega
     go_wp2_with fail
     refine (stripped_any hout hl).mono ?_; rintro e w3 ⟨⟨v,rfl,hv⟩,rfl⟩; have hcell:=(hb.block (w.heap.size + 1 + 1) (by omega)).trans HC.out; have hc:=cell_of_one hcell; have hf:=free_of_one hcell; obtain ⟨A3,c3,rfl,_⟩:=hv.slice32; have hcs:=cell_of_one (one_setCell (u:=.slice A3 (strip out).length c3) hcell); clear hcell
     go_wp2
     refine bodyPost_ret (v:=.agg #[.slice A3 (strip out).length c3]) (by simp [results,Tryz.results165,go_sem,hcs]) rfl ?_; have h:=HO.out; refine ⟨_,rfl,⟨_,cz h.2.1,?_,(hv.setBelow (show w.heap.size + 1 + 1 < w.heap.size + 3 by omega) _).mono (by omega)⟩,(below_trans hb1 hb (by omega)).setCell (Nat.le_succ_of_le (Nat.le_succ _)) _⟩; have hv2:=h.2.2; rw [HK.out,HN.out,List.take_length,List.take_of_length_le (by rw [← HM.out,← HN.out]; exact hmn)] at hv2
     have hlt2 : val out < 1000000000 ^ xs.length:=by
       have:=val_lt h.2.1; rw [h.1,HK.out,HN.out] at this; exact this
     have hle:=HLE.out; rw [dt]; have h01 : bo = 0 ∨ bo = 1:=by omega
     rcases h01 with h0 | h0
     · rw [h0,Nat.mul_zero,Nat.add_zero] at hv2; omega
     · rw [h0,Nat.mul_one] at hv2; omega
theorem trimRow_any {w : World} {A : Option Addr} {c : Nat} {ds : List Nat} (hr : Row w A (u32s ds)) (hd : small 4294967296 ds) (hlen : ds.length ≤ 10000) :
   Calls Tryz.prog 126 #[.slice A ds.length c] w (RetNat w (val ds)):=by
 have hf:=of_any (c:=c) hr hd (by omega)
 have HF:=Lib.hid hf
 have hfield:=fl
 clear hf
 go_enter Tryz.func126,Tryz.ntmps126
 go_wp2_with fail
 refine HF.out.mono ?_
 rintro e w2 ⟨v,rfl,hv,hb⟩
 obtain ⟨rs,h1,h2,h3⟩:=hv
 obtain ⟨A2,c2,rfl,_⟩:=h3.slice32
 go_wp2
 go_ret
 exact ⟨_,rfl,⟨rs,h1,h2,h3⟩,hb⟩
theorem cmp_any {w : World} {A1 A2 : Option Addr} {c1 c2 : Nat} {xs ys : List Nat} (hr1 : Row w A1 (u32s xs)) (hr2 : Row w A2 (u32s ys)) (hx : small 4294967296 xs) (hy : small 4294967296 ys) (hl1 : xs.length ≤ 10000) (hl2 : ys.length ≤ 10000) :
   Calls Tryz.prog 158 #[.slice A1 xs.length c1,.slice A2 ys.length c2] w fun e w'=>e = .returned (.int .i64 (ordI (val xs : Int) (val ys : Int))) ∧ Below w.heap.size w w':=by
 have hf:=of_any (c:=c1) hr1 hx (by omega)
 have hg:=fun (W : World) (hW : Below w.heap.size w W)=>of_any (c:=c2) (hr2.below hW) hy (by omega)
 have HF:=Lib.hid hf
 have HG:=Lib.hid hg
 have HX:=Lib.hid hx
 have hfield:=fl
 clear hf hg
 go_enter Tryz.func158,Tryz.ntmps158
 go_wp2_with fail
 refine HF.out.mono ?_
 rintro e w2 ⟨v,rfl,⟨rs,h1,h2,h3⟩,hb⟩
 obtain ⟨A3,c3,rfl,hr3,_⟩:=h3.slice32
 go_wp2_with fail
 refine (HG.out _ hb).mono ?_
 rintro e w3 ⟨v,rfl,⟨ts,k1,k2,k3⟩,hb2⟩
 obtain ⟨A4,c4,rfl,hr4,_⟩:=k3.slice32
 have s1:=hb.size
 have b3:=hb.trans (hb2.mono s1)
 have hl : rs.length ≤ 1000000:=Nat.le_trans (right_length_le h1 (by rw [h2]; exact val_lt32 HX.out)) (by omega)
 have hcp:=gh (c1:=c3) (c2:=c4) (hr3.below hb2) hr4 h1 k1 hl
 rw [h2,k2] at hcp
 have HC:=Lib.hid hcp
 clear hcp hb hb2 h3 k3 hr3 hr4
 go_wp2_with fail
 refine HC.out.mono ?_
 rintro e w4 ⟨rfl,hd4⟩
 have b4 : Below w.heap.size w w4:=b3.trans (hd4.below.mono b3.size)
 clear hd4 b3
 go_wp2
 go_ret
 exact ⟨rfl,b4⟩
theorem sub_yes {w : World} {A1 A2 : Option Addr} {c1 c2 : Nat} {xs ys : List Nat} (hr1 : Row w A1 (u32s xs)) (hr2 : Row w A2 (u32s ys)) (hx : small 4294967296 xs) (hy : small 4294967296 ys) (hl1 : xs.length ≤ 10000) (hl2 : ys.length ≤ 10000) (hle : val ys ≤ val xs) :
   Calls Tryz.prog 150 #[.slice A1 xs.length c1,.slice A2 ys.length c2] w fun e w'=>∃ v,e = .returned (.tuple #[v,.bool true]) ∧ IsNat w' w.heap.size v (val xs - val ys) ∧ Below w.heap.size w w':=by
 have hf:=of_any (c:=c1) hr1 hx (by omega)
 have hg:=fun (W : World) (hW : Below w.heap.size w W)=>of_any (c:=c2) (hr2.below hW) hy (by omega)
 have HF:=Lib.hid hf
 have HG:=Lib.hid hg
 have HX:=Lib.hid hx
 have HLE:=Lib.hid hle
 have hfield:=fl
 clear hf hg hle
 go_enter Tryz.func150,Tryz.ntmps150
 go_wp2_with fail
 refine HF.out.mono ?_
 rintro e w2 ⟨v,rfl,⟨rs,h1,h2,h3⟩,hb⟩
 obtain ⟨A3,c3,rfl,hr3,_⟩:=h3.slice32
 go_wp2_with fail
 refine (HG.out _ hb).mono ?_
 rintro e w3 ⟨v,rfl,⟨ts,k1,k2,k3⟩,hb2⟩
 obtain ⟨A4,c4,rfl,hr4,_⟩:=k3.slice32
 have s1:=hb.size
 have b3:=hb.trans (hb2.mono s1)
 obtain ⟨M,hM1,hM2⟩ : ∃ M,M ≤ 10001 ∧ 10001 ≤ M:=⟨10001,Nat.le_refl _,Nat.le_refl _⟩
 have hl : rs.length ≤ M:=right_length_le h1 (by rw [h2]; exact Nat.lt_of_lt_of_le (val_lt32 HX.out) (Nat.pow_le_pow_right (by decide) (by omega)))
 have hlt : ts.length ≤ rs.length:=by
   rcases Nat.lt_or_ge rs.length ts.length with h | h
   · exfalso
     have q1:=val_lt h1.1; have q2:=right_length_le k1 (k:=rs.length) (by rw [k2]; have:=HLE.out; rw [h2] at q1; omega); omega
   · exact h
 have hr3':=hr3.below hb2
 clear hb hb2 h3 k3 hr3
 go_wp2_with fail
 obtain ⟨W,hW⟩ : ∃ W,W = (w3.alloc (Obj.cells #[Value.slice A3 rs.length c3] 137)).alloc (Obj.cells #[Value.slice A4 ts.length c4] 137):=⟨_,rfl⟩
 have hbW : Below w3.heap.size w3 W:=by rw [hW]; exact below_first ((Below.refl _ _).alloc (Nat.le_refl _) _)
 have hbox : W.heap[w3.heap.size]? = some (.cells #[Value.slice A3 rs.length c3] 137 (0,0)):=by
   rw [hW]; exact ck ((Below.refl _ _).alloc (Nat.le_refl _) _)
 have hbox2 : W.heap[w3.heap.size + 1]? = some (.cells #[Value.slice A4 ts.length c4] 137 (0,0)):=by
   rw [hW]; exact new_at (by simp)
 rw [← hW]
 clear hW
 obtain ⟨o,ho⟩ : ∃ o,o = ordI (val rs : Int) (val ts : Int):=⟨_,rfl⟩
 have ho0 : 0 ≤ o:=by
   rw [ho,h2,k2]; have:=HLE.out; unfold ordI; rw [if_neg (by omega)]; split <;> omega
 have hcp:=gh (c1:=c3) (c2:=c4) (hr3'.below hbW) (hr4.below hbW) h1 k1 (by omega)
 rw [← ho] at hcp
 have HC:=Lib.hid hcp
 clear hcp ho
 refine HC.out.mono ?_
 rintro e w4 ⟨rfl,hd⟩
 have hb4 : Below W.heap.size W w4:=hd.below
 have sW:=hbW.size
 have hW2 : w3.heap.size + 1 < W.heap.size:=lt_block hbox2
 have hc1:=cell_of_one ((hb4.block w3.heap.size (by omega)).trans hbox)
 have hc2:=cell_of_one ((hb4.block (w3.heap.size + 1) (by omega)).trans hbox2)
 have b4:=(b3.trans (hbW.mono b3.size)).trans (hb4.mono (Nat.le_trans b3.size sW))
 have hmi:=minus_any (w:=w4) (c1:=c3) (c2:=c4) ((hr3'.below hbW).below hb4) ((hr4.below hbW).below hb4) h1.1 k1.1 (by omega) hlt (by rw [h2,k2]; exact HLE.out)
 rw [h2,k2] at hmi
 have HMI:=Lib.hid hmi
 clear hmi hbW hb4 hd HC hbox hbox2 hr3' hr4 b3
 go_wp2_with fail
 refine HMI.out.mono ?_
 rintro e w5 ⟨v,rfl,hv,hb5⟩
 have b5:=b4.trans (hb5.mono b4.size)
 obtain ⟨us,g1,g2,g3⟩:=hv
 obtain ⟨A5,c5,rfl,_⟩:=g3.slice32
 clear hb5
 go_wp2
 go_returns
 exact ⟨_,rfl,⟨us,g1,g2,g3.mono b4.size⟩,b5⟩
theorem sub_no {w : World} {A1 A2 : Option Addr} {c1 c2 : Nat} {xs ys : List Nat} (hr1 : Row w A1 (u32s xs)) (hr2 : Row w A2 (u32s ys)) (hx : small 4294967296 xs) (hy : small 4294967296 ys) (hl1 : xs.length ≤ 10000) (hl2 : ys.length ≤ 10000) (hle : val xs < val ys) :
   Calls Tryz.prog 150 #[.slice A1 xs.length c1,.slice A2 ys.length c2] w fun e w'=>e = .returned (.tuple #[.slice none 0 0,.bool false]) ∧ Below w.heap.size w w':=by
 have hf:=of_any (c:=c1) hr1 hx (by omega)
 have hg:=fun (W : World) (hW : Below w.heap.size w W)=>of_any (c:=c2) (hr2.below hW) hy (by omega)
 have HF:=Lib.hid hf
 have HG:=Lib.hid hg
 have HX:=Lib.hid hx
 have HLE:=Lib.hid hle
 have hfield:=fl
 clear hf hg hle
 go_enter Tryz.func150,Tryz.ntmps150
 go_wp2_with fail
 refine HF.out.mono ?_
 rintro e w2 ⟨v,rfl,⟨rs,h1,h2,h3⟩,hb⟩
 obtain ⟨A3,c3,rfl,hr3,_⟩:=h3.slice32
 go_wp2_with fail
 refine (HG.out _ hb).mono ?_
 rintro e w3 ⟨v,rfl,⟨ts,k1,k2,k3⟩,hb2⟩
 obtain ⟨A4,c4,rfl,hr4,_⟩:=k3.slice32
 have s1:=hb.size
 have b3:=hb.trans (hb2.mono s1)
 obtain ⟨M,hM1,hM2⟩ : ∃ M,M ≤ 10001 ∧ 10001 ≤ M:=⟨10001,Nat.le_refl _,Nat.le_refl _⟩
 have hl : rs.length ≤ M:=right_length_le h1 (by rw [h2]; exact Nat.lt_of_lt_of_le (val_lt32 HX.out) (Nat.pow_le_pow_right (by decide) (by omega)))
 have hr3':=hr3.below hb2
 clear hb hb2 h3 k3 hr3
 go_wp2_with fail
 obtain ⟨W,hW⟩ : ∃ W,W = (w3.alloc (Obj.cells #[Value.slice A3 rs.length c3] 137)).alloc (Obj.cells #[Value.slice A4 ts.length c4] 137):=⟨_,rfl⟩
 have hbW : Below w3.heap.size w3 W:=by rw [hW]; exact below_first ((Below.refl _ _).alloc (Nat.le_refl _) _)
 have hbox : W.heap[w3.heap.size]? = some (.cells #[Value.slice A3 rs.length c3] 137 (0,0)):=by
   rw [hW]; exact ck ((Below.refl _ _).alloc (Nat.le_refl _) _)
 have hbox2 : W.heap[w3.heap.size + 1]? = some (.cells #[Value.slice A4 ts.length c4] 137 (0,0)):=by
   rw [hW]; exact new_at (by simp)
 rw [← hW]
 clear hW
 obtain ⟨o,ho⟩ : ∃ o,o = ordI (val rs : Int) (val ts : Int):=⟨_,rfl⟩
 have ho0 : o < 0:=by
   rw [ho,h2,k2]; have:=HLE.out; unfold ordI; rw [if_pos (by omega)]; omega
 have hcp:=gh (c1:=c3) (c2:=c4) (hr3'.below hbW) (hr4.below hbW) h1 k1 (by omega)
 rw [← ho] at hcp
 have HC:=Lib.hid hcp
 clear hcp ho
 refine HC.out.mono ?_
 rintro e w4 ⟨rfl,hd⟩
 have hb4 : Below W.heap.size W w4:=hd.below
 have sW:=hbW.size
 have b4:=(b3.trans (hbW.mono b3.size)).trans (hb4.mono (Nat.le_trans b3.size sW))
 clear hbW hb4 hd HC hbox hbox2 hr3' hr4 b3
 go_wp2
 go_returns
 exact ⟨rfl,b4⟩
end Go.Proofs.YtifgcjpgelbelaaGreatDoor
namespace Go.Proofs
open Go.Shelf
def Tryz.lays169_ren : Go.Shelf.Ren:=⟨fun | 169=>177 | n=>n,fun | 70=>155 | 9=>9 | 0=>0 | 72=>157 | 37=>123 | 127=>173 | 3=>3 | 5=>5 | n=>n,fun | n=>n⟩
theorem Tryz.lays169 : Go.Proofs.Lays.n169 Tryz.prog Tryz.lays169_ren := {
 mixed:=by kernel_rfl
 f169:=Tryz.func177.trans (congrArg some (by kernel_rfl))
 t0:=Tryz.underlying0
 a0:=Tryz.isAgg0
 z0:=Tryz.sizeOf0
 v0:=Tryz.zeroValue0
 t3:=Tryz.underlying3
 a3:=Tryz.isAgg3
 z3:=Tryz.sizeOf3
 v3:=Tryz.zeroValue3
 t9:=Tryz.underlying9
 a9:=Tryz.isAgg9
 z9:=Tryz.sizeOf9
 v9:=Tryz.zeroValue9
 t37:=Tryz.underlying123
 a37:=Tryz.isAgg123
 z37:=Tryz.sizeOf123
 v37:=Tryz.zeroValue123
 t70:=Tryz.underlying155
 a70:=Tryz.isAgg155
 z70:=Tryz.sizeOf155
 v70:=Tryz.zeroValue155
 t72:=Tryz.underlying157
 a72:=Tryz.isAgg157
 z72:=Tryz.sizeOf157
 v72:=Tryz.zeroValue157
 t127:=Tryz.underlying173
 a127:=Tryz.isAgg173
 z127:=Tryz.sizeOf173
 v127:=Tryz.zeroValue173 }
theorem Tryz.Builder_Extra_169 : Builder.Extra Tryz.prog Tryz.lays169_ren := {
 sizeBuilder:=by kernel_rfl
 liesBuilder:=by kernel_rfl
 t5:=Tryz.underlying5
 a5:=Tryz.isAgg5
 z5:=Tryz.sizeOf5
 v5:=Tryz.zeroValue5
 infoByte:=by kernel_rfl
 cellsByte:=by kernel_rfl
 sizeByte:=by kernel_rfl
 neB5:=by decide }
def Tryz.lays134_ren : Go.Shelf.Ren:=⟨fun | 134=>212 | 129=>207 | n=>n,fun | 53=>87 | 3=>3 | 4=>4 | 46=>154 | 5=>5 | 9=>9 | n=>n,fun | n=>n⟩
theorem Tryz.lays134 : Go.Proofs.Lays.n134 Tryz.prog Tryz.lays134_ren := {
 mixed:=by kernel_rfl
 f129:=Tryz.func207.trans (congrArg some (by kernel_rfl))
 f134:=Tryz.func212.trans (congrArg some (by kernel_rfl))
 t3:=Tryz.underlying3
 a3:=Tryz.isAgg3
 z3:=Tryz.sizeOf3
 v3:=Tryz.zeroValue3
 t4:=Tryz.underlying4
 a4:=Tryz.isAgg4
 z4:=Tryz.sizeOf4
 v4:=Tryz.zeroValue4
 t5:=Tryz.underlying5
 a5:=Tryz.isAgg5
 z5:=Tryz.sizeOf5
 v5:=Tryz.zeroValue5
 t9:=Tryz.underlying9
 a9:=Tryz.isAgg9
 z9:=Tryz.sizeOf9
 v9:=Tryz.zeroValue9
 t46:=Tryz.underlying154
 a46:=Tryz.isAgg154
 z46:=Tryz.sizeOf154
 v46:=Tryz.zeroValue154
 t53:=Tryz.underlying87
 a53:=Tryz.isAgg87
 z53:=Tryz.sizeOf87
 v53:=Tryz.zeroValue87 }
theorem Tryz.bits_LeadingZeros64 (x : Int) (w : World) (h0 : 0 ≤ x) (h1 : x ≤ 18446744073709551615) :
   Calls Tryz.prog 212 #[.int .u64 x] w fun e w'=>e = .returned (.int .i64 (64 - (Lib.bitLen x.toNat : Int))) ∧ w' = w:=Any.bits_LeadingZeros64 Tryz.lays134 x w h0 h1
def Tryz.lays103_ren : Go.Shelf.Ren:=⟨fun | 103=>112 | 210=>140 | 206=>156 | n=>n,fun | 9=>9 | 4=>4 | 24=>106 | 3=>3 | n=>n,fun | n=>n⟩
theorem Tryz.lays103 : Go.Proofs.Lays.n103 Tryz.prog Tryz.lays103_ren := {
 mixed:=by kernel_rfl
 f103:=Tryz.func112.trans (congrArg some (by kernel_rfl))
 f206:=Tryz.func156.trans (congrArg some (by kernel_rfl))
 f210:=Tryz.func140.trans (congrArg some (by kernel_rfl))
 t3:=Tryz.underlying3
 a3:=Tryz.isAgg3
 z3:=Tryz.sizeOf3
 v3:=Tryz.zeroValue3
 t4:=Tryz.underlying4
 a4:=Tryz.isAgg4
 z4:=Tryz.sizeOf4
 v4:=Tryz.zeroValue4
 t9:=Tryz.underlying9
 a9:=Tryz.isAgg9
 z9:=Tryz.sizeOf9
 v9:=Tryz.zeroValue9
 t24:=Tryz.underlying106
 a24:=Tryz.isAgg106
 z24:=Tryz.sizeOf106
 v24:=Tryz.zeroValue106 }
open Go.RowKit in
theorem Tryz.strings_CutPrefix (s p : ByteArray) (w : World) :
   Calls Tryz.prog 112 #[.string s,.string p] w fun e w'=>e = .returned (.tuple #[.string ⟨(Lib.trimPrefix s.data.toList p.data.toList).toArray⟩,.bool (Lib.hasPrefix s.data.toList p.data.toList)]) ∧ w' = w:=Any.strings_CutPrefix Tryz.lays103 s p w
open Go.RowKit in
theorem Tryz.Builder_String_any_k (B b : Nat) (l : List UInt8) (w : World) (h : Lib.IsBuilderF 157 5 B b (Lib.byteCells l) w) (hBw : B ≤ w.heap.size) :
   Calls Tryz.prog 177 #[.pointer (some ⟨b,0,none⟩)] w fun e w'=>e = .returned (.string ⟨l.toArray⟩) ∧ (Lib.IsBuilderF 157 5 B b (Lib.byteCells l) w' ∧ Below B w w' ∧ Lib.OthersKept 5 (some b) w w'):=Any.Builder_String_any_k Tryz.lays169 Tryz.Builder_Extra_169 B b l w h hBw
def Tryz.lays283_ren : Go.Shelf.Ren:=⟨fun | 283=>197 | n=>n,fun | 3=>3 | 9=>9 | 4=>4 | n=>n,fun | n=>n⟩
theorem Tryz.lays283 : Go.Proofs.Lays.n283 Tryz.prog Tryz.lays283_ren := {
 mixed:=by kernel_rfl
 f283:=Tryz.func197.trans (congrArg some (by kernel_rfl))
 t3:=Tryz.underlying3
 a3:=Tryz.isAgg3
 z3:=Tryz.sizeOf3
 v3:=Tryz.zeroValue3
 t4:=Tryz.underlying4
 a4:=Tryz.isAgg4
 z4:=Tryz.sizeOf4
 v4:=Tryz.zeroValue4
 t9:=Tryz.underlying9
 a9:=Tryz.isAgg9
 z9:=Tryz.sizeOf9
 v9:=Tryz.zeroValue9 }
open Go.Lib in
theorem Tryz.internal_strconv_small (i : Nat) (h : i < 100) (w : World) :
   Calls Tryz.prog 197 #[.int .i64 i] w fun e w'=>e = .returned (.string ⟨(Lib.decDigits i).toArray⟩) ∧ w' = w:=Any.internal_strconv_small Tryz.lays283 i h w
def Tryz.laysM284_ren : Go.Shelf.Ren:=⟨fun | 284=>198 | 129=>207 | 317=>206 | 318=>208 | n=>n,fun | 53=>87 | 3=>3 | 212=>193 | 0=>0 | 4=>4 | 46=>154 | 5=>5 | 9=>9 | n=>n,fun | 17=>1 | n=>n⟩
theorem Tryz.laysM284 : Go.Proofs.LaysM.n284 Tryz.prog Tryz.laysM284_ren := {
 mixed:=by kernel_rfl
 f129:=Tryz.func207.trans (congrArg some (by kernel_rfl))
 f284:=Tryz.func198.trans (congrArg some (by kernel_rfl))
 f317:=Tryz.func206.trans (congrArg some (by kernel_rfl))
 f318:=Tryz.func208.trans (congrArg some (by kernel_rfl))
 t0:=Tryz.underlying0
 a0:=Tryz.isAgg0
 z0:=Tryz.sizeOf0
 v0:=Tryz.zeroValue0
 t3:=Tryz.underlying3
 a3:=Tryz.isAgg3
 z3:=Tryz.sizeOf3
 v3:=Tryz.zeroValue3
 t4:=Tryz.underlying4
 a4:=Tryz.isAgg4
 z4:=Tryz.sizeOf4
 v4:=Tryz.zeroValue4
 t5:=Tryz.underlying5
 a5:=Tryz.isAgg5
 z5:=Tryz.sizeOf5
 v5:=Tryz.zeroValue5
 t9:=Tryz.underlying9
 a9:=Tryz.isAgg9
 z9:=Tryz.sizeOf9
 v9:=Tryz.zeroValue9
 t46:=Tryz.underlying154
 a46:=Tryz.isAgg154
 z46:=Tryz.sizeOf154
 v46:=Tryz.zeroValue154
 t53:=Tryz.underlying87
 a53:=Tryz.isAgg87
 z53:=Tryz.sizeOf87
 v53:=Tryz.zeroValue87
 t212:=Tryz.underlying193
 a212:=Tryz.isAgg193
 z212:=Tryz.sizeOf193
 v212:=Tryz.zeroValue193
 g17:=by kernel_rfl
 i0:=by kernel_rfl
 i3:=by kernel_rfl
 i4:=by kernel_rfl
 i5:=by kernel_rfl
 i9:=by kernel_rfl
 i46:=by kernel_rfl
 i53:=by kernel_rfl
 i212:=by kernel_rfl
 m17:=by kernel_rfl }
open Go.Lib in
theorem Tryz.internal_strconv_numDigits (u : Nat) (h1 : 1 ≤ u) (h2 : u < 18446744073709551616) (w : World) (htab : Lib.TabIs Tryz.prog w "internal/strconv.uint64pow10" .u64 Lib.pow10Tab) :
   Calls Tryz.prog 198 #[.int .u64 u] w fun e w'=>e = .returned (.int .i64 (Lib.nDigits u)) ∧ w' = w:=Any.internal_strconv_numDigits Tryz.laysM284 u h1 h2 w htab
def Tryz.lays285_ren : Go.Shelf.Ren:=⟨fun | 285=>199 | n=>n,fun | 37=>123 | 53=>87 | 3=>3 | 4=>4 | 51=>88 | 9=>9 | 5=>5 | 0=>0 | n=>n,fun | n=>n⟩
theorem Tryz.lays285 : Go.Proofs.Lays.n285 Tryz.prog Tryz.lays285_ren := {
 mixed:=by kernel_rfl
 f285:=Tryz.func199.trans (congrArg some (by kernel_rfl))
 t0:=Tryz.underlying0
 a0:=Tryz.isAgg0
 z0:=Tryz.sizeOf0
 v0:=Tryz.zeroValue0
 t3:=Tryz.underlying3
 a3:=Tryz.isAgg3
 z3:=Tryz.sizeOf3
 v3:=Tryz.zeroValue3
 t4:=Tryz.underlying4
 a4:=Tryz.isAgg4
 z4:=Tryz.sizeOf4
 v4:=Tryz.zeroValue4
 t5:=Tryz.underlying5
 a5:=Tryz.isAgg5
 z5:=Tryz.sizeOf5
 v5:=Tryz.zeroValue5
 t9:=Tryz.underlying9
 a9:=Tryz.isAgg9
 z9:=Tryz.sizeOf9
 v9:=Tryz.zeroValue9
 t37:=Tryz.underlying123
 a37:=Tryz.isAgg123
 z37:=Tryz.sizeOf123
 v37:=Tryz.zeroValue123
 t51:=Tryz.underlying88
 a51:=Tryz.isAgg88
 z51:=Tryz.sizeOf88
 v51:=Tryz.zeroValue88
 t53:=Tryz.underlying87
 a53:=Tryz.isAgg87
 z53:=Tryz.sizeOf87
 v53:=Tryz.zeroValue87 }
open Go.RowKit Go.Sort Go.Lib in
theorem Tryz.internal_strconv_formatBase10 (blk off cap : Nat) (u : Nat) (d : Array UInt8) (w : World) (hH : Holds (fun (b : UInt8)=>Value.int .u8 (b.toNat : Int)) w blk off d) (hu : u < 10 ^ d.size) (hu64 : u < 18446744073709551616) (hsz : d.size < 4611686018427387904) :
   Calls Tryz.prog 199 #[.slice (some ⟨blk,off,none⟩) d.size cap,.int .u64 u] w fun e w' =>
     e = .returned (.tuple #[]) ∧ ∃ (n v' : Nat) (dk : Array UInt8),w' = (putRow (fun (b : UInt8)=>Value.int .u8 (b.toNat : Int)) w blk off dk).drewN n ∧ FmtInv d.size u 0 v' dk:=Any.internal_strconv_formatBase10 Tryz.lays285 blk off cap u d w hH hu hu64 hsz
def Tryz.lays145_ren : Go.Shelf.Ren:=⟨fun | 145=>118 | 220=>144 | 219=>159 | 217=>169 | 225=>170 | 224=>171 | 267=>172 | 266=>182 | 314=>183 | n=>n,fun | 9=>9 | 4=>4 | 59=>114 | 3=>3 | 5=>5 | 46=>154 | 146=>167 | 51=>88 | n=>n,fun | 1=>0 | n=>n⟩
theorem Tryz.lays145 : Go.Proofs.Lays.n145 Tryz.prog Tryz.lays145_ren := {
 mixed:=by kernel_rfl
 f145:=Tryz.func118.trans (congrArg some (by kernel_rfl))
 f217:=Tryz.func169.trans (congrArg some (by kernel_rfl))
 f219:=Tryz.func159.trans (congrArg some (by kernel_rfl))
 f220:=Tryz.func144.trans (congrArg some (by kernel_rfl))
 f224:=Tryz.func171.trans (congrArg some (by kernel_rfl))
 f225:=Tryz.func170.trans (congrArg some (by kernel_rfl))
 f266:=Tryz.func182.trans (congrArg some (by kernel_rfl))
 f267:=Tryz.func172.trans (congrArg some (by kernel_rfl))
 f314:=Tryz.func183.trans (congrArg some (by kernel_rfl))
 t3:=Tryz.underlying3
 a3:=Tryz.isAgg3
 z3:=Tryz.sizeOf3
 v3:=Tryz.zeroValue3
 t4:=Tryz.underlying4
 a4:=Tryz.isAgg4
 z4:=Tryz.sizeOf4
 v4:=Tryz.zeroValue4
 t5:=Tryz.underlying5
 a5:=Tryz.isAgg5
 z5:=Tryz.sizeOf5
 v5:=Tryz.zeroValue5
 t9:=Tryz.underlying9
 a9:=Tryz.isAgg9
 z9:=Tryz.sizeOf9
 v9:=Tryz.zeroValue9
 t46:=Tryz.underlying154
 a46:=Tryz.isAgg154
 z46:=Tryz.sizeOf154
 v46:=Tryz.zeroValue154
 t51:=Tryz.underlying88
 a51:=Tryz.isAgg88
 z51:=Tryz.sizeOf88
 v51:=Tryz.zeroValue88
 t59:=Tryz.underlying114
 a59:=Tryz.isAgg114
 z59:=Tryz.sizeOf114
 v59:=Tryz.zeroValue114
 t146:=Tryz.underlying167
 a146:=Tryz.isAgg167
 z146:=Tryz.sizeOf167
 v146:=Tryz.zeroValue167
 g1:=by kernel_rfl }
open Go.RowKit Go.Lib in
theorem Tryz.strings_Cut (s sep : ByteArray) (m : Int) (w : World) (hs : s.size < 4294967281) (hm : w.cell? ⟨0,0,none⟩ = some (.int .i64 m)) :
   Calls Tryz.prog 118 #[.string s,.string sep] w fun e w'=>e = .returned (.tuple #[.string ⟨(Lib.cut s.data.toList sep.data.toList).1.toArray⟩,.string ⟨(Lib.cut s.data.toList sep.data.toList).2.1.toArray⟩,.bool (Lib.cut s.data.toList sep.data.toList).2.2]) ∧ ∃ n,w' = w.drewN n:=Any.strings_Cut Tryz.lays145 s sep m w hs hm
def Tryz.lays264_ren : Go.Shelf.Ren:=⟨fun | 264=>202 | n=>n,fun | 53=>87 | 46=>154 | n=>n,fun | n=>n⟩
theorem Tryz.lays264 : Go.Proofs.Lays.n264 Tryz.prog Tryz.lays264_ren := {
 mixed:=by kernel_rfl
 f264:=Tryz.func202.trans (congrArg some (by kernel_rfl))
 t46:=Tryz.underlying154
 a46:=Tryz.isAgg154
 z46:=Tryz.sizeOf154
 v46:=Tryz.zeroValue154
 t53:=Tryz.underlying87
 a53:=Tryz.isAgg87
 z53:=Tryz.sizeOf87
 v53:=Tryz.zeroValue87 }
open Go.RowKit Go.Lib in
theorem Tryz.bits_Mul64 (x y : Nat) (hx : x < 18446744073709551616) (hy : y < 18446744073709551616) (w : World) :
   Calls Tryz.prog 202 #[.int .u64 x,.int .u64 y] w fun e w'=>e = .returned (.tuple #[.int .u64 ((x * y / 18446744073709551616 : Nat) : Int),.int .u64 ((x * y % 18446744073709551616 : Nat) : Int)]) ∧ w' = w:=Any.bits_Mul64 Tryz.lays264 x y hx hy w
def Tryz.lays105_ren : Go.Shelf.Ren:=⟨fun | 105=>176 | 212=>186 | 99=>187 | 165=>188 | 166=>173 | 170=>189 | 169=>177 | 263=>201 | 264=>202 | 206=>156 | 240=>184 | 241=>203 | 276=>196 | 277=>211 | n=>n,fun | 9=>9 | 3=>3 | 4=>4 | 20=>20 | 0=>0 | 46=>154 | 109=>169 | 5=>5 | 72=>157 | 76=>160 | 51=>88 | 146=>167 | 53=>87 | 148=>189 | 70=>155 | 37=>123 | 75=>159 | 127=>173 | 164=>180 | 80=>81 | n=>n,fun | n=>n⟩
theorem Tryz.lays105 : Go.Proofs.Lays.n105 Tryz.prog Tryz.lays105_ren := {
 mixed:=by kernel_rfl
 f99:=Tryz.func187.trans (congrArg some (by kernel_rfl))
 f105:=Tryz.func176.trans (congrArg some (by kernel_rfl))
 f165:=Tryz.func188.trans (congrArg some (by kernel_rfl))
 f166:=Tryz.func173.trans (congrArg some (by kernel_rfl))
 f169:=Tryz.func177.trans (congrArg some (by kernel_rfl))
 f170:=Tryz.func189.trans (congrArg some (by kernel_rfl))
 f206:=Tryz.func156.trans (congrArg some (by kernel_rfl))
 f212:=Tryz.func186.trans (congrArg some (by kernel_rfl))
 f240:=Tryz.func184.trans (congrArg some (by kernel_rfl))
 f241:=Tryz.func203.trans (congrArg some (by kernel_rfl))
 f263:=Tryz.func201.trans (congrArg some (by kernel_rfl))
 f264:=Tryz.func202.trans (congrArg some (by kernel_rfl))
 f276:=Tryz.func196.trans (congrArg some (by kernel_rfl))
 f277:=Tryz.func211.trans (congrArg some (by kernel_rfl))
 t0:=Tryz.underlying0
 a0:=Tryz.isAgg0
 z0:=Tryz.sizeOf0
 v0:=Tryz.zeroValue0
 t3:=Tryz.underlying3
 a3:=Tryz.isAgg3
 z3:=Tryz.sizeOf3
 v3:=Tryz.zeroValue3
 t4:=Tryz.underlying4
 a4:=Tryz.isAgg4
 z4:=Tryz.sizeOf4
 v4:=Tryz.zeroValue4
 t5:=Tryz.underlying5
 a5:=Tryz.isAgg5
 z5:=Tryz.sizeOf5
 v5:=Tryz.zeroValue5
 t9:=Tryz.underlying9
 a9:=Tryz.isAgg9
 z9:=Tryz.sizeOf9
 v9:=Tryz.zeroValue9
 t20:=Tryz.underlying20
 a20:=Tryz.isAgg20
 z20:=Tryz.sizeOf20
 v20:=Tryz.zeroValue20
 t37:=Tryz.underlying123
 a37:=Tryz.isAgg123
 z37:=Tryz.sizeOf123
 v37:=Tryz.zeroValue123
 t46:=Tryz.underlying154
 a46:=Tryz.isAgg154
 z46:=Tryz.sizeOf154
 v46:=Tryz.zeroValue154
 t51:=Tryz.underlying88
 a51:=Tryz.isAgg88
 z51:=Tryz.sizeOf88
 v51:=Tryz.zeroValue88
 t53:=Tryz.underlying87
 a53:=Tryz.isAgg87
 z53:=Tryz.sizeOf87
 v53:=Tryz.zeroValue87
 t70:=Tryz.underlying155
 a70:=Tryz.isAgg155
 z70:=Tryz.sizeOf155
 v70:=Tryz.zeroValue155
 t72:=Tryz.underlying157
 a72:=Tryz.isAgg157
 z72:=Tryz.sizeOf157
 v72:=Tryz.zeroValue157
 t75:=Tryz.underlying159
 a75:=Tryz.isAgg159
 z75:=Tryz.sizeOf159
 v75:=Tryz.zeroValue159
 t76:=Tryz.underlying160
 a76:=Tryz.isAgg160
 z76:=Tryz.sizeOf160
 v76:=Tryz.zeroValue160
 t109:=Tryz.underlying169
 a109:=Tryz.isAgg169
 z109:=Tryz.sizeOf169
 v109:=Tryz.zeroValue169
 t127:=Tryz.underlying173
 a127:=Tryz.isAgg173
 z127:=Tryz.sizeOf173
 v127:=Tryz.zeroValue173
 t146:=Tryz.underlying167
 a146:=Tryz.isAgg167
 z146:=Tryz.sizeOf167
 v146:=Tryz.zeroValue167
 t148:=Tryz.underlying189
 a148:=Tryz.isAgg189
 z148:=Tryz.sizeOf189
 v148:=Tryz.zeroValue189
 t164:=Tryz.underlying180
 a164:=Tryz.isAgg180
 z164:=Tryz.sizeOf180
 v164:=Tryz.zeroValue180 }
theorem Tryz.Builder_Extra_105 : Builder.Extra Tryz.prog Tryz.lays105_ren := {
 sizeBuilder:=by kernel_rfl
 liesBuilder:=by kernel_rfl
 t5:=Tryz.underlying5
 a5:=Tryz.isAgg5
 z5:=Tryz.sizeOf5
 v5:=Tryz.zeroValue5
 infoByte:=by kernel_rfl
 cellsByte:=by kernel_rfl
 sizeByte:=by kernel_rfl
 neB5:=by decide }
open Go.RowKit Go.Lib in
theorem Tryz.strings_Repeat (s : ByteArray) (c : Nat) (w : World) (hc : c ≤ 9223372036854775807) (hlen : s.size * c ≤ 140737488355328) :
   Calls Tryz.prog 176 #[.string s,.int .i64 c] w fun e w'=>e = .returned (.string ⟨(Lib.repeatL s.data.toList c).toArray⟩) ∧ Below w.heap.size w w':=Any.strings_Repeat Tryz.lays105 Tryz.Builder_Extra_105 s c w hc hlen
end Go.Proofs
namespace Go.Proofs.YtifgcjpgelbelaaGreatDoor
open Go.RowKit Go.Lib Go.Sort
def Tab (w : World) : Prop:=Lib.TabIs Tryz.prog w "internal/strconv.uint64pow10" .u64 Lib.pow10Tab
theorem Tab.below {w w' : World} {B : Nat} (h : Tab w) (hb : Below B w w') (hB : 2 ≤ B) : Tab w' :=
 Go.var?_below hb (g:=1) (by kernel_rfl) (by omega) h
theorem holds0 (w : World) (T : TypeId) (nd : Nat) (hs : nd ≤ 24) : Holds (fun (b : UInt8)=>Value.int .u8 (b.toNat : Int)) (w.alloc (.cells zeros24 T)) w.heap.size 0 (Array.replicate nd (0 : UInt8)):=fun j hj=>by
 have hj' : j < nd:=by simpa using hj
 refine ⟨?_,World.frozen?_alloc_new _ _ _ _⟩
 rw [World.cell?_alloc_new,zeros24_at _ (by omega),getElem!_pos _ j hj]
 simp
theorem below0 (w : World) (o : Obj) (dk : Array UInt8) (k : Nat) : Below w.heap.size w ((putRow (fun (b : UInt8)=>Value.int .u8 (b.toNat : Int)) (w.alloc o) w.heap.size 0 dk).drewN k):=by
 rw [alloc_eq_grow]
 obtain ⟨os',_,e⟩:=putRow_grow_new (fun (b : UInt8)=>Value.int .u8 (b.toNat : Int)) w #[o] w.heap.size 0 dk (Nat.le_refl _)
 rw [e]
 exact Lib.below_grow w.heap.size w (Nat.le_refl _) k os'
theorem formatUint0 (u : Nat) (hu64 : u < 18446744073709551616) (w : World) (htab : Tab w) :
   Calls Tryz.prog 185 #[.int .u64 u,.int .i64 10] w fun e w'=>e = .returned (.string ⟨(Lib.decDigits u).toArray⟩) ∧ Below w.heap.size w w':=by
 by_cases hs : u < 100
 · go_enter Tryz.func185,Tryz.ntmps185
   go_wp2_with (go_at_call 197; refine (Tryz.internal_strconv_small u hs _).mono ?_; rintro e w' ⟨rfl,hw⟩)
   go_ret
   exact ⟨rfl,hw ▸ Below.refl _ _⟩
 · have hu1 : 1 ≤ u:=by omega
   have hnd20 : Lib.nDigits u ≤ 20:=by have:=Lib.numDigits_eq u hu1 hu64; split at this <;> omega
   have hb3 : Lib.nDigits u ≤ 24:=by omega
   have hal : Tryz.prog.arrayLen 183 = 24:=by kernel_rfl
   have hsl1 : ∀ W,(Instr.sliceAt 183 (.pointer (some ⟨w.heap.size,0,none⟩)) none (some (.int .i64 (Lib.nDigits u : Int))) none).run Tryz.prog W = .ok (.slice (some ⟨w.heap.size,0,none⟩) (Lib.nDigits u) 24) W:=fun W=>by
     rw [run_sliceAt_array_h W 183 ⟨w.heap.size,0,none⟩ (by kernel_rfl) .i64 (Lib.nDigits u : Int) (by omega) (by rw [hal]; omega)]
     go_simp
   have hH0:=holds0 w 183 (Lib.nDigits u) (by omega); have hfmt:=Tryz.internal_strconv_formatBase10 w.heap.size 0 24 u (Array.replicate (Lib.nDigits u) 0) (w.alloc (.cells Lib.zeros24 183)) hH0 (by rw [Array.size_replicate]; exact Lib.lt_pow_nDigits u) hu64 (by rw [Array.size_replicate]; omega); rw [Array.size_replicate] at hfmt; have HH0:=Lib.hid hH0; have HT:=Lib.hid htab; have HF:=Lib.hid hfmt; clear hH0 hal htab hfmt
   go_enter Tryz.func185,Tryz.ntmps185
   go_wp2_with (first
     | (go_at_call 198; refine (Tryz.internal_strconv_numDigits u hu1 hu64 _ (Lib.tabIs_alloc HT.out _)).mono ?_; rintro e w' ⟨rfl,rfl⟩))
   go_at_call 199
   refine HF.out.mono ?_; rintro e w' ⟨rfl,k,v',dk,rfl,hF⟩
   have hcv : (convert 123 9 (.slice (some ⟨w.heap.size,0,none⟩) (Lib.nDigits u) 24)).run Tryz.prog ((putRow (fun (b : UInt8)=>Value.int .u8 (b.toNat : Int)) (w.alloc (.cells Lib.zeros24 183)) w.heap.size 0 dk).drewN k) = .ok (.string ⟨(Lib.decDigits u).toArray⟩) ((putRow (fun (b : UInt8)=>Value.int .u8 (b.toNat : Int)) (w.alloc (.cells Lib.zeros24 183)) w.heap.size 0 dk).drewN k):=by
     have h:=run_convert_bytes_back (P:=Tryz.prog) ((putRow (fun (b : UInt8)=>Value.int .u8 (b.toNat : Int)) (w.alloc (.cells Lib.zeros24 183)) w.heap.size 0 dk).drewN k) 123 9 5 ⟨w.heap.size,0,none⟩ 24 (Lib.decDigits u) Tryz.underlying123 Tryz.underlying5 Tryz.underlying9 (fun j hj=>by
       rw [Lib.row_is_numeral hF j hj,Lib.add_plain,World.cell?_drewN]
       exact cell?_putRow (fun (b : UInt8)=>Value.int .u8 (b.toNat : Int)) _ w.heap.size 0 _ dk HH0.out (by rw [hF.size,Array.size_replicate]) j (by rw [hF.size]; rw [Lib.decDigits_length] at hj; exact hj))
     rw [Lib.decDigits_length] at h; exact h
   go_wp2
   go_ret
   exact ⟨rfl,below0 w _ dk k⟩
end Go.Proofs.YtifgcjpgelbelaaGreatDoor
namespace Go.Proofs.YtifgcjpgelbelaaGreatDoor
open Go.Lib
def pad : Nat → Nat → List UInt8
 | 0,_=>[]
 | k + 1,v=>pad k (v / 10) ++ [UInt8.ofNat (48 + v % 10)]
theorem bn {u : Nat} (h : u < 10) : decDigits u = [UInt8.ofNat (48 + u)]:=by rw [decDigits,dif_pos h]
theorem da {u : Nat} (h : ¬ u < 10) : decDigits u = decDigits (u / 10) ++ [UInt8.ofNat (48 + u % 10)]:=by rw [decDigits,dif_neg h]
theorem decDigits_pad (k : Nat) : ∀ u v : Nat,0 < u → v < 10 ^ k → decDigits (u * 10 ^ k + v) = decDigits u ++ pad k v:=by
 induction k with
 | zero =>
   intro u v hu hv; have : v = 0:=by simpa using hv
   subst this; simp [pad]
 | succ k ih =>
   intro u v hu hv; have hp : 0 < 10 ^ k:=Nat.pow_pos (by decide); have h1 : u * 10 ^ (k + 1) = 10 * (u * 10 ^ k):=by rw [Nat.pow_succ,Nat.mul_comm 10,Nat.mul_assoc]
   have h2 : 1 ≤ u * 10 ^ k:=Nat.mul_pos hu hp; rw [h1]
   have h3 : v / 10 < 10 ^ k:=by
     rw [Nat.pow_succ] at hv; omega
   rw [da (by omega)]; have e1 : (10 * (u * 10 ^ k) + v) / 10 = u * 10 ^ k + v / 10:=by omega
   have e2 : (10 * (u * 10 ^ k) + v) % 10 = v % 10:=by omega
   rw [e1,e2,ih u (v / 10) hu h3,List.append_assoc]; rfl
theorem pad_zero (k : Nat) : pad k 0 = List.replicate k 48:=by
 induction k with
 | zero=>rfl
 | succ k ih=>rw [pad,Nat.zero_div,ih,List.replicate_succ']; rfl
theorem pad_eq (k : Nat) : ∀ v : Nat,v < 10 ^ (k + 1) → pad (k + 1) v = List.replicate (k + 1 - nDigits v) 48 ++ decDigits v:=by
 induction k with
 | zero =>
   intro v hv; have hv' : v < 10:=by simpa using hv
   rw [pad,nDigits_small hv',bn hv',Nat.mod_eq_of_lt hv']; rfl
 | succ k ih =>
   intro v hv; rcases Nat.lt_or_ge v 10 with h | h
   · rw [pad,Nat.div_eq_of_lt h,pad_zero,nDigits_small h,bn h,Nat.mod_eq_of_lt h]; rfl
   · have h1 : v / 10 < 10 ^ (k + 1):=Nat.div_lt_of_lt_mul (by rw [Nat.mul_comm,← Nat.pow_succ]; exact hv); have h2 : nDigits v = nDigits (v / 10) + 1:=nDigits_big (by omega); have h3 : decDigits v = decDigits (v / 10) ++ [UInt8.ofNat (48 + v % 10)]:=da (by omega); have h4 : pad (k + 1 + 1) v = pad (k + 1) (v / 10) ++ [UInt8.ofNat (48 + v % 10)]:=rfl; rw [h4,ih (v / 10) h1,h2,h3,List.append_assoc,show k + 1 + 1 - (nDigits (v / 10) + 1) = k + 1 - nDigits (v / 10) from by omega]
theorem nDigits_le (k : Nat) : ∀ v : Nat,v < 10 ^ (k + 1) → nDigits v ≤ k + 1:=by
 induction k with
 | zero =>
   intro v hv; rw [nDigits_small (by simpa using hv)]; exact Nat.le_refl _
 | succ k ih =>
   intro v hv; rcases Nat.lt_or_ge v 10 with h | h
   · rw [nDigits_small h]; omega
   · have h1 : v / 10 < 10 ^ (k + 1):=Nat.div_lt_of_lt_mul (by rw [Nat.mul_comm,← Nat.pow_succ]; exact hv); rw [nDigits_big (by omega)]; have:=ih _ h1; omega
theorem nDigits_le9 {v : Nat} (h : v < 1000000000) : nDigits v ≤ 9:=nDigits_le 8 v h
theorem repeat48 (k : Nat) : repeatL [48] k = List.replicate k 48:=by
 induction k with
 | zero=>rfl
 | succ k ih=>rw [repeatL,ih]; rfl
theorem decDigits_base {u v : Nat} (hu : 0 < u) (hv : v < 1000000000) : decDigits (v + 1000000000 * u) = decDigits u ++ (repeatL [48] (9 - nDigits v) ++ decDigits v):=by
 have h:=decDigits_pad 9 u v hu hv
 rw [show u * 10 ^ 9 + v = v + 1000000000 * u from by omega] at h
 rw [h,repeat48,pad_eq 8 v hv]
end Go.Proofs.YtifgcjpgelbelaaGreatDoor
namespace Go.Proofs.YtifgcjpgelbelaaGreatDoor
open Go.RowKit Go.Lib
theorem formatUint (u : Nat) (hu64 : u < 18446744073709551616) (w : World) (htab : Tab w) :
   Calls Tryz.prog 174 #[.int .u64 u,.int .i64 10] w fun e w'=>e = .returned (.string ⟨(Lib.decDigits u).toArray⟩) ∧ Below w.heap.size w w':=by
 go_enter Tryz.func174,Tryz.ntmps174
 go_wp2_with (go_at_call 185; refine (formatUint0 u hu64 _ htab).mono ?_; rintro e w' ⟨rfl,hb⟩)
 go_ret
 exact ⟨rfl,hb⟩
def Bld (b : Nat) (l : List UInt8) (w : World) : Prop:=Lib.IsBuilderF 157 5 b b (Lib.byteCells l) w
theorem Bld.below {b : Nat} {l : List UInt8} {w w' : World} (h : Bld b l w) (hb : Below w.heap.size w w') : Bld b l w':=by
 have key : ∀ p,Lib.BuilderAtF 157 5 b b p (Lib.byteCells l) w → Lib.BuilderAtF 157 5 b b p (Lib.byteCells l) w':=by
   intro p hp; obtain ⟨h1,v,h2,⟨h3,h4⟩,h5⟩:=hp; refine ⟨h1,v,(hb.block b (lt_block h2)).trans h2,⟨h3,?_⟩,h5⟩; rcases h4 with h4 | ⟨g,cap,cur,fz,e,hB,hg,r⟩
   · exact .inl h4
   · exact .inr ⟨g,cap,cur,fz,e,hB,(hb.block g (lt_block hg)).trans hg,r⟩
 rcases h with h | h
 · exact .inl (key _ h)
 · exact .inr (key _ h)
theorem writeString (b : Nat) (l m : List UInt8) (w : World) (h : Bld b l w) (hlen : l.length + m.length ≤ 140737488355328) (hb : b < w.heap.size) :
   Calls Tryz.prog 173 #[.pointer (some ⟨b,0,none⟩),.string ⟨m.toArray⟩] w fun e w'=>e = .returned (.tuple #[.int .i64 (m.length : Int),.nilIface]) ∧ Bld b (l ++ m) w' ∧ Below b w w':=by
 have:=Any.Builder_WriteString_k (P:=Tryz.prog) (ρ:=Tryz.lays105_ren) { Tryz.lays105 with } Tryz.Builder_Extra_105 b b (Lib.byteCells l) ⟨m.toArray⟩ w h (by rw [Lib.byteCells_length]; exact hlen) (by omega)
 refine this.mono fun e w' hh=>⟨hh.1,?_,hh.2.2.1⟩
 have h2:=hh.2.1
 rw [Lib.strCells_toArray,← Lib.byteCells_append] at h2
 exact .inr h2
theorem val_drop_pos {ds : List Nat} (h : right ds) {k : Nat} (hk : k < ds.length) : 0 < val (ds.drop k):=by
 induction ds generalizing k with
 | nil=>simp at hk
 | cons d ds ih =>
   cases k with
   | zero =>
     have:=fq h (by simp); have h2 : 0 < 1000000000 ^ ((d :: ds).length - 1):=Nat.pow_pos (by omega); simp only [List.drop_zero]; omega
   | succ k=>exact ih (right_tail h) (by simpa using hk)
theorem decDigits_len {n k : Nat} (h : n < 1000000000 ^ k) (hk : 0 < k) : (decDigits n).length ≤ 9 * k:=by
 rw [Lib.decDigits_length]
 have : nDigits n ≤ (9 * k - 1) + 1:=nDigits_le _ _ (by
   rw [show 9 * k - 1 + 1 = 9 * k from by omega,Nat.pow_mul]; exact h)
 omega
theorem decimal_any {w : World} {A : Option Addr} {c : Nat} {xs : List Nat} (hr : Row w A (u32s xs)) (hx : right xs) (hlen : xs.length ≤ 100000) (htab : Tab w) (hw : 2 ≤ w.heap.size) :
   Calls Tryz.prog 161 #[.slice A xs.length c] w fun e w'=>e = .returned (.string ⟨(decDigits (val xs)).toArray⟩) ∧ Below w.heap.size w w':=by
 have HT:=Lib.hid htab
 clear htab
 rcases Nat.eq_zero_or_pos xs.length with h0 | hpos
 · obtain rfl : xs = []:=List.eq_nil_of_length_eq_zero h0
   go_enter Tryz.func161,Tryz.ntmps161
   go_wp2_with (go_at_call 167; refine (none_any _ _ _ _).mono ?_; rintro e w' ⟨rfl,rfl⟩)
   go_ret
   exact ⟨by rw [bn (by decide)]; rfl,Below.refl _ _⟩
 · have hne : ((xs.length : Int) == 0) = false:=by rw [beq_eq_false_iff_ne]; omega
   have hx':=small_mono hx.1 (show 1000000000 ≤ 4294967296 by decide)
   have q1 : ∀ (p : Nat) (W : World),Below w.heap.size w W → Calls Tryz.prog 175 #[.slice A xs.length c,.int .i64 p] W (fun e w'=>e = .returned (.int .u64 ((xs.getD p 0 : Nat) : Int)) ∧ W = w'):=fun p W hW=>by
     have:=at_any (c:=c) (hr.below hW) hx' p (by omega); rw [Int.toNat_natCast] at this; exact this
   have Q1:=Lib.hid q1; clear q1
   obtain ⟨x0,hx0⟩ : ∃ x,x = xs.getD (xs.length - 1) 0:=⟨_,rfl⟩
   have hb0 : x0 < 1000000000:=by rw [hx0]; exact bh hx.1 (by decide) _
   have HX0:=Lib.hid hx0; clear hx0
   go_enter Tryz.func161,Tryz.ntmps161
   go_wp2_with (go_at_call 167; refine (none_any _ _ _ _).mono ?_; rintro e w' ⟨rfl,rfl⟩)
   have bA : Below w.heap.size w (w.alloc (Obj.cells #[Value.pointer none,Value.slice none 0 0] 157)):=(Below.refl _ _).alloc (Nat.le_refl _) _; have hB0 : Bld w.heap.size [] (w.alloc (Obj.cells #[Value.pointer none,Value.slice none 0 0] 157)):=Lib.IsBuilderF.of (Lib.fresh_isBuilder 157 5 w); have hS0 : w.heap.size < (w.alloc (Obj.cells #[Value.pointer none,Value.slice none 0 0] 157)).heap.size:=by simp
   rw [show ((xs.length : Int) - 1) = ((xs.length - 1 : Nat) : Int) from by omega]
   generalize w.alloc (Obj.cells #[Value.pointer none,Value.slice none 0 0] 157) = w1 at *
   refine (Q1.out _ _ bA).mono ?_; rintro e w' ⟨rfl,rfl⟩; rw [← HX0.out]
   go_wp2_with fail
   refine (formatUint x0 (by omega) w1 (HT.out.below bA hw)).mono ?_; rintro e w2 ⟨rfl,hb2⟩; have hB2:=hB0.below hb2; have hS2:=hb2.size; have bA2 : Below w.heap.size w w2:=bA.trans (hb2.mono (by omega)); clear hB0 hb2 bA; have hl0 : (decDigits x0).length ≤ 9:=by rw [Lib.decDigits_length]; exact nDigits_le9 hb0
   go_wp2_with fail
   refine (writeString w.heap.size [] (decDigits x0) w2 hB2 (by simp; omega) (by omega)).mono ?_; rintro e w3 ⟨rfl,hB3,hb3⟩; have hS3:=hb3.size; have bA3 : Below w.heap.size w w3:=bA2.trans hb3; clear hB2 bA2 hb3
   have hend : decDigits x0 = decDigits (val (xs.drop (xs.length - 1))):=by
     rw [dn xs _ (by omega),List.drop_of_length_le (by omega),HX0.out]; simp [val]
   have HE:=Lib.hid hend; clear hend
   have hpw : ∀ k,(decDigits (val (xs.drop k))).length ≤ 900000:=fun k=>by
     refine Nat.le_trans (decDigits_len (k:=xs.length) (Nat.lt_of_lt_of_le (val_lt (small_drop hx.1 k)) (Nat.pow_le_pow_right (by omega) (by simp))) hpos) (by omega)
   have HP:=Lib.hid hpw; clear hpw
   go_wp2_with fail
   go_loopw [5] (fun i wr => ∃ (k : Nat) (l : List UInt8), k ≤ xs.length - 1 ∧ i = .int .i64 ((k : Int) - 1) ∧ Hid (l = decDigits (val (xs.drop k))) ∧ Bld w.heap.size l wr ∧ Below w.heap.size w wr ∧ w.heap.size < wr.heap.size)
     (fun i _=>(RowKit.intOf i + 1).toNat)
   case atStart=>exact ⟨xs.length - 1,decDigits x0,Nat.le_refl _,rfl,HE,hB3,bA3,by omega⟩
   case round =>
     obtain ⟨k,l,hk,rfl,HL,hBr,hbr,hsr⟩:=hrel; rcases Nat.eq_zero_or_pos k with rfl | hkp
     · go_wp2_with fail
       refine (Tryz.Builder_String_any_k w.heap.size w.heap.size l wr hBr (by omega)).mono ?_; rintro e w4 ⟨rfl,_,hb4,_⟩
       go_wp2
       go_ret
       exact ⟨by rw [HL.out]; rfl,hbr.trans hb4⟩
     · obtain ⟨p,rfl⟩ : ∃ p,k = p + 1:=⟨k - 1,by omega⟩
       rw [show ((p + 1 : Nat) : Int) - 1 = (p : Int) from by omega]
       obtain ⟨x,hxe⟩ : ∃ x,x = xs.getD p 0:=⟨_,rfl⟩
       have hxb : x < 1000000000:=by rw [hxe]; exact bh hx.1 (by decide) _
       have HXE:=Lib.hid hxe; clear hxe; have hl1 : (decDigits x).length ≤ 9:=by rw [Lib.decDigits_length]; exact nDigits_le9 hxb
       obtain ⟨dx,hdx⟩ : ∃ d,d = decDigits x:=⟨_,rfl⟩
       rw [← hdx] at hl1; have HDX:=Lib.hid hdx; clear hdx; have hll : l.length ≤ 900000:=by rw [HL.out]; exact HP.out _
       go_wp2_with fail
       refine (Q1.out _ _ hbr).mono ?_; rintro e w' ⟨rfl,rfl⟩; rw [← HXE.out]
       go_wp2_with fail
       refine (formatUint x (by omega) wr (HT.out.below hbr hw)).mono ?_; rintro e w4 ⟨rfl,hb4⟩; rw [← HDX.out]; have hB4:=hBr.below hb4; have hS4:=hb4.size; have bA4 : Below w.heap.size w w4:=hbr.trans (hb4.mono (by omega)); clear hb4 hBr hbr
       go_wp2_with fail
       rw [show (9 : Int) - (dx.length : Int) = ((9 - dx.length : Nat) : Int) from by omega]; refine (Tryz.strings_Repeat ⟨#[48]⟩ (9 - dx.length) w4 (by omega) (show 1 * (9 - dx.length) ≤ _ by omega)).mono ?_; rintro e w5 ⟨rfl,hb5⟩; have hB5:=hB4.below hb5; have hS5:=hb5.size; have bA5 : Below w.heap.size w w5:=bA4.trans (hb5.mono (by omega)); clear hb5 hB4 bA4
       go_wp2_with fail
       refine (writeString w.heap.size l (repeatL [48] (9 - dx.length)) w5 hB5 (by rw [repeatL_length]; simp; omega) (by omega)).mono ?_; rintro e w6 ⟨rfl,hB6,hb6⟩; have hS6:=hb6.size; have bA6 : Below w.heap.size w w6:=bA5.trans hb6; clear hb6 hB5 bA5
       go_wp2_with fail
       refine (writeString w.heap.size _ dx w6 hB6 (by rw [List.length_append,repeatL_length]; simp; omega) (by omega)).mono ?_; rintro e w7 ⟨rfl,hB7,hb7⟩; have hS7:=hb7.size; have bA7 : Below w.heap.size w w7:=bA6.trans hb7; clear hb7 hB6 bA6
       go_wp2
       go_roundw
       case rel=>exact ⟨p,_,by omega,by go_num,by
         show _ = _
         rw [HL.out,dn xs p (by omega),← HXE.out,decDigits_base (val_drop_pos hx (by omega)) hxb,HDX.out,Lib.decDigits_length,List.append_assoc],hB7,bA7,by omega⟩
       case measure=>first | (simp [RowKit.intOf]; done) | (simp [RowKit.intOf]; omega)
theorem text_any {w : World} {A : Option Addr} {c : Nat} {ds : List Nat} (hr : Row w A (u32s ds)) (hd : small 4294967296 ds) (hlen : ds.length ≤ 10000) (htab : Tab w) (hw : 2 ≤ w.heap.size) :
   Calls Tryz.prog 148 #[.slice A ds.length c] w fun e w'=>e = .returned (.string ⟨(decDigits (val ds)).toArray⟩) ∧ Below w.heap.size w w':=by
 have HT:=Lib.hid htab
 clear htab
 have hfield:=fl
 go_enter Tryz.func148,Tryz.ntmps148
 go_wp2_with fail
 refine (of_any hr hd (by omega)).mono ?_
 rintro e w2 ⟨v2,rfl,⟨ys,hy,hyv,hyo⟩,hb2⟩
 obtain ⟨A2,c2,rfl,hry,_⟩:=hyo.slice32
 have hyl : ys.length ≤ 100000:=Nat.le_trans (right_length_le hy (by rw [hyv]; exact val_lt32 hd)) (by omega)
 have hs2:=hb2.size
 go_wp2_with fail
 refine (decimal_any hry hy hyl (HT.out.below hb2 hw) (by omega)).mono ?_
 rintro e w3 ⟨rfl,hb3⟩
 go_wp2
 go_ret
 exact ⟨rfl,hb2.trans (hb3.mono hs2)⟩
end Go.Proofs.YtifgcjpgelbelaaGreatDoor
namespace Go.Proofs.YtifgcjpgelbelaaGreatDoor
open Go.RowKit
theorem same_yes0 {w : World} {A1 A2 : Option Addr} {c1 c2 : Nat} {xs : List Nat} (hr1 : Row w A1 (u32s xs)) (hr2 : Row w A2 (u32s xs)) (hlen : xs.length ≤ 1000000) :
   Calls Tryz.prog 85 #[.slice A1 xs.length c1,.slice A2 xs.length c2] w fun e w'=>e = .returned (.bool true) ∧ Drawn w w':=by
 go_enter Tryz.func85,Tryz.ntmps85
 go_wp2
 go_loopw [5] (fun i wr=>∃ k : Nat,k ≤ xs.length ∧ i = .int .i64 k ∧ Hid (Drawn w wr)) (fun i _=>xs.length - (intOf i).toNat)
 case atStart=>exact ⟨0,Nat.zero_le _,rfl,Drawn.refl _⟩
 case round =>
   obtain ⟨k,hk,rfl,HW⟩:=hrel
   by_cases hlt : k < xs.length
   · obtain ⟨ad1,x,rfl,hc1,hx1,_⟩:=(hr1.drawn HW.out).dig hlt; obtain ⟨ad2,y,rfl,hc2,hy1,_⟩:=(hr2.drawn HW.out).dig hlt; obtain rfl : x = y:=hx1.out.symm.trans hy1.out; have hi1 : (k : Int) < xs.length:=by omega
     have hi0 : 0 ≤ (k : Int):=by omega
     go_wp2
     go_quiet (fail)
     go_wp2
     go_roundw
     case rel=>exact ⟨k + 1,by omega,by go_num,HW.out.more nq⟩
     case measure=>first | (simp [intOf]; done) | (simp [intOf]; omega)
   · go_wp2
     go_ret
     exact ⟨rfl,HW.out⟩
theorem row_vals (w : World) (T : TypeId) (cs : Array Value) : Row (w.alloc (.cells cs T)) (some ⟨w.heap.size,0,none⟩) cs.toList:=by
 intro j v hv
 refine ⟨_,rfl,?_⟩
 have : ((⟨w.heap.size,0,none⟩ : Addr).add j) = ⟨w.heap.size,j,none⟩:=by
   unfold Addr.add; split
   · rename_i h; subst h; rfl
   · simp
 rw [this,World.cell?_alloc_new]
 simpa using hv
theorem row_lit (w : World) (T : TypeId) (cs : Array Value) (ds : List Nat) (h : cs.toList = u32s ds) : Row (w.alloc (.cells cs T)) (some ⟨w.heap.size,0,none⟩) (u32s ds):=h ▸ row_vals w T cs
theorem right_one {d : Nat} (h0 : d ≠ 0) (h : d < 1000000000) : right [d]:=⟨fun x hx=>by rw [List.mem_singleton.1 hx]; exact h,.inr (by simpa using h0)⟩
theorem ek {ds : List Nat} {p k : Nat} (v : Nat) (h : p ≠ k) : (ds.set p v).getD k 0 = ds.getD k 0:=by
 rw [List.getD_eq_getElem?_getD,List.getD_eq_getElem?_getD,List.getElem?_set_ne h]
theorem fm {b : Nat} {ds : List Nat} (h : small b ds) (k : Nat) {d : Nat} (hd : d < b) : small b (ds.set k d):=by
 intro x hx
 rcases List.mem_or_eq_of_mem_set hx with h1 | h1
 · exact h x h1
 · rw [h1]; exact hd
theorem df (b n : Nat) (hb : 0 < b) : small b (List.replicate n 0):=fun d hd=>by rw [(List.mem_replicate.1 hd).2]; exact hb
theorem div_step {xs qs : List Nat} {p d left : Nat} (hp : p < xs.length) (hq : qs.length = xs.length) (h : val (qs.drop (p + 1)) * d + left = val (xs.drop (p + 1))) :
   val ((qs.set p ((left * 1000000000 + xs.getD p 0) / d)).drop p) * d + (left * 1000000000 + xs.getD p 0) % d = val (xs.drop p):=by
 have e1 : (qs.set p ((left * 1000000000 + xs.getD p 0) / d)).drop p = ((left * 1000000000 + xs.getD p 0) / d) :: qs.drop (p + 1):=by
   have hl : p < (qs.set p ((left * 1000000000 + xs.getD p 0) / d)).length:=by rw [List.length_set]; omega
   rw [List.drop_eq_getElem_cons hl]; congr 1
   · simp
   · rw [List.drop_set_of_lt (by omega)]
 rw [e1,dn xs p hp,← h,val]
 have h2:=Nat.mod_add_div (left * 1000000000 + xs.getD p 0) d
 rw [Nat.add_mul,Nat.mul_add,Nat.mul_comm _ d,Nat.mul_assoc]
 omega
theorem div_lt {left d x : Nat} (h : left < d) (hx : x < 1000000000) : (left * 1000000000 + x) / d < 1000000000:=by
 rw [Nat.div_lt_iff_lt_mul (by omega)]
 have:=Nat.mul_le_mul_right 1000000000 (show left + 1 ≤ d from h)
 rw [Nat.mul_comm 1000000000 d]
 omega
def RetTwo (w : World) (B q r : Nat) (e : Ending) (w' : World) : Prop:=∃ v u,e = .returned (.tuple #[.agg #[v],.agg #[u]]) ∧ IsNat w' B v q ∧ IsNat w' B u r ∧ Below w.heap.size w w'
theorem divideShort_any {w : World} {A1 : Option Addr} {c1 d : Nat} {xs : List Nat} (hr1 : Row w A1 (u32s xs)) (hx : small 1000000000 xs) (hl1 : xs.length ≤ 100000) (hd0 : 0 < d) (hd : d < 1000000000) :
   Calls Tryz.prog 180 #[.agg #[.slice A1 xs.length c1],.int .u64 d] w (RetTwo w w.heap.size (val xs / d) (val xs % d)):=by
 obtain ⟨i0,hi,hz0,hz1,hz2⟩:=info_parts dw
 obtain ⟨n,hn⟩ : ∃ n : Nat,n = xs.length:=⟨_,rfl⟩
 have hn1 : n ≤ 100000:=by omega
 rw [← hn]
 have HN:=Lib.hid hn
 clear hn
 go_enter Tryz.func180,Tryz.ntmps180
 go_wp2_with (at_make; refine wpList_make_full _ rfl _ _ 132 rfl (w.heap.size + 3) 88 i0 (.int .u32 0) 1 Tryz.underlying132 hi hz0 hz1 .i64 .i64 (n : Int) (n : Int) n rfl rfl rfl rfl ?b2 ?b3 ?b4 ?_)
 case b2=>rw [hz2]; omega
 case b3=>unfold maxLen; omega
 case b4=>simp
 intro w1 hown hgrow
 have ho1:=kh hown
 obtain ⟨hb1,hs1,hA,hB,hC⟩:=ix hgrow
 have HA:=Lib.hid hA
 have HB:=Lib.hid hB
 have HC:=Lib.hid hC
 clear hown hgrow hA hB hC
 have hx':=small_mono hx (show 1000000000 ≤ 4294967296 by decide)
 go_wp2_with fail
 go_loopw [7, 8] (fun cv i wr => ∃ (k left : Nat) (qs : List Nat), k ≤ n ∧ i = .int .i64 ((k : Int) - 1) ∧ cv = .int .u64 left ∧ left < d ∧ Own wr (w.heap.size + 3) 88 (.slice (some ⟨w.heap.size + 1 + 1 + 1, 0, none⟩) n n) (u32s qs) ∧ Hid (qs.length = n ∧ small 1000000000 qs ∧ val (qs.drop k) * d + left = val (xs.drop k)) ∧ Below (w.heap.size + 3) w1 wr)
   (fun _ i _=>(intOf i + 1).toNat)
 case atStart =>
   refine ⟨n,0,List.replicate n 0,Nat.le_refl _,rfl,rfl,hd0,ho1,⟨by simp,df _ _ (by decide),?_⟩,Below.refl _ _⟩; rw [List.drop_of_length_le (by simp),List.drop_of_length_le (by rw [HN.out]; exact Nat.le_refl _)]; simp [val]
 case round =>
   obtain ⟨k,left,qs,hk,rfl,rfl,hleft,hq,HO,hb⟩:=hrel; have hsz:=hb.size; rcases Nat.eq_zero_or_pos k with rfl | hpos
   · have hl : qs.length ≤ 1000000:=by rw [HO.out.1]; omega
     go_wp2_with fail
     refine (stripped_any hq hl).mono ?_; rintro e w3 ⟨⟨v,rfl,hv⟩,rfl⟩; obtain ⟨A3,c3,rfl,_⟩:=hv.slice32
     go_wp2_with fail
     refine (stripped_any (own_lit32 wr (B:=w.heap.size + 3) left (by omega)) (by simp)).mono ?_; rintro e w4 ⟨⟨v2,rfl,hv2⟩,hw4⟩; obtain ⟨A4,c4,rfl,_⟩:=hv2.slice32; have hb4 : Below (w.heap.size + 3) w1 w4:=by rw [← hw4]; exact hb.alloc (by omega) _
     have hv' : Own w4 (w.heap.size + 3) 88 (.slice A3 (strip qs).length c3) (u32s (strip qs)):=by rw [← hw4]; exact hv.below ((Below.refl _ _).alloc (Nat.le_refl _) _)
     have hv2' : Own w4 (w.heap.size + 3) 88 (.slice A4 (strip [left]).length c4) (u32s (strip [left])):=by rw [← hw4]; exact hv2
     clear hv hv2 hw4; have hB4:=(hb4.block (w.heap.size + 1) (by omega)).trans HB.out; have hC4:=(hb4.block (w.heap.size + 1 + 1) (by omega)).trans HC.out; obtain ⟨t1,t2,t3⟩:=ki (u1:=.slice A3 (strip qs).length c3) (u2:=.slice A4 (strip [left]).length c4) hB4 hC4 (by omega); have k1:=cell_of_one hB4; have k2:=free_of_one hB4; have k3:=cell_of_one t1; have k4:=free_of_one t1; have k5:=cell_of_one t2; have k6:=cell_of_one t3; clear hB4 hC4 t1 t2 t3
     go_wp2
     refine bodyPost_ret (v:=.tuple #[.agg #[.slice A3 (strip qs).length c3],.agg #[.slice A4 (strip [left]).length c4]]) (by simp [results,Tryz.results180,go_sem,k5,k6]) rfl ?_; have h:=HO.out; have hv3 : val qs * d + left = val xs:=by simpa using h.2.2
     refine ⟨_,_,rfl,⟨_,cz h.2.1,?_,((hv'.setBelow (show w.heap.size + 1 < w.heap.size + 3 by omega) _).setBelow (show w.heap.size + 1 + 1 < w.heap.size + 3 by omega) _).mono (by omega)⟩,⟨_,cz (ds:=[left]) (fun y hy=>by rw [List.mem_singleton.1 hy]; omega),?_,((hv2'.setBelow (show w.heap.size + 1 < w.heap.size + 3 by omega) _).setBelow (show w.heap.size + 1 + 1 < w.heap.size + 3 by omega) _).mono (by omega)⟩,((below_trans hb1 hb4 (by omega)).setCell (Nat.le_succ _) _).setCell (Nat.le_succ_of_le (Nat.le_succ _)) _⟩
     · rw [dt,← hv3,Nat.mul_comm,Nat.mul_add_div hd0,Nat.div_eq_of_lt hleft,Nat.add_zero]
     · rw [dt,← hv3,Nat.mul_comm,Nat.mul_add_mod,Nat.mod_eq_of_lt hleft]; simp [val]
   · obtain ⟨p,rfl⟩ : ∃ p,k = p + 1:=⟨k - 1,by omega⟩
     rw [show ((p + 1 : Nat) : Int) - 1 = (p : Int) from by omega]; have bW:=below_trans hb1 hb (by omega); have hcA:=cell_of_one ((hb.block w.heap.size (by omega)).trans HA.out)
     obtain ⟨x,hxe⟩ : ∃ x,x = xs.getD p 0:=⟨_,rfl⟩
     have hxb : x < 1000000000:=by rw [hxe]; exact bh hx (by decide) p
     have q1 : ∀ W,Below w.heap.size w W → Calls Tryz.prog 175 #[.slice A1 n c1,.int .i64 p] W (fun e w'=>e = .returned (.int .u64 (x : Int)) ∧ W = w'):=fun W hW=>by
       have:=at_any (c:=c1) (hr1.below hW) hx' p (by omega); rw [Int.toNat_natCast,← hxe,← HN.out] at this; exact this
     have HX:=Lib.hid hxe; have Q1:=Lib.hid q1; clear hxe q1; obtain ⟨hqc,hqf⟩:=own_cell hq (k:=p) (by rw [am,HO.out.1]; omega)
     obtain ⟨q,hqe⟩ : ∃ q,q = (left * 1000000000 + x) / d:=⟨_,rfl⟩
     obtain ⟨r,hre⟩ : ∃ r,r = (left * 1000000000 + x) % d:=⟨_,rfl⟩
     have hql : q < 1000000000:=by rw [hqe]; exact div_lt hleft hxb
     have hrl : r < d:=by rw [hre]; exact Nat.mod_lt _ hd0
     have hdq : ((left : Int) * 1000000000 + (x : Int)) / (d : Int) = (q : Int):=by rw [hqe]; simp
     have hdr : ((left : Int) * 1000000000 + (x : Int)) % (d : Int) = (r : Int):=by rw [hre]; simp
     have HQ:=Lib.hid hqe; have HR:=Lib.hid hre; clear hqe hre; have hi1 : (p : Int) < n:=by omega
     go_wp2_with (go_at_call 175; refine (Q1.out _ bW).mono ?_; rintro e w' ⟨rfl,rfl⟩)
     have HDR:=Lib.hid hdr; clear hdq hdr
     go_roundw
     case rel =>
       refine ⟨p,r,qs.set p q,by omega,by go_num,int_eq HDR.out,hrl,fp hq p q,?_,hb.setCell (show w.heap.size + 3 ≤ w.heap.size + 1 + 1 + 1 by omega) _⟩; have h:=HO.out; refine ⟨by rw [List.length_set]; exact h.1,fm h.2.1 p hql,?_⟩; rw [HQ.out,HR.out,HX.out]; exact div_step (by rw [← HN.out]; omega) (by rw [h.1,HN.out]) h.2.2
     case measure=>first | (simp [intOf]; done) | (simp [intOf]; omega)
theorem IsNat.setOther {w : World} {B n : Nat} {v u0 : Value} (h : IsNat w B v n) {g : Nat} (hg : w.heap[g]? = some (.cells #[u0] 137 (0,0))) (u : Value) : IsNat (w.setCell ⟨g,0,none⟩ u) B v n:=by
 obtain ⟨rs,h1,h2,h3⟩:=h
 exact ⟨rs,h1,h2,h3.setOther hg (by decide) u⟩
theorem IsNat.below {w w' : World} {B n : Nat} {v : Value} (h : IsNat w B v n) (hb : Below w.heap.size w w') : IsNat w' B v n:=by
 obtain ⟨rs,h1,h2,h3⟩:=h
 exact ⟨rs,h1,h2,h3.below hb⟩
theorem IsNat.alloc {w : World} {B n : Nat} {v : Value} (h : IsNat w B v n) (o : Obj) : IsNat (w.alloc o) B v n:=h.below ((Below.refl _ _).alloc (Nat.le_refl _) _)
theorem Own.alloc {w : World} {B T : Nat} {v : Value} {xs : List Value} (h : Own w B T v xs) (o : Obj) : Own (w.alloc o) B T v xs:=h.below ((Below.refl _ _).alloc (Nat.le_refl _) _)
theorem IsNat.mono {w : World} {B B' n : Nat} {v : Value} (h : IsNat w B v n) (hB : B' ≤ B) : IsNat w B' v n:=by
 obtain ⟨rs,h1,h2,h3⟩:=h
 exact ⟨rs,h1,h2,h3.mono hB⟩
theorem iz {w W : World} {B0 q r g3 g4 : Nat} {v u v0 u0 : Value} (h3 : W.heap[g3]? = some (.cells #[v0] 137 (0, 0))) (h4 : W.heap[g4]? = some (.cells #[u0] 137 (0, 0))) (hne : g3 ≠ g4) (hg3 : w.heap.size ≤ g3) (hg4 : w.heap.size ≤ g4)
   (hv : IsNat W B0 v q) (hu : IsNat W B0 u r) (hb : Below w.heap.size w W) :
   (IsNat ((W.setCell ⟨g3,0,none⟩ v).setCell ⟨g4,0,none⟩ u) B0 v q ∧ IsNat ((W.setCell ⟨g3,0,none⟩ v).setCell ⟨g4,0,none⟩ u) B0 u r ∧ Below w.heap.size w ((W.setCell ⟨g3,0,none⟩ v).setCell ⟨g4,0,none⟩ u)) ∧
   ((W.setCell ⟨g3,0,none⟩ v).setCell ⟨g4,0,none⟩ u).cell? ⟨g3,0,none⟩ = some v ∧ ((W.setCell ⟨g3,0,none⟩ v).setCell ⟨g4,0,none⟩ u).cell? ⟨g4,0,none⟩ = some u:=by
 obtain ⟨t1,t2,t3⟩:=ki (u1:=v) (u2:=u) h3 h4 hne
 exact ⟨⟨(hv.setOther h3 v).setOther t1 u,(hu.setOther h3 v).setOther t1 u,(hb.setCell hg3 _).setCell hg4 _⟩,cell_of_one t2,cell_of_one t3⟩
theorem IsNat.shape {w : World} {B n : Nat} {v : Value} (h : IsNat w B v n) : ∃ A m c,v = .slice A m c:=by
 obtain ⟨rs,_,_,h3⟩:=h
 obtain ⟨A,c,rfl,_⟩:=h3.slice
 exact ⟨A,_,c,rfl⟩
def LongSpec : Prop := ∀ (w : World) (A1 A2 : Option Addr) (c1 c2 : Nat) (xs ys : List Nat), Row w A1 (u32s xs) → Row w A2 (u32s ys) → right xs → right ys → 2 ≤ ys.length → val ys ≤ val xs → xs.length ≤ 100000 →
 Calls Tryz.prog 181 #[.agg #[.slice A1 xs.length c1],.agg #[.slice A2 ys.length c2]] w (RetTwo w w.heap.size (val xs / val ys) (val xs % val ys))
theorem divide_any {w : World} {B0 : Nat} {A1 A2 : Option Addr} {c1 c2 : Nat} {xs ys : List Nat} (ho1 : Own w B0 88 (.slice A1 xs.length c1) (u32s xs)) (hB0 : B0 ≤ w.heap.size) (hr2 : Row w A2 (u32s ys)) (hx : right xs) (hy : right ys) (hne : ys ≠ []) (hl1 : xs.length ≤ 100000) (hL : ys.length = 1 ∨ LongSpec) :
   Calls Tryz.prog 168 #[.agg #[.slice A1 xs.length c1],.agg #[.slice A2 ys.length c2]] w (RetTwo w B0 (val xs / val ys) (val xs % val ys)):=by
 have hr1:=ho1.row32
 have HL:=Lib.hid hL
 have HNE:=Lib.hid hne
 clear hL hne
 obtain ⟨W,hW⟩ : ∃ W,W = (((w.alloc (Obj.cells #[Value.slice A1 xs.length c1] 137)).alloc (Obj.cells #[Value.slice A2 ys.length c2] 137)).alloc (Obj.cells #[Value.slice none 0 0] 137)).alloc (Obj.cells #[Value.slice none 0 0] 137):=⟨_,rfl⟩
 obtain ⟨hbW,hsW,b1,b2,b3,b4⟩:=gz hW
 have bB1:=Lib.hid b1
 have bB2:=Lib.hid b2
 have bB3:=Lib.hid b3
 have bB4:=Lib.hid b4
 have HSW:=Lib.hid hsW
 have HW:=Lib.hid hW
 have hs4 : w.heap.size + 4 ≤ W.heap.size:=by omega
 have hcmp:=gh (c1:=c1) (c2:=c2) (hr1.below hbW) (hr2.below hbW) hx hy (by omega)
 have HC:=Lib.hid hcmp
 clear b1 b2 b3 b4 hsW hW hcmp
 by_cases hlt : val xs < val ys
 · have ht : decide (ordI (val xs : Int) (val ys : Int) < 0) = true:=by unfold ordI; rw [if_pos (by omega)]; rfl
   have HLT:=Lib.hid hlt; clear hlt
   go_enter Tryz.func168,Tryz.ntmps168
   go_wp2_with fail
   rw [← HW.out]; refine HC.out.mono ?_; rintro e W2 ⟨rfl,hd2⟩; have hb2:=hd2.below; have k1:=(hb2.block _ (by omega)).trans bB1.out; have k3:=(hb2.block _ (by omega)).trans bB3.out; have k4:=(hb2.block _ (by omega)).trans bB4.out; have c1':=cell_of_one k1; have c3':=cell_of_one k3; have c4':=cell_of_one k4; have f3':=free_of_one k3; have f4':=free_of_one k4; have K3:=Lib.hid k3; have K4:=Lib.hid k4; clear k1 k3 k4
   go_wp2
   go_region
   obtain ⟨⟨n1,n2,n3⟩,n4,n5⟩:=iz (w:=w) (v:=.slice none 0 0) (u:=.slice A1 xs.length c1) K3.out K4.out (by omega) (by omega) (by omega) ⟨[],iy,rfl,Own.nil _ B0 _⟩ ⟨xs,hx,rfl,(ho1.below hbW).below hb2⟩ (hbW.trans (hb2.mono (by omega)))
   go_wp2
   refine bodyPost_ret (v:=.tuple #[.agg #[.slice none 0 0],.agg #[.slice A1 xs.length c1]]) (by simp [results,Tryz.results168,go_sem,n4,n5]) rfl ?_; rw [Nat.div_eq_of_lt HLT.out,Nat.mod_eq_of_lt HLT.out]; exact ⟨_,_,rfl,n1,n2,n3.drew⟩
 · have ht : decide (ordI (val xs : Int) (val ys : Int) < 0) = false:=by
     unfold ordI; rw [if_neg (by omega)]; split <;> rfl
   have HGE:=Lib.hid (Nat.le_of_not_lt hlt); clear hlt
   by_cases h1 : ys.length = 1
   · have hl : ((ys.length : Int) == 1) = true:=by rw [h1]; rfl
     obtain ⟨d,hyd⟩ : ∃ d,ys = [d]:=by
       match ys,h1 with
       | [d],_=>exact ⟨d,rfl⟩
     have hd : d < 1000000000:=hy.1 d (by rw [hyd]; simp)
     have hd0 : 0 < d:=by
       rcases hy.2 with h | h
       · rw [hyd] at h; cases h
       · rw [hyd] at h; simp at h; omega
     have hq : ∀ W2,Below w.heap.size w W2 → Calls Tryz.prog 175 #[.slice A2 ys.length c2,.int .i64 0] W2 fun e w'=>e = .returned (.int .u64 (d : Int)) ∧ W2 = w':=fun W2 hb=>by
       have:=at_any (c:=c2) (hr2.below hb) (small_mono hy.1 (by decide)) 0 (by omega); rw [show ys.getD (Int.toNat 0) 0 = d from by rw [hyd]; rfl] at this; exact this
     have HQ:=Lib.hid hq; have HYD : Hid (val ys = d):=by show _ = _; rw [hyd]; simp [val]
     have hw2 : ∀ W2,Below W.heap.size W W2 → W2.heap[w.heap.size]? = some (Obj.cells #[Value.slice A1 xs.length c1] 137) ∧ W2.heap[w.heap.size + 1]? = some (Obj.cells #[Value.slice A2 ys.length c2] 137) ∧ W2.heap[w.heap.size + 1 + 1]? = some (Obj.cells #[Value.slice none 0 0] 137) ∧ W2.heap[w.heap.size + 1 + 1 + 1]? = some (Obj.cells #[Value.slice none 0 0] 137):=fun W2 hb=>⟨(hb.block _ (by omega)).trans bB1.out,(hb.block _ (by omega)).trans bB2.out,(hb.block _ (by omega)).trans bB3.out,(hb.block _ (by omega)).trans bB4.out⟩
     have HW2:=Lib.hid hw2; clear hw2 hyd h1 hq
     go_enter Tryz.func168,Tryz.ntmps168
     go_wp2_with fail
     rw [← HW.out]; refine HC.out.mono ?_; rintro e W2 ⟨rfl,hd2⟩; have hb2:=hd2.below; obtain ⟨k1,k2,k3,k4⟩:=HW2.out W2 hb2; have c1':=cell_of_one k1; have c2':=cell_of_one k2; have bA2 : Below w.heap.size w W2.drew:=(hbW.trans (hb2.mono (by omega))).drew; have hs2 : w.heap.size + 4 ≤ W2.heap.size:=Nat.le_trans hs4 hb2.size; clear k1 k2 k3 k4
     go_wp2
     go_region_with (first
       | (go_at_call 175; refine (HQ.out _ bA2).mono ?_; rintro e w' ⟨rfl,rfl⟩)
       | (go_at_call 180; refine (divideShort_any (w:=W2.drew) (hr1.below bA2) hx.1 hl1 hd0 hd).mono ?_; rintro e W3 ⟨v,u,rfl,hv,hu,hb3⟩; obtain ⟨Av,nv,cv,rfl⟩:=hv.shape; obtain ⟨Au,nu,cu,rfl⟩:=hu.shape; have hk:=HW2.out W3 (hb2.drew.trans (hb3.mono hb2.size)); have j3:=cell_of_one hk.2.2.1; have j4:=free_of_one hk.2.2.1; have j5:=cell_of_one hk.2.2.2; have j6:=free_of_one hk.2.2.2; have HK:=Lib.hid hk; clear hk))
     all_goals
       obtain ⟨⟨n1,n2,n3⟩,n4,n5⟩:=iz (w:=w) HK.out.2.2.1 HK.out.2.2.2 (by omega) (by omega) (by omega) (hv.mono (Nat.le_trans hB0 (show w.heap.size ≤ W2.heap.size by omega))) (hu.mono (Nat.le_trans hB0 (show w.heap.size ≤ W2.heap.size by omega))) (bA2.trans (hb3.mono (show w.heap.size ≤ W2.heap.size by omega)))
       go_wp2
       refine bodyPost_ret (v:=.tuple #[.agg #[.slice Av nv cv],.agg #[.slice Au nu cu]]) (by simp [results,Tryz.results168,go_sem,n4,n5]) rfl ?_; rw [HYD.out]; exact ⟨_,_,rfl,n1,n2,n3⟩
   · have hl : ((ys.length : Int) == 1) = false:=by rw [beq_eq_false_iff_ne]; omega
     have hl2 : 2 ≤ ys.length:=by
       rcases Nat.lt_or_ge ys.length 1 with h | h
       · exact absurd (List.eq_nil_of_length_eq_zero (by omega)) HNE.out
       · omega
     have HS : Hid LongSpec:=HL.out.resolve_left h1
     have hw2 : ∀ W2,Below W.heap.size W W2 → W2.heap[w.heap.size]? = some (Obj.cells #[Value.slice A1 xs.length c1] 137) ∧ W2.heap[w.heap.size + 1]? = some (Obj.cells #[Value.slice A2 ys.length c2] 137) ∧ W2.heap[w.heap.size + 1 + 1]? = some (Obj.cells #[Value.slice none 0 0] 137) ∧ W2.heap[w.heap.size + 1 + 1 + 1]? = some (Obj.cells #[Value.slice none 0 0] 137):=fun W2 hb=>⟨(hb.block _ (by omega)).trans bB1.out,(hb.block _ (by omega)).trans bB2.out,(hb.block _ (by omega)).trans bB3.out,(hb.block _ (by omega)).trans bB4.out⟩
     have HW2:=Lib.hid hw2; clear hw2 h1
     go_enter Tryz.func168,Tryz.ntmps168
     go_wp2_with fail
     rw [← HW.out]; refine HC.out.mono ?_; rintro e W2 ⟨rfl,hd2⟩; have hb2:=hd2.below; obtain ⟨k1,k2,k3,k4⟩:=HW2.out W2 hb2; have c1':=cell_of_one k1; have c2':=cell_of_one k2; have bA2 : Below w.heap.size w W2:=hbW.trans (hb2.mono (by omega)); have hs2 : w.heap.size + 4 ≤ W2.heap.size:=Nat.le_trans hs4 hb2.size; clear k1 k2 k3 k4
     go_wp2_with fail
     refine (HS.out W2 A1 A2 c1 c2 xs ys (hr1.below bA2) (hr2.below bA2) hx hy hl2 HGE.out hl1).mono ?_; rintro e W3 ⟨v,u,rfl,hv,hu,hb3⟩; obtain ⟨Av,nv,cv,rfl⟩:=hv.shape; obtain ⟨Au,nu,cu,rfl⟩:=hu.shape; have hk:=HW2.out W3 (hb2.trans (hb3.mono hb2.size)); have j3:=cell_of_one hk.2.2.1; have j4:=free_of_one hk.2.2.1; have j5:=cell_of_one hk.2.2.2; have j6:=free_of_one hk.2.2.2; obtain ⟨⟨n1,n2,n3⟩,n4,n5⟩:=iz (w:=w) hk.2.2.1 hk.2.2.2 (by omega) (by omega) (by omega) (hv.mono (Nat.le_trans hB0 (show w.heap.size ≤ W2.heap.size by omega))) (hu.mono (Nat.le_trans hB0 (show w.heap.size ≤ W2.heap.size by omega))) (bA2.trans (hb3.mono (show w.heap.size ≤ W2.heap.size by omega))); clear hk; have N4:=Lib.hid n4; have N5:=Lib.hid n5; clear n4 n5
     go_wp2
     refine bodyPost_ret (v:=.tuple #[.agg #[.slice Av nv cv],.agg #[.slice Au nu cu]]) (by simp [results,Tryz.results168,go_sem,N4.out,N5.out]) rfl ?_; exact ⟨_,_,rfl,n1,n2,n3⟩
end Go.Proofs.YtifgcjpgelbelaaGreatDoor
namespace Go.Proofs.YtifgcjpgelbelaaGreatDoor
open Go
def dstOf (ops : Array Oper) (i : Nat) : Option Tmp:=(ops[i]?).bind (·.dst)
def upd {α : Type} (f : Nat → α) (i : Nat) (v : α) : Nat → α:=fun j=>if j = i then v else f j
theorem db {α : Type} (f : Nat → α) (i : Nat) (v : α) : upd f i v i = v:=if_pos rfl
theorem cg {α : Type} (f : Nat → α) {i j : Nat} (v : α) (h : j ≠ i) : upd f i v j = f j:=if_neg h
def putAll (dst : Nat → Option Tmp) (L : Nat → Bool) (x : Nat → Value) : Act → List Nat → Act
 | a,[]=>a
 | a,i :: is=>putAll dst L x (if L i = true then a.put (dst i) (x i) else a) is
section
variable {dst : Nat → Option Tmp}
theorem putAll_skip {L : Nat → Bool} {x : Nat → Value} {i : Nat} {v : Value} : ∀ (is : List Nat) (a : Act), i ∉ is → putAll dst (upd L i true) (upd x i v) a is = putAll dst L x a is
 | [],_,_=>rfl
 | j :: is,a,h=>by
   have hj : j ≠ i:=fun e=>h (e ▸ List.mem_cons_self); simp only [putAll,cg _ _ hj]; exact putAll_skip is _ fun h'=>h (List.mem_cons_of_mem _ h')
theorem ip {L : Nat → Bool} {x : Nat → Value} {d : Option Tmp} {v : Value} : ∀ (is : List Nat) (a : Act), (∀ j ∈ is, ∀ t, dst j = some t → d ≠ some t) → putAll dst L x (a.put d v) is = (putAll dst L x a is).put d v
 | [],_,_=>rfl
 | j :: is,a,h=>by
   simp only [putAll]; split
   · rw [Act.put_comm a v (x j) (x:=d) (y:=dst j) fun t ht hj=>h j List.mem_cons_self t hj ht]; exact ip is _ fun k hk=>h k (List.mem_cons_of_mem _ hk)
   · exact ip is _ fun k hk=>h k (List.mem_cons_of_mem _ hk)
theorem putAll_put {L : Nat → Bool} {x : Nat → Value} {i : Nat} {v : Value} (hd : ∀ i j t, dst i = some t → dst j = some t → i = j) (hL : L i = false) : ∀ (is : List Nat) (a : Act), i ∈ is → is.Nodup →
   putAll dst (upd L i true) (upd x i v) a is = (putAll dst L x a is).put (dst i) v
 | [],_,h,_=>by cases h
 | j :: is,a,h,hn=>by
   have hn':=List.nodup_cons.1 hn
   by_cases hj : j = i
   · subst hj; simp only [putAll,db,if_true,hL]; rw [putAll_skip is _ hn'.1]; simp only [Bool.false_eq_true,if_false]; exact ip is a fun k hk t ht hjt=>hn'.1 (hd j k t hjt ht ▸ hk)
   · simp only [putAll,cg _ _ hj]; exact putAll_put hd hL is _ ((List.mem_cons.1 h).resolve_left fun e=>hj e.symm) hn'.2
theorem iq {L : Nat → Bool} {x : Nat → Value} : ∀ (is : List Nat) (a : Act), (putAll dst L x a is).tmps.size = a.tmps.size
 | [],_=>rfl
 | j :: is,a=>by
   simp only [putAll]; rw [iq is]; split
   · cases dst j <;> simp [Act.put]
   · rfl
theorem ib {L : Nat → Bool} {x : Nat → Value} {t : Nat} : ∀ (is : List Nat) (a : Act), (∀ j ∈ is, dst j ≠ some t) → (putAll dst L x a is).eval (.tmp t) = a.eval (.tmp t)
 | [],_,_=>rfl
 | j :: is,a,h=>by
   simp only [putAll]; rw [ib is _ fun k hk=>h k (List.mem_cons_of_mem _ hk)]; split
   · exact Act.eval_put fun d hd e=>h j List.mem_cons_self (by injection e with e; rw [hd,e])
   · rfl
theorem dy (a : Act) (d : Nat) (v : Value) (h : d < a.tmps.size) : (a.put (some d) v).eval (.tmp d) = v:=by
 simp [Act.eval,Act.put,h]
theorem ja {L : Nat → Bool} {x : Nat → Value} {t e : Nat} (hd : ∀ i j t, dst i = some t → dst j = some t → i = j) (hL : L e = true) (he : dst e = some t) : ∀ (is : List Nat) (a : Act), e ∈ is → t < a.tmps.size → (putAll dst L x a is).eval (.tmp t) = x e
 | [],_,h,_=>by cases h
 | j :: is,a,h,ht=>by
   simp only [putAll]
   have hs : t < (if L j = true then a.put (dst j) (x j) else a).tmps.size:=by
     split
     · cases dst j <;> simpa [Act.put] using ht
     · exact ht
   by_cases hm : e ∈ is
   · exact ja hd hL he is _ hm hs
   · have hje : e = j:=(List.mem_cons.1 h).resolve_right hm; subst hje; rw [ib is _ fun k hk hk'=>hm (hd e k t he hk' ▸ hk),if_pos hL,he]; exact dy a t (x e) ht
theorem ir {L : Nat → Bool} {x : Nat → Value} : ∀ (is : List Nat) (a : Act), (∀ i ∈ is, L i = true) → putAll dst L x a is = putAll dst (fun _ => true) x a is
 | [],_,_=>rfl
 | j :: is,a,h=>by
   simp only [putAll,h j List.mem_cons_self,if_true]; exact ir is _ fun k hk=>h k (List.mem_cons_of_mem _ hk)
end
def putE (x : Nat → Value) : Act → List (Nat × Option Tmp) → Act
 | a,[]=>a
 | a,p :: r=>putE x (a.put p.2 (x p.1)) r
theorem kk {dst : Nat → Option Tmp} {x : Nat → Value} : ∀ (es : List (Nat × Option Tmp)) (a : Act), (∀ p ∈ es, dst p.1 = p.2) → putE x a es = putAll dst (fun _ => true) x a (es.map (·.1))
 | [],_,_=>rfl
 | p :: r,a,h=>by
   simp only [putE,List.map_cons,putAll,if_true,h p List.mem_cons_self]; exact kk r _ fun q hq=>h q (List.mem_cons_of_mem _ hq)
def growOK (ops : Array Oper) (W : Nat → Bool) (es : List (List (Nat × Option Tmp))) (all : List (Nat × Option Tmp)) (sz : Nat) : Bool :=
 decide (((List.range ops.size).map fun i=>(i,dstOf ops i)) = all) && decide ((all.filterMap (·.2)).Nodup) && all.all (fun p=>match p.2 with | some d=>decide (d < sz) | none=>true) &&
 (List.range ops.size).all fun i => match ops[i]? with
   | none=>true
   | some o => (match o.guard with | none => W i | some g => (dstOf ops g.1).isSome && decide (g.1 < ops.size) && o.after.any (fun e => Region.binds .any e && e.on == g.1)) && (match o.op with | .select _ _ => false | _ => true) && o.after.all (fun e => !Region.binds .any e || decide (e.on < i)) &&
     (es.getD i []).all (fun p=>decide (dstOf ops p.1 = p.2) && decide (p.1 < ops.size) && o.after.any (fun e=>Region.binds .any e && e.on == p.1)) &&
     o.op.operands.all (fun x=>match x with | .tmp t=>(es.getD i []).any (fun p=>decide (p.2 = some t)) || all.all (fun p=>decide (p.2 ≠ some t)) | _=>true)
theorem nodup_dst {ops : Array Oper} (h : ((((List.range ops.size).map fun i=>(i,dstOf ops i))).filterMap (·.2)).Nodup) (i j : Nat) (t : Tmp) (hi : dstOf ops i = some t) (hj : dstOf ops j = some t) : i = j:=by
 have lt : ∀ k,dstOf ops k = some t → k < ops.size:=fun k hk=>by
   rcases Nat.lt_or_ge k ops.size with h | h
   · exact h
   · simp [dstOf,Array.getElem?_eq_none h] at hk
 have hli:=lt i hi
 have hlj:=lt j hj
 rw [List.filterMap_map] at h
 generalize ops.size = n at *
 have key : ∀ (l : List Nat),(l.filterMap ((fun p : Nat × Option Tmp=>p.2) ∘ fun i=>(i,dstOf ops i))).Nodup → i ∈ l → j ∈ l → i = j:=by
   intro l
   induction l with
   | nil=>intro _ h; cases h
   | cons k l ih =>
     intro hn h1 h2; simp only [List.filterMap_cons,Function.comp] at hn; rcases List.mem_cons.1 h1 with e1 | e1 <;> rcases List.mem_cons.1 h2 with e2 | e2
     · rw [e1,e2]
     · subst e1; rw [hi] at hn; exact absurd (List.mem_filterMap.2 ⟨j,e2,hj⟩) (List.nodup_cons.1 hn).1
     · subst e2; rw [hj] at hn; exact absurd (List.mem_filterMap.2 ⟨i,e1,hi⟩) (List.nodup_cons.1 hn).1
     · refine ih ?_ e1 e2
       revert hn
       cases dstOf ops k with
       | none=>exact id
       | some d=>exact fun hn=>(List.nodup_cons.1 hn).2
 exact key _ h (List.mem_range.2 hli) (List.mem_range.2 hlj)
def retOf (dst : Option Tmp) (a : Act) : Value := match dst with
 | some d=>a.eval (.tmp d)
 | none=>undef
theorem put_ret (dst : Option Tmp) (a a1 : Act) (v : Value) (h : ∀ d,dst = some d → d < a1.tmps.size) : a.put dst (retOf dst (a1.put dst v)) = a.put dst v:=by
 cases dst with
 | none=>rfl
 | some d =>
   show a.put (some d) ((a1.put (some d) v).eval (.tmp d)) = _
   rw [dy a1 d v (h d rfl)]
section
variable {P : Program}
theorem wp_transfer {o : Oper} {a a1 : Act} {w : World} {K : Value → World → Prop} {next : Act → World → Prop} {Q : Exit → Act → World → Prop} (he : execOp a.eval o = execOp a1.eval o) (hdst : ∀ d, o.dst = some d → d < a1.tmps.size)
   (hn : ∀ v w',K v w' → next (a.put o.dst v) w') (h : o.wp P a1 w (fun a' w'=>a'.defers = a1.defers ∧ K (retOf o.dst a') w') (fun _ _ _=>False)) : o.wp P a w next Q:=by
 unfold Oper.wp at *
 rw [he]
 have key : ∀ v w',(a1.put o.dst v).defers = a1.defers ∧ K (retOf o.dst (a1.put o.dst v)) w' → next (a.put o.dst v) w':=fun v w' hk=>by
   have:=hn _ _ hk.2
   rwa [put_ret o.dst a a1 v hdst] at this
 generalize (execOp a1.eval o).run P w = r at *
 cases r with
 | ok n w' =>
   cases n <;> simp only [Oper.upon] at h ⊢
   case value v=>exact key _ _ h
   case skip=>exact key _ _ h
   case defer d =>
     have h1:=congrArg List.length h.1; have h2 : (({ a1 with defers:=d :: a1.defers } : Act).put o.dst undef).defers = d :: a1.defers:=by cases o.dst <;> rfl
     rw [h2,List.length_cons] at h1; omega
   case enter f args =>
     refine Calls.mono h fun e w'' hh=>?_
     cases e with
     | returned v=>exact key _ _ hh
     | panicked c=>exact hh.elim
     | outgrown=>exact hh.elim fun _ hh=>hh.elim fun _ hh=>hh.elim
   case row row args=>exact Rows.mono h fun v w'' hh=>key _ _ hh
 | halt x w'=>cases x <;> simp only [Oper.upon] at h
def GrowStep (P : Program) (Inv : (Nat → Bool) → (Nat → Value) → World → Prop) (a0 : Act) (i : Nat) (o : Oper) (es : List (Nat × Option Tmp)) : Prop :=
 ∀ L x w, Inv L x w → L i = false → (∀ p ∈ es, L p.1 = true) → ∀ K : Value → World → Prop, (∀ v w', Inv (upd L i true) (upd x i v) w' → K v w') →
   o.wp P (putE x a0 es) w (fun a' w'=>a'.defers = (putE x a0 es).defers ∧ K (retOf o.dst a') w') (fun _ _ _=>False)
theorem count_one {p q : Nat → Bool} {i : Nat} (hp : p i = true) (hq : q i = false) (h : ∀ j, j ≠ i → q j = p j) : ∀ l : List Nat, l.Nodup → i ∈ l → l.countP q + 1 = l.countP p
 | [],_,h=>by cases h
 | j :: l,hn,hm=>by
   have hn':=List.nodup_cons.1 hn
   by_cases hj : j = i
   · subst hj
     have : l.countP q = l.countP p:=List.countP_congr fun k hk=>by
       rw [h k fun e=>hn'.1 (e ▸ hk)]
     rw [List.countP_cons,List.countP_cons,hp,hq,this]; simp
   · have:=count_one hp hq h l hn'.2 ((List.mem_cons.1 hm).resolve_left fun e=>hj e.symm); rw [List.countP_cons,List.countP_cons,h j hj]; omega
theorem wpAny_grow {ops : Array Oper} {Q : Exit → Act → World → Prop} {a0 : Act} (Inv : (Nat → Bool) → (Nat → Value) → World → Prop) (W : Nat → Bool) (es : List (List (Nat × Option Tmp))) (all : List (Nat × Option Tmp)) (hchk : growOK ops W es all a0.tmps.size = true)
   (hg : ∀ i o g,ops[i]? = some o → o.guard = some g → ∀ L x w,Inv L x w → L g.1 = true → (∃ c,x g.1 = .bool c ∧ (c == g.2) = W i) ∨ (x g.1 = undef ∧ W i = false))
   (hskip : ∀ i,i < ops.size → W i = false → ∀ L x w,Inv L x w → L i = false → Inv (upd L i true) (upd x i undef) w)
   (hs : ∀ i o,ops[i]? = some o → W i = true → GrowStep P Inv a0 i o (es.getD i [])) (hend : ∀ L x w',(∀ i,i < ops.size → L i = true) → Inv L x w' → Q .normal (putE x a0 all) w') :
   ∀ (fuel : Nat) (listed : Array Bool) (x : Nat → Value) (w : World), listed.size = ops.size → (List.range ops.size).countP (fun i => !listed.getD i true) ≤ fuel → Inv (fun i => listed.getD i true) x w →
     wpAny P .any ops Q fuel listed (putAll (dstOf ops) (fun i=>listed.getD i true) x a0 (List.range ops.size)) w:=by
 unfold growOK at hchk
 simp only [Bool.and_eq_true,decide_eq_true_eq] at hchk
 obtain ⟨⟨⟨hall,hnd⟩,hsz⟩,hops⟩:=hchk
 have hdd:=nodup_dst (ops:=ops) (by rw [hall]; exact hnd)
 have hpair : ∀ p ∈ all,dstOf ops p.1 = p.2:=fun p hp=>by
   rw [← hall] at hp; obtain ⟨i,_,rfl⟩:=List.mem_map.1 hp; rfl
 have hmap : all.map (·.1) = List.range ops.size:=by
   rw [← hall,List.map_map]; exact List.map_id _
 have hdst : ∀ i d,dstOf ops i = some d → d < a0.tmps.size:=fun i d hi=>by
   have hl : i < ops.size:=by
     rcases Nat.lt_or_ge i ops.size with h | h
     · exact h
     · simp [dstOf,Array.getElem?_eq_none h] at hi
   have:=List.all_eq_true.1 hsz (i,dstOf ops i) (by rw [← hall]; exact List.mem_map.2 ⟨i,List.mem_range.2 hl,rfl⟩)
   simpa [hi] using this
 have hop : ∀ i o, ops[i]? = some o → i < ops.size ∧ ((o.guard = none ∧ W i = true) ∨ ∃ g d, o.guard = some g ∧ dstOf ops g.1 = some d ∧ g.1 < ops.size ∧ ∃ e ∈ o.after.toList, Region.binds .any e = true ∧ e.on = g.1) ∧ (∀ cs b, o.op ≠ .select cs b) ∧ (∀ e ∈ o.after.toList, Region.binds .any e = true → e.on < i) ∧
     (∀ p ∈ es.getD i [],dstOf ops p.1 = p.2 ∧ p.1 < ops.size ∧ ∃ e ∈ o.after.toList,Region.binds .any e = true ∧ e.on = p.1) ∧
     (∀ t,.tmp t ∈ o.op.operands → (∃ p ∈ es.getD i [],p.2 = some t) ∨ ∀ j,dstOf ops j ≠ some t):=fun i o ho=>by
   have hl : i < ops.size:=(Array.getElem?_eq_some_iff.1 ho).1; have h:=List.all_eq_true.1 hops i (List.mem_range.2 hl); rw [ho] at h; simp only [Bool.and_eq_true] at h; obtain ⟨⟨⟨⟨h1,h2⟩,h3⟩,h4⟩,h5⟩:=h; refine ⟨hl,?_,fun cs b e=>by rw [e] at h2; simp at h2,fun e he hb=>?_,fun p hp=>?_,fun t ht=>?_⟩
   · cases hgd : o.guard with
     | none=>rw [hgd] at h1; exact .inl ⟨rfl,h1⟩
     | some g =>
       rw [hgd] at h1; simp only [Bool.and_eq_true,decide_eq_true_eq] at h1; obtain ⟨⟨q1,q2⟩,q3⟩:=h1; obtain ⟨d,hd⟩:=Option.isSome_iff_exists.1 q1; obtain ⟨e,he,hh⟩:=Array.any_eq_true'.1 q3; simp only [Bool.and_eq_true,beq_iff_eq] at hh; exact .inr ⟨g,d,rfl,hd,q2,e,Array.mem_toList_iff.2 he,hh⟩
   · have:=Array.all_eq_true'.1 h3 e (Array.mem_toList_iff.1 he)
     simpa [hb] using this
   · have:=List.all_eq_true.1 h4 p hp; simp only [Bool.and_eq_true,decide_eq_true_eq] at this; refine ⟨this.1.1,this.1.2,?_⟩; obtain ⟨e,he,hh⟩:=Array.any_eq_true'.1 this.2; simp only [Bool.and_eq_true,beq_iff_eq] at hh; exact ⟨e,Array.mem_toList_iff.2 he,hh⟩
   · have:=Array.all_eq_true'.1 h5 _ ht; simp only [Bool.or_eq_true] at this; rcases this with h | h
     · left; obtain ⟨p,hp,hh⟩:=List.any_eq_true.1 h; exact ⟨p,hp,by simpa using hh⟩
     · right; intro j hj
       have hlj : j < ops.size:=by
         rcases Nat.lt_or_ge j ops.size with h | h
         · exact h
         · simp [dstOf,Array.getElem?_eq_none h] at hj
       have:=List.all_eq_true.1 h (j,dstOf ops j) (by rw [← hall]; exact List.mem_map.2 ⟨j,List.mem_range.2 hlj,rfl⟩); simp [hj] at this
 intro fuel
 induction fuel with
 | zero =>
   intro listed x w hl hc hI
   have hL : ∀ i,i < ops.size → listed.getD i true = true:=fun i hi=>by
     have:=List.countP_eq_zero.1 (Nat.le_zero.1 hc) i (List.mem_range.2 hi)
     simpa using this
   refine ⟨List.filter_eq_nil_iff.2 fun i hi=>by simp [hL i (List.mem_range.1 hi)],?_⟩; rw [ir _ _ fun i hi=>hL i (List.mem_range.1 hi),← hmap,← kk all a0 hpair]; exact hend _ _ _ hL hI
 | succ fuel ih =>
   intro listed x w hl hc hI; refine ⟨fun hr=>?_,fun i hi=>?_⟩
   · have hL : ∀ i,i < ops.size → listed.getD i true = true:=by
       intro i
       induction i using Nat.strongRecOn with
       | _ i ihi =>
         intro hi; have hn:=List.filter_eq_nil_iff.1 hr i (List.mem_range.2 hi); have ho : ops[i]? = some ops[i]:=Array.getElem?_eq_getElem hi; obtain ⟨_,_,_,h4,_⟩:=hop i _ ho
         cases hb : listed.getD i true with
         | true=>rfl
         | false =>
           refine absurd ?_ hn; rw [ho,hb]; simp only [Bool.not_false,Bool.true_and,Option.map_some,Option.getD_some]; refine Array.all_eq_true'.2 fun e he=>?_
           cases hbe : Region.binds .any e with
           | false=>rfl
           | true =>
             have h5:=h4 e (Array.mem_toList_iff.2 he) hbe; have h6:=ihi _ h5 (by omega)
             have h7 : listed.getD e.on false = listed.getD e.on true:=by
               have : e.on < listed.size:=by omega
               simp [Array.getD,this]
             rw [h7,h6]; rfl
     rw [ir _ _ fun i hi=>hL i (List.mem_range.1 hi),← hmap,← kk all a0 hpair]; exact hend _ _ _ hL hI
   · obtain ⟨hir,hi2⟩:=List.mem_filter.1 hi; have hil : i < ops.size:=List.mem_range.1 hir; have ho : ops[i]? = some ops[i]:=Array.getElem?_eq_getElem hil; obtain ⟨_,hg0,hsel,h4,h5,h6⟩:=hop i _ ho
     generalize ops[i] = o at *
     rw [ho] at hi2; simp only [Bool.and_eq_true,Bool.not_eq_true',Option.map_some,Option.getD_some] at hi2
     have hdep : ∀ p ∈ es.getD i [],listed.getD p.1 true = true:=fun p hp=>by
       obtain ⟨_,q2,e,he,hb,hon⟩:=h5 p hp; have:=Array.all_eq_true'.1 hi2.2 e (Array.mem_toList_iff.1 he); rw [hb,hon] at this; have hlt : p.1 < listed.size:=by omega
       simpa [Array.getD,hlt] using this
     have hnext : ∀ v w',Inv (upd (fun j=>listed.getD j true) i true) (upd x i v) w' → wpAny P .any ops Q fuel (listed.setIfInBounds i true) ((putAll (dstOf ops) (fun i=>listed.getD i true) x a0 (List.range ops.size)).put o.dst v) w':=fun v w' hI'=>by
       have hLL : (fun j=>(listed.setIfInBounds i true).getD j true) = upd (fun j=>listed.getD j true) i true:=by
         funext j
         unfold upd
         by_cases hj : j = i
         · subst hj; have : j < listed.size:=by omega
           simp [Array.getD,this]
         · rw [if_neg hj]; simp only [Array.getD_eq_getD_getElem?]; rw [Array.getElem?_setIfInBounds_ne (fun e=>hj e.symm)]
       have hod : dstOf ops i = o.dst:=by simp [dstOf,ho]
       have:=ih (listed.setIfInBounds i true) (upd x i v) w' (by simpa using hl) (by
         have hc1:=count_one (p:=fun j=>!listed.getD j true) (q:=fun j=>!(listed.setIfInBounds i true).getD j true) (i:=i) (by simp [hi2.1]) (by
           have:=congrFun hLL i; simp only [db] at this
           simp [this]) (fun j hj=>by
           have:=congrFun hLL j; rw [cg _ _ hj] at this
           simp only [this]) (List.range ops.size) List.nodup_range hir
         omega) (by rw [hLL]; exact hI')
       rw [hLL,putAll_put hdd (L:=fun j=>listed.getD j true) hi2.1 _ _ hir List.nodup_range,hod] at this; exact this
     have hdepG : ∀ g d,(∃ e ∈ o.after.toList,Region.binds .any e = true ∧ e.on = g) → dstOf ops g = some d → g < ops.size → listed.getD g true = true:=fun g d ⟨e,he,hb,hon⟩ _ hgl=>by
       have:=Array.all_eq_true'.1 hi2.2 e (Array.mem_toList_iff.1 he); rw [hb,hon] at this; have hlt : g < listed.size:=by omega
       simpa [Array.getD,hlt] using this
     have hwant : Region.wanted o (yielded ops (putAll (dstOf ops) (fun i=>listed.getD i true) x a0 (List.range ops.size)).tmps) = W i:=by
       rcases hg0 with ⟨h1,h2⟩ | ⟨g,d,h1,h2,h3,h4⟩
       · rw [h2]; simp [Region.wanted,h1]
       · have hLg:=hdepG g.1 d h4 h2 h3; have hev:=ja (L:=fun i=>listed.getD i true) (x:=x) hdd hLg h2 (List.range ops.size) a0 (List.mem_range.2 h3) (hdst _ _ h2)
         have hyx : (ops[g.1]?).bind (·.dst) = some d ∧ (putAll (dstOf ops) (fun i=>listed.getD i true) x a0 (List.range ops.size)).tmps[d]? = some (x g.1):=by
           have hsz2 : d < (putAll (dstOf ops) (fun i=>listed.getD i true) x a0 (List.range ops.size)).tmps.size:=by rw [iq]; exact hdst _ _ h2
           refine ⟨h2,?_⟩; rw [← hev]
           show _ = some (Array.getD _ d undef)
           rw [Array.getD,dif_pos hsz2]; exact Array.getElem?_eq_getElem hsz2
         rcases hg i o g ho h1 (fun i=>listed.getD i true) x w hI hLg with ⟨c,hc,hcw⟩ | ⟨hc,hcw⟩
         · have hyd : yielded ops (putAll (dstOf ops) (fun i=>listed.getD i true) x a0 (List.range ops.size)).tmps g.1 = some c:=by
             unfold yielded; rw [hyx.1,Option.bind_some,hyx.2,hc]
           rw [← hcw]; simp only [Region.wanted,h1,hyd]
           cases c <;> cases g.2 <;> rfl
         · have hyd : yielded ops (putAll (dstOf ops) (fun i=>listed.getD i true) x a0 (List.range ops.size)).tmps g.1 = none:=by
             unfold yielded; rw [hyx.1,Option.bind_some,hyx.2,hc]; rfl
           rw [hcw]; simp only [Region.wanted,h1,hyd]; rfl
     unfold wpOp; rw [ho]
     show if Region.wanted o _ = true then _ else _
     cases hWi : W i with
     | false =>
       rw [hwant,hWi,if_neg (by decide)]; exact hnext _ _ (hskip i hil hWi _ _ _ hI hi2.1)
     | true =>
     rw [hwant,hWi,if_pos rfl]; left; have hst:=hs i o ho hWi (fun i=>listed.getD i true) x w hI hi2.1 hdep (fun v w'=>wpAny P .any ops Q fuel (listed.setIfInBounds i true) ((putAll (dstOf ops) (fun i=>listed.getD i true) x a0 (List.range ops.size)).put o.dst v) w') hnext; refine wp_transfer ?_ ?_ (fun v w' hk=>hk) hst
     · refine execOp_congr o hsel fun y hy=>?_
       cases y with
       | tmp t =>
         have hpe:=kk (x:=x) (es.getD i []) a0 fun p hp=>(h5 p hp).1; rw [hpe]; rcases h6 t hy with ⟨p,hp,hpt⟩ | hno
         · have hq:=(h5 p hp).1; rw [hpt] at hq; rw [ja hdd (hdep p hp) hq _ _ (List.mem_range.2 (h5 p hp).2.1) (hdst _ _ hq),ja hdd (L:=fun _=>true) rfl hq _ _ (List.mem_map.2 ⟨p,hp,rfl⟩) (hdst _ _ hq)]
         · rw [ib _ _ fun j _=>hno j,ib _ _ fun j _=>hno j]
       | _=>rfl
     · intro d hd; rw [kk (dst:=dstOf ops) _ _ fun p hp=>(h5 p hp).1,iq]; exact hdst i d (by simp [dstOf,ho,hd])
theorem wpAny_ord {P : Program} {ops : Array Oper} {Q : Exit → Act → World → Prop} (hb : ∀ (i : Nat) (o : Oper),ops[i]? = some o → ∀ e ∈ o.after.toList,Region.binds .any e = true → e.on < i) :
   ∀ (n k : Nat) (listed : Array Bool) (a : Act) (w : World), k + n = ops.size → listed.size = ops.size → (∀ j, j < k → listed.getD j false = true) → (∀ j, k ≤ j → j < ops.size → listed.getD j true = false) →
     wpAny P .any ops Q n listed a w → wpOps P ops Q (List.range' k n) a w
 | 0,k,listed,a,w,_,_,_,_,h=>h.2
 | n + 1,k,listed,a,w,hk,hl,h1,h2,h=>by
   have hkl : k < ops.size:=by omega
   have hr : k ∈ Region.ready .any ops listed:=by
     unfold Region.ready; refine List.mem_filter.2 ⟨List.mem_range.2 hkl,?_⟩; rw [h2 k (Nat.le_refl _) hkl,Array.getElem?_eq_getElem hkl]; simp only [Bool.not_false,Bool.true_and,Option.map_some,Option.getD_some]; refine Array.all_eq_true'.2 fun e he=>?_
     cases hbd : Region.binds .any e with
     | false=>rfl
     | true =>
       have:=hb k ops[k] (Array.getElem?_eq_getElem hkl) e (Array.mem_toList_iff.2 he) hbd; rw [h1 e.on this]; rfl
   rw [List.range'_succ,wpOps_cons]; refine wpOp_mono (fun a w=>wpAny_ord hb n (k + 1) _ a w (by omega) (by simpa using hl) (fun j hj=>?_) fun j hj hj2=>?_) (h.2 k hr)
   · by_cases e : j = k
     · subst e; have : j < listed.size:=by omega
       simp [Array.getD,this]
     · exact (getD_set_ne (i:=k) false (fun h=>e h.symm)).trans (h1 j (by omega))
   · exact (getD_set_ne (i:=k) true (by omega)).trans (h2 j (by omega) hj2)
theorem wp_region_grow {id : Nat} {draw : Bool} {ops : Array Oper} {Q : Exit → Act → World → Prop} {a0 : Act} {w : World} (hm : P.follows .mixedOrders = true) (Inv : (Nat → Bool) → (Nat → Value) → World → Prop) (W : Nat → Bool) (es : List (List (Nat × Option Tmp))) (all : List (Nat × Option Tmp)) (hchk : growOK ops W es all a0.tmps.size = true)
   (h0 : ∀ W',W' = w ∨ W' = w.drew → Inv (fun i=>decide (ops.size ≤ i)) (fun _=>undef) W') (hg : ∀ i o g,ops[i]? = some o → o.guard = some g → ∀ L x w,Inv L x w → L g.1 = true → (∃ c,x g.1 = .bool c ∧ (c == g.2) = W i) ∨ (x g.1 = undef ∧ W i = false))
   (hskip : ∀ i,i < ops.size → W i = false → ∀ L x w,Inv L x w → L i = false → Inv (upd L i true) (upd x i undef) w) (hs : ∀ i o,ops[i]? = some o → W i = true → GrowStep P Inv a0 i o (es.getD i [])) (hend : ∀ L x w',(∀ i,i < ops.size → L i = true) → Inv L x w' → Q .normal (putE x a0 all) w') :
   (Code.region id ops draw).wp P Q a0 w:=by
 have hLL : (fun i=>(Array.replicate ops.size false).getD i true) = fun i=>decide (ops.size ≤ i):=by
   funext i
   by_cases h : i < ops.size
   · simp [Array.getD,h]
   · simp [Array.getD,h]; omega
 have hmain : ∀ W',Inv (fun i=>decide (ops.size ≤ i)) (fun _=>undef) W' → wpAny P .any ops Q ops.size (Array.replicate ops.size false) a0 W':=by
   intro W' h0; have h:=wpAny_grow Inv W es all hchk hg hskip hs hend ops.size (Array.replicate ops.size false) (fun _=>undef) W' (by simp) (Nat.le_trans List.countP_le_length (by simp)) (by rw [hLL]; exact h0)
   have hz : ∀ (is : List Nat) (a : Act),(∀ i ∈ is,i < ops.size) → putAll (dstOf ops) (fun i=>(Array.replicate ops.size false).getD i true) (fun _=>undef) a is = a:=by
     intro is
     induction is with
     | nil=>intro a _; rfl
     | cons j is ih =>
       intro a h; have hj:=h j List.mem_cons_self; simp only [putAll]; rw [if_neg (by simp [Array.getD,hj])]; exact ih a fun k hk=>h k (List.mem_cons_of_mem _ hk)
   rw [hz _ _ fun i hi=>List.mem_range.1 hi] at h; exact h
 cases draw with
 | true=>exact wp_region_any hm (hmain _ (h0 _ (.inr rfl)))
 | false =>
   refine wp_region ?_; rw [List.range_eq_range']; have hchk':=hchk; unfold growOK at hchk'; simp only [Bool.and_eq_true,decide_eq_true_eq] at hchk'; refine wpAny_ord (fun i o ho e he hb=>?_) ops.size 0 _ a0 w (by omega) (by simp) (fun j hj=>by omega) (fun j _ hj=>by simp [Array.getD,hj]) (hmain _ (h0 _ (.inl rfl))); have hl : i < ops.size:=(Array.getElem?_eq_some_iff.1 ho).1; have h:=List.all_eq_true.1 hchk'.2 i (List.mem_range.2 hl); rw [ho] at h; simp only [Bool.and_eq_true] at h; have:=Array.all_eq_true'.1 h.1.1.2 e (Array.mem_toList_iff.1 he)
   simpa [hb] using this
end
end Go.Proofs.YtifgcjpgelbelaaGreatDoor
namespace Go.Proofs.YtifgcjpgelbelaaGreatDoor
open Go.RowKit
theorem cell_of_two {w : World} {g : Nat} {a b : Value} {t : TypeId} (h : w.heap[g]? = some (.cells #[a,b] t (0,0))) : w.cell? ⟨g,0,none⟩ = some a ∧ w.cell? ⟨g,1,none⟩ = some b ∧ w.frozen? ⟨g,0,none⟩ = false ∧ w.frozen? ⟨g,1,none⟩ = false:=by
 refine ⟨?_,?_,?_,?_⟩ <;> simp [World.cell?,World.frozen?,h]
def noDig (u : Value) : Prop:=∀ d : Nat,u ≠ .int .u32 (d : Int)
theorem noDig_slice (A : Option Addr) (k c : Nat) : noDig (.slice A k c):=fun _ h=>by cases h
theorem noDig_bool (b : Bool) : noDig (.bool b):=fun _ h=>by cases h
def Holds_ (w : World) (g : Nat) (cs : Array Value) : Prop:=(∃ T,w.heap[g]? = some (.cells cs T (0,0))) ∧ ∀ u ∈ cs,noDig u
theorem Holds_.lt {w : World} {g : Nat} {cs : Array Value} (h : Holds_ w g cs) : g < w.heap.size:=by
 obtain ⟨⟨_,h⟩,_⟩:=h
 exact lt_block h
theorem Holds_.step {w w' : World} {g : Nat} {cs : Array Value} (h : Holds_ w g cs) (hb : Below w.heap.size w w') : Holds_ w' g cs:=by
 have hl:=h.lt
 obtain ⟨⟨T,h1⟩,h2⟩:=h
 exact ⟨⟨T,(hb.block g hl).trans h1⟩,h2⟩
theorem Holds_.two {w : World} {g : Nat} {a b : Value} (h : Holds_ w g #[a,b]) : w.cell? ⟨g,0,none⟩ = some a ∧ w.cell? ⟨g,1,none⟩ = some b ∧ w.frozen? ⟨g,0,none⟩ = false ∧ w.frozen? ⟨g,1,none⟩ = false:=by
 obtain ⟨⟨T,h1⟩,_⟩:=h
 exact cell_of_two h1
theorem Holds_.one {w : World} {g : Nat} {a : Value} (h : Holds_ w g #[a]) : w.cell? ⟨g,0,none⟩ = some a ∧ w.frozen? ⟨g,0,none⟩ = false:=by
 obtain ⟨⟨T,h1⟩,_⟩:=h
 exact ⟨cell_of_one h1,free_of_one h1⟩
theorem Holds_.any {w : World} {g : Nat} {cs : Array Value} (h : Holds_ w g cs) (i : Nat) (hi : i < cs.size) : w.cell? ⟨g,i,none⟩ = some cs[i] ∧ w.frozen? ⟨g,i,none⟩ = false:=by
 obtain ⟨⟨T,h1⟩,_⟩:=h
 constructor
 · simp [World.cell?,h1,hi]
 · simp [World.frozen?,h1]
structure Stored (g : Nat) (w w' : World) : Prop where
 os : w'.os = w.os
 tape : w'.tape = w.tape
 output : w'.output = w.output
 size : w'.heap.size = w.heap.size
 other : ∀ k,k ≠ g → w'.heap[k]? = w.heap[k]?
 same : ∃ cs cs',Holds_ w g cs ∧ Holds_ w' g cs' ∧ cs'.size = cs.size
 ty : ∀ cs T,w.heap[g]? = some (.cells cs T (0,0)) → ∃ cs',w'.heap[g]? = some (.cells cs' T (0,0)) ∧ cs'.size = cs.size
theorem set_two0 {w : World} {b : Nat} {a c u : Value} {t : TypeId} (h : w.heap[b]? = some (.cells #[a,c] t (0,0))) : (w.setCell ⟨b,0,none⟩ u).heap[b]? = some (.cells #[u,c] t (0,0)):=by
 have hlt:=lt_block h
 have h' : w.heap[b] = .cells #[a,c] t (0,0):=by simpa [Array.getElem?_eq_getElem hlt] using h
 show (w.heap.modify b _)[b]? = _
 rw [Array.getElem?_eq_getElem (by simpa using hlt),Array.getElem_modify_self,h']
 rfl
theorem ic {w : World} {b : Nat} {a c u : Value} {t : TypeId} (h : w.heap[b]? = some (.cells #[a,c] t (0,0))) : (w.setCell ⟨b,1,none⟩ u).heap[b]? = some (.cells #[a,u] t (0,0)):=by
 have hlt:=lt_block h
 have h' : w.heap[b] = .cells #[a,c] t (0,0):=by simpa [Array.getElem?_eq_getElem hlt] using h
 show (w.heap.modify b _)[b]? = _
 rw [Array.getElem?_eq_getElem (by simpa using hlt),Array.getElem_modify_self,h']
 rfl
def put2 (w : World) (g : Nat) (u v : Value) : World:=(w.setCell ⟨g,0,none⟩ u).setCell ⟨g,1,none⟩ v
theorem ay {w : World} {g : Nat} {a b : Value} (h : Holds_ w g #[a,b]) {u v : Value} (hu : noDig u) (hv : noDig v) : Holds_ (put2 w g u v) g #[u,v]:=by
 obtain ⟨⟨T,h1⟩,_⟩:=h
 refine ⟨⟨T,ic (set_two0 h1)⟩,fun y hy=>?_⟩
 rcases List.mem_cons.1 (by simpa using hy : y ∈ [u,v]) with rfl | hy
 · exact hu
 · rw [List.mem_singleton.1 hy]; exact hv
theorem stored_put2 {w : World} {g : Nat} {a b : Value} (h : Holds_ w g #[a,b]) {u v : Value} (hu : noDig u) (hv : noDig v) : Stored g w (put2 w g u v) :=
 ⟨rfl,rfl,rfl,by simp [put2],fun k hk=>(Below.heap_setCell _ _ _ _ hk).trans (Below.heap_setCell _ _ _ _ hk),⟨_,_,h,ay h hu hv,rfl⟩,fun cs T hT=>by
   obtain ⟨⟨T',h1⟩,_⟩:=h; rw [h1] at hT; injection hT with hT; injection hT with e1 e2; subst e1; subst e2
   exact ⟨_,ic (set_two0 h1),rfl⟩⟩
theorem jk {w : World} {g : Nat} {a : Value} (h : Holds_ w g #[a]) {u : Value} (hu : noDig u) : Holds_ (w.setCell ⟨g,0,none⟩ u) g #[u]:=by
 obtain ⟨⟨T,h1⟩,_⟩:=h
 refine ⟨⟨T,one_setCell h1⟩,fun y hy=>?_⟩
 rw [List.mem_singleton.1 (by simpa using hy : y ∈ [u])]; exact hu
theorem stored_put1 {w : World} {g : Nat} {a : Value} (h : Holds_ w g #[a]) {u : Value} (hu : noDig u) : Stored g w (w.setCell ⟨g,0,none⟩ u) :=
 ⟨rfl,rfl,rfl,by simp,fun k hk=>Below.heap_setCell _ _ _ _ hk,⟨_,_,h,jk h hu,rfl⟩,fun cs T hT=>by
   obtain ⟨⟨T',h1⟩,_⟩:=h; rw [h1] at hT; injection hT with hT; injection hT with e1 e2; subst e1; subst e2
   exact ⟨_,one_setCell h1,rfl⟩⟩
theorem ft (w : World) {u v : Value} (hu : noDig u) (hv : noDig v) (T : TypeId) : Holds_ (w.alloc (.cells #[u,v] T)) w.heap.size #[u,v] :=
 ⟨⟨T,heap_alloc_new _ _⟩,fun y hy=>by
   rcases List.mem_cons.1 (by simpa using hy : y ∈ [u,v]) with rfl | hy
   · exact hu
   · rw [List.mem_singleton.1 hy]; exact hv⟩
theorem Own.stored {w w' : World} {g B : Nat} {v : Value} {ds : List Nat} (h : Own w B 88 v (u32s ds)) (hs : Stored g w w') : Own w' B 88 v (u32s ds):=by
 have hh : w.ownsRow B 88 1 v (u32s ds).length (u32s ds):=h
 refine ⟨hh.1,?_⟩
 rcases hh.2 with h0 | ⟨g',cap,cur,e,hB,hq,h1,h2,h3,h4⟩
 · exact .inl h0
 · by_cases eg : g' = g
   · subst eg; obtain ⟨cs',hq',hsz⟩:=hs.ty cur _ hq
     cases ds with
     | nil=>exact .inr ⟨g',cap,cs',e,hB,hq',h1,h2,by omega,by simp [u32s]⟩
     | cons d r =>
       exfalso
       have hc:=hh.cells (g:=g') (by rw [e]; rfl) 0 (.int .u32 (d : Int)) rfl; obtain ⟨cs,_,⟨⟨T,h5⟩,h6⟩,_⟩:=hs.same; rw [show ((⟨g',0,none⟩ : Addr).add 0) = ⟨g',0,none⟩ from rfl] at hc; simp only [World.cell?,h5] at hc; split at hc
       · cases hc
       · exact h6 _ (Array.mem_of_getElem? hc) d rfl
   · exact .inr ⟨g',cap,cur,e,hB,(hs.other g' eg).trans hq,h1,h2,h3,h4⟩
theorem IsNat.stored {w w' : World} {g B n : Nat} {v : Value} (h : IsNat w B v n) (hs : Stored g w w') : IsNat w' B v n:=by
 obtain ⟨rs,h1,h2,h3⟩:=h
 exact ⟨rs,h1,h2,h3.stored hs⟩
theorem jb {cs : Array Value} (h : cs.size = 2) : ∃ u v,cs = #[u,v]:=by
 obtain ⟨l⟩:=cs
 match l,h with
 | [u,v],_=>exact ⟨u,v,rfl⟩
 | [],h=>simp at h
 | [_],h=>simp at h
 | _ :: _ :: _ :: _,h=>simp at h
structure Reg (B : Nat) (W0 : World) (G : List Nat) (w : World) : Prop where
 below : Below B W0 w
 old : ∀ k,k < W0.heap.size → k ∉ G → w.heap[k]? = W0.heap[k]?
 held : ∀ g ∈ G,∃ cs0 cs,Holds_ W0 g cs0 ∧ Holds_ w g cs ∧ cs.size = cs0.size
theorem Reg.step {B : Nat} {W0 w w' : World} {G : List Nat} (h : Reg B W0 G w) (hB : B ≤ W0.heap.size) (hb : Below w.heap.size w w') : Reg B W0 G w' :=
 ⟨h.below.trans (hb.mono (Nat.le_trans hB h.below.size)),fun k hk hG=>(hb.block k (Nat.lt_of_lt_of_le hk h.below.size)).trans (h.old k hk hG),fun g hg=>by
   obtain ⟨cs0,cs,h1,h2,h3⟩:=h.held g hg
   exact ⟨cs0,cs,h1,h2.step hb,h3⟩⟩
theorem Stored.below {g B : Nat} {W0 w w' : World} (hs : Stored g w w') (h : Below B W0 w) (hB : B ≤ g) : Below B W0 w' :=
 h.trans ⟨hs.os,hs.tape,hs.output,Nat.le_of_eq hs.size.symm,fun k hk=>hs.other k (by omega)⟩
theorem Reg.store {B : Nat} {W0 w w' : World} {G : List Nat} (h : Reg B W0 G w) {g : Nat} (hg : g ∈ G ∨ W0.heap.size ≤ g) (hB : B ≤ g) (hs : Stored g w w') : Reg B W0 G w':=by
 refine ⟨hs.below h.below hB,fun k hk hG=>(hs.other k fun e=>?_).trans (h.old k hk hG),fun j hj=>?_⟩
 · subst e; rcases hg with hg | hg
   · exact hG hg
   · omega
 · obtain ⟨cs0,cs,h1,h2,h3⟩:=h.held j hj
   by_cases e : j = g
   · subst e; obtain ⟨ds,ds',h4,h5,h6⟩:=hs.same
     have : ds.size = cs.size:=by
       obtain ⟨⟨T,e1⟩,_⟩:=h2; obtain ⟨⟨T',e2⟩,_⟩:=h4; rw [e1] at e2; injection e2 with e2; injection e2 with e2; rw [e2]
     exact ⟨cs0,ds',h1,h5,by omega⟩
   · obtain ⟨⟨T,e1⟩,e2⟩:=h2; exact ⟨cs0,cs,h1,⟨⟨T,(hs.other j e).trans e1⟩,e2⟩,h3⟩
theorem Reg.start {B : Nat} {W0 W : World} {G : List Nat} (h : ∀ g ∈ G,∃ cs,Holds_ W0 g cs) (hW : W = W0 ∨ W = W0.drew) : Reg B W0 G W:=by
 have hh : ∀ g ∈ G,∃ cs0 cs,Holds_ W0 g cs0 ∧ Holds_ W0 g cs ∧ cs.size = cs0.size:=fun g hg=>by
   obtain ⟨cs,h1⟩:=h g hg; exact ⟨cs,cs,h1,h1,rfl⟩
 rcases hW with rfl | rfl
 · exact ⟨Below.refl _ _,fun _ _ _=>rfl,hh⟩
 · exact ⟨(Below.refl _ _).drew,fun _ _ _=>rfl,hh⟩
theorem Reg.cell {B : Nat} {W0 w : World} {G : List Nat} (h : Reg B W0 G w) {b : Nat} (hb : b < W0.heap.size) (hG : b ∉ G) (o : Nat) : w.cell? ⟨b,o,none⟩ = W0.cell? ⟨b,o,none⟩ ∧ w.frozen? ⟨b,o,none⟩ = W0.frozen? ⟨b,o,none⟩ :=
 ⟨World.cell?_of_block (w:=W0) (h.old b hb hG),World.frozen?_of_block (w:=W0) (h.old b hb hG)⟩
theorem Reg.row {B : Nat} {W0 w : World} {G : List Nat} (h : Reg B W0 G w) {A : Option Addr} {ds : List Nat} (hr : Row W0 A (u32s ds)) : Row w A (u32s ds):=by
 intro j u hu
 obtain ⟨ad,e,hc⟩:=hr j u hu
 refine ⟨ad,e,?_⟩
 have hG : (ad.add j).block ∉ G:=fun hg=>by
   obtain ⟨cs0,_,⟨⟨T,h4⟩,h5⟩,_⟩:=h.held _ hg; obtain ⟨d,_,hd⟩:=List.mem_map.1 (List.mem_of_getElem? hu); simp only [World.cell?,h4] at hc; split at hc
   · cases hc
   · exact h5 u (Array.mem_of_getElem? hc) d hd.symm
 rw [World.cell?_of_block (h.old _ (cell_lt hc) hG)]
 exact hc
theorem Reg.two {B : Nat} {W0 w : World} {G : List Nat} (h : Reg B W0 G w) {g : Nat} (hg : g ∈ G) {a b : Value} (h2 : Holds_ W0 g #[a,b]) : ∃ u v,Holds_ w g #[u,v]:=by
 obtain ⟨cs0,cs,h3,h4,h5⟩:=h.held g hg
 have : cs0.size = 2:=by
   obtain ⟨⟨T,e1⟩,_⟩:=h2; obtain ⟨⟨T',e2⟩,_⟩:=h3; rw [e1] at e2; injection e2 with e2; injection e2 with e2; rw [← e2]; rfl
 obtain ⟨l⟩:=cs
 match l,h5 with
 | [u,v],_=>exact ⟨u,v,h4⟩
 | [],h5=>simp at h5; omega
 | [_],h5=>simp at h5; omega
 | _ :: _ :: _ :: _,h5=>simp at h5; omega
inductive PK where
 | p (f : Value → World → Prop) (hb : ∀ v w w',f v w → Below w.heap.size w w' → f v w') (hs : ∀ v w w' g,f v w → Stored g w w' → f v w')
 | cell (g : Nat) (f : Array Value → World → Prop) (hb : ∀ cs w w',f cs w → Below w.heap.size w w' → f cs w') (hs : ∀ cs w w' g,f cs w → Stored g w w' → f cs w')
 | fresh (n : Nat)
 | list (n : Nat) (f : Nat → World → Prop) (hb : ∀ g w w',f g w → Below w.heap.size w w' → f g w') (hs : ∀ g w w' g',f g w → Stored g' w w' → g ≠ g' → f g w')
 | put (e : Nat) (f : Array Value → World → Prop) (hb : ∀ cs w w',f cs w → Below w.heap.size w w' → f cs w') (hs : ∀ cs w w' g,f cs w → Stored g w w' → f cs w')
 | same (e : Nat)
def PK.sem (S0 : Nat) (x : Nat → Value) : PK → Value → World → Prop
 | .p f _ _,v,w=>f v w
 | .cell g f _ _,_,w=>∃ cs,Holds_ w g cs ∧ f cs w
 | .fresh n,v,w=>∃ g cs,v = .pointer (some ⟨g,0,none⟩) ∧ S0 ≤ g ∧ Holds_ w g cs ∧ cs.size = n
 | .list n f _ _,v,w=>∃ g,v = .slice (some ⟨g,0,none⟩) n n ∧ S0 ≤ g ∧ g < w.heap.size ∧ f g w
 | .put e f _ _,_,w=>∃ g cs,x e = .pointer (some ⟨g,0,none⟩) ∧ S0 ≤ g ∧ Holds_ w g cs ∧ f cs w
 | .same e,v,_=>v = x e
def PK.move (S0 : Nat) (x : Nat → Value) : PK → Value → World → World → Prop
 | .p ..,_,w,w'=>Below w.heap.size w w'
 | .cell g ..,_,w,w'=>Stored g w w'
 | .fresh _,v,w,w'=>Below w.heap.size w w' ∧ ∃ g,v = .pointer (some ⟨g,0,none⟩) ∧ w.heap.size ≤ g
 | .list n ..,v,w,w'=>Below w.heap.size w w' ∧ ∃ g,v = .slice (some ⟨g,0,none⟩) n n ∧ w.heap.size ≤ g
 | .put e ..,_,w,w'=>∃ g,x e = .pointer (some ⟨g,0,none⟩) ∧ S0 ≤ g ∧ Stored g w w'
 | .same _,_,w,w'=>Below w.heap.size w w'
def PK.blk : PK → Option Nat
 | .cell g ..=>some g
 | _=>none
def PK.into : PK → Option Nat
 | .put e ..=>some e
 | _=>none
def PK.ref : PK → Option Nat
 | .put e ..=>some e
 | .same e=>some e
 | _=>none
theorem PK.ref_of_into {c : PK} {e : Nat} (h : c.into = some e) : c.ref = some e:=by
 cases c <;> first | exact h | cases h
def PK.isFresh : PK → Bool
 | .fresh _=>true
 | _=>false
def PK.isNew : PK → Bool
 | .fresh _=>true
 | .list ..=>true
 | _=>false
theorem PK.new_of_fresh {c : PK} (h : c.isFresh = true) : c.isNew = true:=by
 cases c <;> first | rfl | cases h
def blockOf : Value → Option Nat
 | .pointer (some a)=>some a.block
 | .slice (some a) _ _=>some a.block
 | _=>none
theorem PK.step {c : PK} {S0 : Nat} {x : Nat → Value} {v : Value} {w w' : World} (h : c.sem S0 x v w) (hb : Below w.heap.size w w') : c.sem S0 x v w':=by
 cases c with
 | p f h1 h2=>exact h1 _ _ _ h hb
 | cell g f h1 h2 =>
   obtain ⟨cs,e1,e2⟩:=h; exact ⟨cs,e1.step hb,h1 _ _ _ e2 hb⟩
 | fresh n =>
   obtain ⟨g,cs,e1,e2,e3,e4⟩:=h; exact ⟨g,cs,e1,e2,e3.step hb,e4⟩
 | list n f h1 h2 =>
   obtain ⟨g,e1,e2,e3,e4⟩:=h; exact ⟨g,e1,e2,Nat.lt_of_lt_of_le e3 hb.size,h1 _ _ _ e4 hb⟩
 | put e f h1 h2 =>
   obtain ⟨g,cs,e1,e2,e3,e4⟩:=h; exact ⟨g,cs,e1,e2,e3.step hb,h1 _ _ _ e4 hb⟩
 | same e=>exact h
theorem Holds_.stored {w w' : World} {g g' : Nat} {cs : Array Value} (h : Holds_ w g cs) (hs : Stored g' w w') (hne : g ≠ g') : Holds_ w' g cs:=by
 obtain ⟨⟨T,h1⟩,h2⟩:=h
 exact ⟨⟨T,(hs.other g hne).trans h1⟩,h2⟩
theorem Holds_.size_eq {w : World} {g : Nat} {cs ds : Array Value} (h : Holds_ w g cs) (h' : Holds_ w g ds) : cs = ds:=by
 obtain ⟨⟨T,e1⟩,_⟩:=h
 obtain ⟨⟨T',e2⟩,_⟩:=h'
 rw [e1] at e2
 injection e2 with e2
 injection e2 with e2
theorem PK.store {c : PK} {S0 : Nat} {x : Nat → Value} {v : Value} {w w' : World} {g : Nat} (h : c.sem S0 x v w) (hs : Stored g w w') (h1 : c.blk ≠ some g) (h2 : ∀ e,c.into = some e → x e ≠ .pointer (some ⟨g,0,none⟩)) (h3 : c.isFresh = false → c.isNew = true → blockOf v ≠ some g) : c.sem S0 x v w':=by
 cases c with
 | p f k1 k2=>exact k2 _ _ _ _ h hs
 | cell g' f k1 k2 =>
   obtain ⟨cs,e1,e2⟩:=h; exact ⟨cs,e1.stored hs fun e=>h1 (by rw [← e]; rfl),k2 _ _ _ _ e2 hs⟩
 | fresh n =>
   obtain ⟨g',cs,e1,e2,e3,e4⟩:=h
   by_cases e : g' = g
   · subst e; obtain ⟨ds,ds',f1,f2,f3⟩:=hs.same; exact ⟨g',ds',e1,e2,f2,by rw [f3,← e3.size_eq f1,e4]⟩
   · exact ⟨g',cs,e1,e2,e3.stored hs e,e4⟩
 | list n f k1 k2 =>
   obtain ⟨g',e1,e2,e3,e4⟩:=h; exact ⟨g',e1,e2,by rw [hs.size]; exact e3,k2 _ _ _ _ e4 hs fun e5=>h3 rfl rfl (by rw [e1,e5]; rfl)⟩
 | put e f k1 k2 =>
   obtain ⟨g',cs,e1,e2,e3,e4⟩:=h; exact ⟨g',cs,e1,e2,e3.stored hs fun e5=>h2 e rfl (by rw [e1,e5]),k2 _ _ _ _ e4 hs⟩
 | same e=>exact h
theorem PK.sem_upd {c : PK} {S0 : Nat} {x : Nat → Value} {v u : Value} {w : World} {i : Nat} (h : c.sem S0 x v w) (hi : ∀ e,c.ref = some e → e ≠ i) : c.sem S0 (upd x i u) v w:=by
 cases c with
 | put e f k1 k2 =>
   obtain ⟨g,cs,e1,e2⟩:=h; exact ⟨g,cs,by rw [cg _ _ (hi e rfl)]; exact e1,e2⟩
 | same e =>
   show v = upd x i u e
   rw [cg _ _ (hi e rfl)]; exact h
 | _=>exact h
def kAny : PK:=.p (fun _ _=>True) (fun _ _ _ _ _=>trivial) (fun _ _ _ _ _ _=>trivial)
def kIs (V : Value) : PK:=.p (fun v _=>v = V) (fun _ _ _ h _=>h) (fun _ _ _ _ h _=>h)
def blks (ks : List PK) : List Nat:=ks.filterMap PK.blk
def at_ (ks : List PK) (i : Nat) : PK:=ks.getD i kAny
theorem blk_mem {ks : List PK} {i g : Nat} (hi : (at_ ks i).blk = some g) : g ∈ blks ks:=by
 unfold at_ at hi
 rcases Nat.lt_or_ge i ks.length with hl | hl
 · rw [List.getD_eq_getElem?_getD,List.getElem?_eq_getElem hl] at hi; exact List.mem_filterMap.2 ⟨_,List.getElem_mem hl,hi⟩
 · rw [List.getD_eq_getElem?_getD,List.getElem?_eq_none hl] at hi; simp [kAny,PK.blk] at hi
theorem blk_inj {ks : List PK} (h : (blks ks).Nodup) {i j g : Nat} (hi : (at_ ks i).blk = some g) (hj : (at_ ks j).blk = some g) : i = j:=by
 induction ks generalizing i j with
 | nil=>simp [at_,kAny,PK.blk] at hi
 | cons c ks ih =>
   have hn : (blks ks).Nodup:=by
     unfold blks at h ⊢; rw [List.filterMap_cons] at h; split at h
     · exact h
     · exact (List.nodup_cons.1 h).2
   cases i with
   | zero =>
     cases j with
     | zero=>rfl
     | succ j =>
       have hi' : c.blk = some g:=hi; have : blks (c :: ks) = g :: blks ks:=by simp [blks,hi']
       rw [this] at h; exact absurd (blk_mem (ks:=ks) (i:=j) hj) (List.nodup_cons.1 h).1
   | succ i =>
     cases j with
     | zero =>
       have hj' : c.blk = some g:=hj; have : blks (c :: ks) = g :: blks ks:=by simp [blks,hj']
       rw [this] at h; exact absurd (blk_mem (ks:=ks) (i:=i) hi) (List.nodup_cons.1 h).1
     | succ j=>rw [ih hn (i:=i) (j:=j) hi hj]
def codesOK (ks : List PK) (es : List (List (Nat × Option Tmp))) : Bool :=
 (List.range ks.length).all fun i => (match (at_ ks i).into with
   | none=>true
   | some e=>(at_ ks e).isFresh && (es.getD i []).any (fun p=>decide (p.1 = e)) && (List.range ks.length).all fun j=>decide (i = j) || decide ((at_ ks j).into ≠ some e)) && match (at_ ks i).ref with
   | none=>true
   | some e=>(es.getD i []).any fun p=>decide (p.1 = e)
def deps (S0 : Nat) (ks : List PK) (x : Nat → Value) (w : World) : List (Nat × Option Tmp) → Prop → Prop
 | [],G=>G
 | p :: r,G=>(at_ ks p.1).sem S0 x (x p.1) w → deps S0 ks x w r G
theorem deps_use {S0 : Nat} {ks : List PK} {x : Nat → Value} {w : World} {G : Prop} : ∀ es : List (Nat × Option Tmp), (∀ p ∈ es, (at_ ks p.1).sem S0 x (x p.1) w) → deps S0 ks x w es G → G
 | [],_,h=>h
 | p :: r,hp,h=>deps_use r (fun q hq=>hp q (List.mem_cons_of_mem _ hq)) (h (hp p List.mem_cons_self))
def PkStep (P : Program) (C : World → Prop) (S0 : Nat) (ks : List PK) (a0 : Act) (i : Nat) (o : Oper) (es : List (Nat × Option Tmp)) : Prop :=
 ∀ w x, C w → deps S0 ks x w es (∀ K : Value → World → Prop, (∀ v w', (at_ ks i).move S0 x v w w' → (at_ ks i).sem S0 x v w' → K v w') →
   o.wp P (putE x a0 es) w (fun a' w'=>a'.defers = (putE x a0 es).defers ∧ K (retOf o.dst a') w') (fun _ _ _=>False))
def PkFrom (P : Program) (ops : Array Oper) (es : List (List (Nat × Option Tmp))) (sk : List Nat) (C : World → Prop) (S0 : Nat) (ks : List PK) (a0 : Act) (i : Nat) : Prop :=
 ∀ j o,i ≤ j → ops[j]? = some o → sk.contains j = false → PkStep P C S0 ks a0 j o (es.getD j [])
theorem aa {P : Program} {ops : Array Oper} {es : List (List (Nat × Option Tmp))} {sk : List Nat} {C : World → Prop} {S0 : Nat} {ks : List PK} {a0 : Act} {i : Nat} {o : Oper} {e : List (Nat × Option Tmp)} (ho : ops[i]? = some o) (he : es.getD i [] = e)
   (h : PkStep P C S0 ks a0 i o e) (hr : PkFrom P ops es sk C S0 ks a0 (i + 1)) : PkFrom P ops es sk C S0 ks a0 i:=fun j o' hj ho' hs=>by
 by_cases e : j = i
 · subst e; rw [ho] at ho'; injection ho' with ho'; subst ho'; rw [he]; exact h
 · exact hr j o' (by omega) ho' hs
theorem ah {P : Program} {ops : Array Oper} {es : List (List (Nat × Option Tmp))} {sk : List Nat} {C : World → Prop} {S0 : Nat} {ks : List PK} {a0 : Act} {i : Nat} (h : sk.contains i = true) (hr : PkFrom P ops es sk C S0 ks a0 (i + 1)) : PkFrom P ops es sk C S0 ks a0 i:=fun j o' hj ho' hs=>by
 by_cases e : j = i
 · subst e; rw [h] at hs; cases hs
 · exact hr j o' (by omega) ho' hs
theorem ag {P : Program} {ops : Array Oper} {es : List (List (Nat × Option Tmp))} {sk : List Nat} {C : World → Prop} {S0 : Nat} {ks : List PK} {a0 : Act} {i : Nat} (h : ops.size = i) : PkFrom P ops es sk C S0 ks a0 i:=fun j o hj ho _=>by
 have:=(Array.getElem?_eq_some_iff.1 ho).1
 omega
def guardOK (ops : Array Oper) (bs : List (Nat × Bool)) (sk : List Nat) : Bool :=
 (List.range ops.size).all fun i => match ops[i]? with
   | none=>true
   | some o => match o.guard with
     | none=>true
     | some g=>(bs.any fun p=>decide (p.1 = g.1) && decide (g.1 < ops.size) && ((p.2 == g.2) == !sk.contains i)) || (decide (g.1 < ops.size) && sk.contains g.1 && sk.contains i)
theorem az {P : Program} {id : Nat} {draw : Bool} {ops : Array Oper} {Q : Exit → Act → World → Prop} {a0 : Act} {W0 : World} (B : Nat) (ks : List PK) (es : List (List (Nat × Option Tmp))) (all : List (Nat × Option Tmp)) (bs : List (Nat × Bool)) (sk : List Nat)      
   (hn : (blks ks).Nodup) (hB : ∀ g ∈ blks ks,B ≤ g) (hB0 : B ≤ W0.heap.size) (ht : ∀ g ∈ blks ks,∃ cs,Holds_ W0 g cs)
   (hs : PkFrom P ops es sk (Reg B W0 (blks ks)) W0.heap.size ks a0 0) (hend : ∀ w' x,Reg B W0 (blks ks) w' → (∀ i,i < ops.size → (at_ ks i).sem W0.heap.size x (x i) w') → Q .normal (putE x a0 all) w') (hm : P.follows .mixedOrders = true:=by kernel_rfl) (hchk : growOK ops (fun i=>!sk.contains i) es all a0.tmps.size = true:=by kernel_rfl) (hk : codesOK ks es = true:=by kernel_rfl) (hgu : guardOK ops bs sk = true:=by kernel_rfl) (hbs : bs.map (fun p=>at_ ks p.1) = bs.map fun p=>kIs (.bool p.2):=by kernel_rfl) (hsk : sk.map (at_ ks) = sk.map fun _=>kIs undef:=by kernel_rfl) : (Code.region id ops draw).wp P Q a0 W0:=by
 have hchk':=hchk
 unfold growOK at hchk'
 simp only [Bool.and_eq_true,decide_eq_true_eq] at hchk'
 have hall:=hchk'.1.1.1
 have hops:=hchk'.2
 have hlt : ∀ i o,ops[i]? = some o → ∀ p ∈ es.getD i [],p.1 < ops.size:=fun i o ho p hp=>by
   have hl : i < ops.size:=(Array.getElem?_eq_some_iff.1 ho).1; have h:=List.all_eq_true.1 hops i (List.mem_range.2 hl); rw [ho] at h; simp only [Bool.and_eq_true] at h; have:=List.all_eq_true.1 h.1.2 p hp; simp only [Bool.and_eq_true,decide_eq_true_eq] at this; exact this.1.2
 have hinto : ∀ i e,(at_ ks i).into = some e → i < ks.length ∧ (at_ ks e).isFresh = true ∧ (∃ p ∈ es.getD i [],p.1 = e) ∧ ∀ j,i ≠ j → (at_ ks j).into ≠ some e:=fun i e hi=>by
   have hl : i < ks.length:=by
     rcases Nat.lt_or_ge i ks.length with h | h
     · exact h
     · unfold at_ at hi; rw [List.getD_eq_getElem?_getD,List.getElem?_eq_none h] at hi; simp [kAny,PK.into] at hi
   have h:=List.all_eq_true.1 hk i (List.mem_range.2 hl); rw [hi] at h; simp only [Bool.and_eq_true] at h; obtain ⟨⟨⟨h1,h2⟩,h3⟩,_⟩:=h; refine ⟨hl,h1,?_,fun j hj hj2=>?_⟩
   · obtain ⟨p,hp,hh⟩:=List.any_eq_true.1 h2; exact ⟨p,hp,of_decide_eq_true hh⟩
   · have hlj : j < ks.length:=by
       rcases Nat.lt_or_ge j ks.length with h | h
       · exact h
       · unfold at_ at hj2; rw [List.getD_eq_getElem?_getD,List.getElem?_eq_none h] at hj2; simp [kAny,PK.into] at hj2
     have:=List.all_eq_true.1 h3 j (List.mem_range.2 hlj); simp [hj,hj2] at this
 have href : ∀ i e,(at_ ks i).ref = some e → ∃ p ∈ es.getD i [],p.1 = e:=fun i e hi=>by
   have hl : i < ks.length:=by
     rcases Nat.lt_or_ge i ks.length with h | h
     · exact h
     · unfold at_ at hi; rw [List.getD_eq_getElem?_getD,List.getElem?_eq_none h] at hi; simp [kAny,PK.ref] at hi
   have h:=List.all_eq_true.1 hk i (List.mem_range.2 hl); simp only [Bool.and_eq_true,hi] at h; obtain ⟨p,hp,hh⟩:=List.any_eq_true.1 h.2; exact ⟨p,hp,of_decide_eq_true hh⟩
 obtain ⟨Inv,hInv⟩ : ∃ Inv : (Nat → Bool) → (Nat → Value) → World → Prop,Inv = fun L x w=>Reg B W0 (blks ks) w ∧ (∀ i,i < ops.size → L i = true → (at_ ks i).sem W0.heap.size x (x i) w) ∧ (∀ i j,i < ops.size → j < ops.size → i ≠ j → L i = true → L j = true → (at_ ks i).isNew = true → (at_ ks j).isNew = true → blockOf (x i) ≠ blockOf (x j)) ∧ ∀ i e,i < ops.size → L i = true → (at_ ks i).ref = some e → e < ops.size ∧ L e = true:=⟨_,rfl⟩
 have hgo : ∀ i,i < ops.size → ∀ L x w,Inv L x w → L i = false → (∀ e,(at_ ks i).ref = some e → e < ops.size ∧ L e = true) → ∀ v w',(at_ ks i).move W0.heap.size x v w w' → (at_ ks i).sem W0.heap.size x v w' → Inv (upd L i true) (upd x i v) w':=by
   intro i hil L x w hI hi hin v w' h1 h2; rw [hInv] at hI ⊢
   have hintoi : ∀ j e,j < ops.size → L j = true → (at_ ks j).ref = some e → e ≠ i:=fun j e hj hLj he hei=>by
     have:=(hI.2.2.2 j e hj hLj he).2; rw [hei,hi] at this; cases this
   have hintoii : ∀ e,(at_ ks i).ref = some e → e ≠ i:=fun e he hei=>by
     have:=(hin e he).2; rw [hei,hi] at this; cases this
   -- the class
   have hR : Reg B W0 (blks ks) w':=by
     cases e : at_ ks i with
     | p f k1 k2=>rw [e] at h1; exact hI.1.step hB0 h1
     | fresh n=>rw [e] at h1; exact hI.1.step hB0 h1.1
     | list n f k1 k2=>rw [e] at h1; exact hI.1.step hB0 h1.1
     | same e1=>rw [e] at h1; exact hI.1.step hB0 h1
     | cell g f k1 k2 =>
       rw [e] at h1; have hg : g ∈ blks ks:=blk_mem (i:=i) (by rw [e]; rfl); exact hI.1.store (.inl hg) (hB g hg) h1
     | put n f k1 k2 =>
       rw [e] at h1; obtain ⟨g,_,hg,hst⟩:=h1; exact hI.1.store (.inr hg) (by omega) hst
   have hkeep : ∀ j,j < ops.size → L j = true → (at_ ks j).sem W0.heap.size x (x j) w':=fun j hj hLj=>by
     have hij : i ≠ j:=fun hh=>by rw [hh,hLj] at hi; cases hi
     have hsem:=hI.2.1 j hj hLj
     cases e : at_ ks i with
     | p f k1 k2=>rw [e] at h1; exact PK.step hsem h1
     | fresh n=>rw [e] at h1; exact PK.step hsem h1.1
     | list n f k1 k2=>rw [e] at h1; exact PK.step hsem h1.1
     | same e1=>rw [e] at h1; exact PK.step hsem h1
     | cell g f k1 k2 =>
       rw [e] at h1
       have hgl : g < W0.heap.size:=by
         obtain ⟨cs,hh⟩:=ht g (blk_mem (i:=i) (by rw [e]; rfl)); exact hh.lt
       refine PK.store hsem h1 (fun hb=>hij (blk_inj hn (i:=i) (j:=j) (g:=g) (by rw [e]; rfl) hb)) (fun e2 he2 hx=>?_) fun hf hnw hbl=>?_
       rotate_left 1
       · cases ej : at_ ks j with
         | list n3 f3 k3 k4 =>
           rw [ej] at hsem; obtain ⟨g',q1,q2,_⟩:=hsem; rw [q1] at hbl; injection hbl with hbl; have : g' = g:=hbl; omega
         | fresh n=>rw [ej] at hf; cases hf
         | _=>rw [ej] at hnw; cases hnw
       cases ej : at_ ks j with
       | put e3 f3 k3 k4 =>
         rw [ej] at hsem he2; obtain ⟨g',_,q1,q2,_⟩:=hsem; injection he2 with he2; subst he2; rw [q1] at hx; injection hx with hx; injection hx with hx; injection hx with hx; omega
       | _=>rw [ej] at he2; cases he2
     | put e1 f k1 k2 =>
       rw [e] at h1; obtain ⟨g,hxe,hg,hst⟩:=h1; obtain ⟨_,q1,_,q3⟩:=hinto i e1 (by rw [e]; rfl); obtain ⟨he1l,hLe1⟩:=hin e1 (by rw [e]; rfl); refine PK.store hsem hst (fun hb=>?_) (fun e2 he2 hx=>?_) fun hf hnw hbl=>?_
       · obtain ⟨cs,hh⟩:=ht g (blk_mem hb); have:=hh.lt; omega
       rotate_left 1
       · have hne : e1 ≠ j:=fun hh=>by rw [← hh,q1] at hf; cases hf
         exact hI.2.2.1 e1 j he1l hj hne hLe1 hLj (PK.new_of_fresh q1) hnw (by rw [hxe,hbl]; rfl)
       ·
         have hne : e1 ≠ e2:=fun hh=>q3 j hij (hh ▸ he2); have q4:=hinto j e2 he2; have q5:=hI.2.2.2 j e2 hj hLj (PK.ref_of_into he2); exact hI.2.2.1 e1 e2 he1l q5.1 hne hLe1 q5.2 (PK.new_of_fresh q1) (PK.new_of_fresh q4.2.1) (by rw [hxe,hx])
   refine ⟨hR,fun j hj hLj=>?_,fun j k hj hk' hjk hLj hLk hfj hfk=>?_,fun j e hj hLj he=>?_⟩
   · by_cases e : j = i
     · subst e; rw [db]; exact PK.sem_upd h2 hintoii
     · rw [cg _ _ e] at hLj; rw [cg _ _ e]; exact PK.sem_upd (hkeep j hj hLj) fun e2 he2=>hintoi j e2 hj hLj he2
   · have old : ∀ k,k < ops.size → L k = true → (at_ ks k).isNew = true → ∃ g',blockOf (x k) = some g' ∧ g' < w.heap.size:=fun k hkl hLk hfk=>by
       have hsem:=hI.2.1 k hkl hLk
       cases e2 : at_ ks k with
       | fresh m =>
         rw [e2] at hsem; obtain ⟨g',cs,q1,_,q3,_⟩:=hsem; exact ⟨g',by rw [q1]; rfl,q3.lt⟩
       | list m f3 k3 k4 =>
         rw [e2] at hsem; obtain ⟨g',q1,_,q3,_⟩:=hsem; exact ⟨g',by rw [q1]; rfl,q3⟩
       | _=>rw [e2] at hfk; cases hfk
     have new : (at_ ks i).isNew = true → ∃ g',blockOf v = some g' ∧ w.heap.size ≤ g':=fun hfi=>by
       cases e1 : at_ ks i with
       | fresh n =>
         rw [e1] at h1; obtain ⟨_,g,hg,hgs⟩:=h1; exact ⟨g,by rw [hg]; rfl,hgs⟩
       | list n f3 k3 k4 =>
         rw [e1] at h1; obtain ⟨_,g,hg,hgs⟩:=h1; exact ⟨g,by rw [hg]; rfl,hgs⟩
       | _=>rw [e1] at hfi; cases hfi
     have fr : ∀ k,k ≠ i → k < ops.size → L k = true → (at_ ks k).isNew = true → (at_ ks i).isNew = true → blockOf v ≠ blockOf (x k):=fun k _ hkl hLk hfk hfi hv=>by
       obtain ⟨g',q1,q2⟩:=old k hkl hLk hfk; obtain ⟨g,q3,q4⟩:=new hfi; rw [q1,q3] at hv; injection hv with hv; omega
     by_cases e : j = i
     · subst e; rw [db,cg _ _ (fun h=>hjk h.symm)]; rw [cg _ _ (fun h=>hjk h.symm)] at hLk; exact fr k (fun h=>hjk h.symm) hk' hLk hfk hfj
     · rw [cg _ _ e] at hLj ⊢
       by_cases e' : k = i
       · subst e'; rw [db]; exact fun h=>fr j e hj hLj hfj hfk h.symm
       · rw [cg _ _ e'] at hLk ⊢; exact hI.2.2.1 j k hj hk' hjk hLj hLk hfj hfk
   · by_cases e' : j = i
     · subst e'; refine ⟨(hin e he).1,?_⟩; rw [cg _ _ (hintoii e he)]; exact (hin e he).2
     · rw [cg _ _ e'] at hLj; have q:=hI.2.2.2 j e hj hLj he; refine ⟨q.1,?_⟩; rw [cg _ _ (hintoi j e hj hLj he)]; exact q.2
 refine wp_region_grow hm Inv (fun i=>!sk.contains i) es all hchk ?_ (fun i o g ho hg L x w hI hL=>?_) (fun i hil hWi L x w hI hi=>?_) (fun i o ho hW L x w hI hi hd K hK=>?_) (fun L x w' hL hI=>?_)
 · intro W' hW'; rw [hInv]; exact ⟨Reg.start ht hW',fun i hi h=>absurd (of_decide_eq_true h) (by omega),fun i _ hi _ _ h=>absurd (of_decide_eq_true h) (by omega),fun i _ hi h=>absurd (of_decide_eq_true h) (by omega)⟩
 · rw [hInv] at hI; have hil : i < ops.size:=(Array.getElem?_eq_some_iff.1 ho).1; have h:=List.all_eq_true.1 hgu i (List.mem_range.2 hil); rw [ho] at h; simp only [hg,Bool.or_eq_true] at h; rcases h with h | h
   · obtain ⟨p,hp,hh⟩:=List.any_eq_true.1 h; simp only [Bool.and_eq_true,decide_eq_true_eq,beq_iff_eq] at hh; obtain ⟨⟨h1,h2⟩,h3⟩:=hh; have hs1:=hI.2.1 g.1 h2 hL
     have hk1 : at_ ks g.1 = kIs (.bool p.2):=by
       rw [← h1]; exact List.map_inj_left.1 hbs p hp
     rw [hk1] at hs1; exact .inl ⟨p.2,hs1,h3⟩
   · simp only [Bool.and_eq_true,decide_eq_true_eq] at h; obtain ⟨⟨h1,h2⟩,h3⟩:=h; have hs1:=hI.2.1 g.1 h1 hL; have hk1 : at_ ks g.1 = kIs undef:=List.map_inj_left.1 hsk g.1 (by simpa using h2); rw [hk1] at hs1; exact .inr ⟨hs1,by rw [h3]; rfl⟩
 · have hm : i ∈ sk:=by simpa using hWi
   have hk1 : at_ ks i = kIs undef:=List.map_inj_left.1 hsk i hm; exact hgo i hil L x w hI hi (fun e he=>by rw [hk1] at he; cases he) undef w (by rw [hk1]; exact Below.refl _ _) (by rw [hk1]; rfl)
 · have hil : i < ops.size:=(Array.getElem?_eq_some_iff.1 ho).1; have hI':=hI; rw [hInv] at hI'; refine deps_use (es.getD i []) (fun p hp=>hI'.2.1 p.1 (hlt i o ho p hp) (hd p hp)) (hs i o (Nat.zero_le _) ho (by simpa using hW) w x hI'.1) K fun v w' h1 h2=>hK v w' (hgo i hil L x w hI hi (fun e he=>?_) v w' h1 h2); obtain ⟨p,hp,hpe⟩:=href i e he; exact ⟨hpe ▸ hlt i o ho p hp,hpe ▸ hd p hp⟩
 · rw [hInv] at hI; exact hend w' x hI.1 fun i hi=>hI.2.1 i hi (hL i hi)
theorem lt_alloc (w : World) (o : Obj) : w.heap.size < (w.alloc o).heap.size:=by rw [World.size_alloc]; exact Nat.lt_succ_self _
theorem new_succ (w : World) (o o' : Obj) : ((w.alloc o').alloc o).heap[w.heap.size + 1]? = some o:=new_at (by rw [World.size_alloc])
def RetQR (w : World) (q r : Nat) (e : Ending) (w' : World) : Prop:=∃ v u,e = .returned (.tuple #[v,u,.bool true]) ∧ IsNat w' w.heap.size v q ∧ IsNat w' w.heap.size u r ∧ Below w.heap.size w w'
def kOwnN (B n : Nat) : PK:=.p (fun v w=>∃ (rs : List Nat) (A : Option Addr) (c : Nat),v = .agg #[.slice A rs.length c] ∧ right rs ∧ val rs = n ∧ Own w B 88 (.slice A rs.length c) (u32s rs)) (fun _ _ _ ⟨rs,A,c,e,h1,h2,h3⟩ hb=>⟨rs,A,c,e,h1,h2,h3.below hb⟩) (fun _ _ _ _ ⟨rs,A,c,e,h1,h2,h3⟩ hs=>⟨rs,A,c,e,h1,h2,h3.stored hs⟩)
def kNat1 (B n : Nat) : PK:=.p (fun v w=>∃ A k c,v = .agg #[.slice A k c] ∧ IsNat w B (.slice A k c) n) (fun _ _ _ ⟨A,k,c,e,h⟩ hb=>⟨A,k,c,e,h.below hb⟩) (fun _ _ _ _ ⟨A,k,c,e,h⟩ hs=>⟨A,k,c,e,h.stored hs⟩)
def kNat2 (B n m : Nat) : PK:=.p (fun v w=>∃ A k c A' k' c',v = .tuple #[.agg #[.slice A k c],.agg #[.slice A' k' c']] ∧ IsNat w B (.slice A k c) n ∧ IsNat w B (.slice A' k' c') m) (fun _ _ _ ⟨A,k,c,A',k',c',e,h,h'⟩ hb=>⟨A,k,c,A',k',c',e,h.below hb,h'.below hb⟩) (fun _ _ _ _ ⟨A,k,c,A',k',c',e,h,h'⟩ hs=>⟨A,k,c,A',k',c',e,h.stored hs,h'.stored hs⟩)
def kPutN1 (e B n : Nat) : PK:=.put e (fun cs w=>∃ A k c,cs = #[.slice A k c] ∧ IsNat w B (.slice A k c) n) (fun _ _ _ ⟨A,k,c,e,h⟩ hb=>⟨A,k,c,e,h.below hb⟩) (fun _ _ _ _ ⟨A,k,c,e,h⟩ hs=>⟨A,k,c,e,h.stored hs⟩)
theorem size_one {cs : Array Value} (h : cs.size = 1) : ∃ u,cs = #[u]:=by
 obtain ⟨l⟩:=cs
 match l,h with
 | [u],_=>exact ⟨u,rfl⟩
 | [],h=>simp at h
 | _ :: _ :: _,h=>simp at h
theorem holds_new1 (w : World) {u : Value} (hu : noDig u) (T : TypeId) : Holds_ (w.alloc (.cells #[u] T)) w.heap.size #[u] :=
 ⟨⟨T,heap_alloc_new _ _⟩,fun y hy=>by rw [List.mem_singleton.1 (by simpa using hy : y ∈ [u])]; exact hu⟩
theorem divMod_yes {w : World} {A1 A2 : Option Addr} {c1 c2 : Nat} {xs ys : List Nat} (hr1 : Row w A1 (u32s xs)) (hr2 : Row w A2 (u32s ys)) (hx : small 4294967296 xs) (hy : small 4294967296 ys) (hl1 : xs.length ≤ 10000) (hl2 : ys.length ≤ 10000) (h0 : 0 < val ys) (hL : val ys < 1000000000 ∨ LongSpec) :
   Calls Tryz.prog 155 #[.slice A1 xs.length c1,.slice A2 ys.length c2] w (RetQR w (val xs / val ys) (val xs % val ys)):=by
 have H0:=Lib.hid h0
 have HL:=Lib.hid hL
 clear h0 hL
 go_enter Tryz.func155,Tryz.ntmps155
 go_wp2_with fail
 refine (of_any hr2 hy (by omega)).mono ?_
 rintro e w2 ⟨v2,rfl,⟨zs,hz,hzv,hzo⟩,hb2⟩
 have hzne : zs ≠ []:=fun e=>by
   subst e; have:=H0.out; rw [← hzv] at this; simp [val] at this
 have hz0 : ((zs.length : Int) == 0) = false:=by
   rw [beq_eq_false_iff_ne]; intro h; exact hzne (List.eq_nil_of_length_eq_zero (by omega))
 have HZ1 : Hid (zs.length = 1 ∨ LongSpec):=by
   rcases HL.out with h | h
   · left; have h1:=right_length_le hz (k:=1) (by rw [hzv]; simpa using h); have h2 : zs.length ≠ 0:=fun e=>hzne (List.eq_nil_of_length_eq_zero e); omega
   · exact .inr h
 have HZN:=Lib.hid hzne
 clear hzne
 obtain ⟨A3,c3,rfl,_⟩:=hzo.slice32
 go_wp2_with (go_at_call 167; refine (none_any _ _ _ _).mono ?_; rintro e w' ⟨rfl,rfl⟩)
 obtain ⟨W,hW⟩ : ∃ W,W = w2.alloc (Obj.cells #[Value.slice A3 zs.length c3] 137):=⟨_,rfl⟩
 have bW : Below w.heap.size w W:=by rw [hW]; exact hb2.alloc hb2.size _
 have sW : W.heap.size = w2.heap.size + 1:=by rw [hW]; simp
 have kW : W.heap[w2.heap.size]? = some (Obj.cells #[Value.slice A3 zs.length c3] 137):=by rw [hW]; exact heap_alloc_new _ _
 have zW : Row W A3 (u32s zs):=by rw [hW]; exact hzo.row32.alloc _
 rw [← hW]
 have s2:=hb2.size
 have HW:=Lib.hid hW
 have SW:=Lib.hid sW
 have KW:=Lib.hid kW
 have cW:=cell_of_one kW
 clear hW sW kW hb2 hzo
 have hl2a : w2.heap.size < W.heap.size:=by rw [SW.out]; omega
 have zWR : Row W A3 (u32s zs):=zW
 have hof:=fun (wr : World) (hb : Below w.heap.size W wr)=>of_any (w:=wr) (c:=c1) (hr1.below (bW.trans hb)) hx (by omega)
 have HOF:=Lib.hid hof
 have HDV:=Lib.hid (show (right zs ∧ zs ≠ [] ∧ val zs = val ys) from ⟨hz,HZN.out,hzv⟩)
 have HXS:=Lib.hid (show val xs < 1000000000 ^ (xs.length + 1) ∧ xs.length ≤ 10000 from ⟨val_lt32 hx,hl1⟩)
 have HZ3:=Lib.hid zWR
 have HBW:=Lib.hid bW
 obtain ⟨Q,hQ⟩ : ∃ Q,Q = val xs / val ys:=⟨_,rfl⟩
 obtain ⟨R,hR⟩ : ∃ R,R = val xs % val ys:=⟨_,rfl⟩
 rw [← hQ,← hR]
 have HQR:=Lib.hid (show Q = val xs / val ys ∧ R = val xs % val ys from ⟨hQ,hR⟩)
 have hwW : w.heap.size ≤ W.heap.size:=bW.size
 clear hof bW zW zWR hr1 hr2 hx hy hl1 hl2 hz hzv hQ hR
 go_simp
 refine az (w.heap.size) [kIs (.slice A1 xs.length c1),kOwnN w.heap.size (val xs),kIs (.agg #[.slice A3 zs.length c3]),kNat2 w.heap.size Q R,kNat2 w.heap.size Q R,kNat1 w.heap.size Q,kNat1 w.heap.size R,.fresh 1,.fresh 1,kPutN1 7 w.heap.size Q,kPutN1 8 w.heap.size R] [ [],[(0,some 16)],[],[(1,some 17),(2,some 18)],[(3,some 19)],[(4,some 15)],[(4,some 15)],[],[],[(7,some 8),(5,some 20)],[(8,some 9),(6,some 21)] ] [(0,some 16),(1,some 17),(2,some 18),(3,some 19),(4,some 15),(5,some 20),(6,some 21),(7,some 8),(8,some 9),(9,none),(10,none)] [] [] ?n1 ?n2 hwW ?n4 ?st ?en
 case n1=>show List.Nodup ([] : List Nat); simp
 case n2=>show ∀ g ∈ ([] : List Nat),_; intro g hg; cases hg
 case n4 =>
   show ∀ g ∈ ([] : List Nat),∃ cs,Holds_ _ g cs
   intro g hg
   cases hg
 case st =>
   refine aa rfl rfl ?_ ?_
   · intro wr x hC; simp only [deps,at_,List.getD_cons_zero,PK.sem,PK.move,kIs]; intro K hK; simp only [putE,retOf]
     go_simp
     exact hK _ _ (Below.refl _ _) rfl
   refine aa rfl rfl ?_ ?_
   · intro wr x hC; simp only [deps,at_,List.getD_cons_zero,List.getD_cons_succ,PK.sem,PK.move,kIs,kOwnN]; intro hA; intro K hK; simp only [putE,retOf,hA]
     go_simp
     refine (HOF.out _ hC.below).mono ?_; rintro e w4 ⟨v4,rfl,⟨ts,ht,htv,hto⟩,hb4⟩; obtain ⟨A4,c4,rfl,_⟩:=hto.slice32
     go_simp
     exact hK _ _ hb4 ⟨ts,A4,c4,rfl,ht,htv,hto.mono (Nat.le_trans hwW hC.below.size)⟩
   refine aa rfl rfl ?_ ?_
   · intro wr x hC; simp only [deps,at_,List.getD_cons_zero,List.getD_cons_succ,PK.sem,PK.move,kIs]; intro K hK; have hce:=(hC.cell (b:=w2.heap.size) hl2a (show _ ∉ ([] : List Nat) by simp) 0).1.trans cW; simp only [putE,retOf]
     go_simp
     exact hK _ _ (Below.refl _ _) rfl
   refine aa rfl rfl ?_ ?_
   · intro wr x hC; simp only [deps,at_,List.getD_cons_zero,List.getD_cons_succ,PK.sem,PK.move,kIs,kOwnN,kNat2]; intro hA hB; intro K hK; obtain ⟨ts,A4,c4,hx,ht,htv,hto⟩:=hA; simp only [putE,retOf,hx,hB]
     go_simp
     have hbz:=Nat.le_trans hwW hC.below.size; have hRow:=hC.row HZ3.out; have hlt : ts.length ≤ 100000:=Nat.le_trans (right_length_le ht (by rw [htv]; exact HXS.out.1)) (by have:=HXS.out.2; omega); refine (divide_any (B0:=w.heap.size) hto hbz hRow ht HDV.out.1 HDV.out.2.1 hlt HZ1.out).mono ?_; rintro e w5 ⟨vq,vr,rfl,hvq,hvr,hb5⟩; obtain ⟨Aq,nq,cq,rfl⟩:=hvq.shape; obtain ⟨Ar,nr,cr,rfl⟩:=hvr.shape; rw [htv,HDV.out.2.2,← HQR.out.1] at hvq; rw [htv,HDV.out.2.2,← HQR.out.2] at hvr
     go_simp
     exact hK _ _ hb5 ⟨_,_,_,_,_,_,rfl,hvq,hvr⟩
   refine aa rfl rfl ?_ ?_
   · intro wr x hC; simp only [deps,at_,List.getD_cons_zero,List.getD_cons_succ,PK.sem,PK.move,kNat2]; intro hA; intro K hK; simp only [putE,retOf]
     go_simp
     exact hK _ _ (Below.refl _ _) hA
   refine aa rfl rfl ?_ ?_
   · intro wr x hC; simp only [deps,at_,List.getD_cons_zero,List.getD_cons_succ,PK.sem,PK.move,kNat2,kNat1]; intro hA; intro K hK; obtain ⟨A,k,c,A',k',c',hx,h1,h2⟩:=hA; simp only [putE,retOf,hx]
     go_simp
     exact hK _ _ (Below.refl _ _) ⟨_,_,_,rfl,h1⟩
   refine aa rfl rfl ?_ ?_
   · intro wr x hC; simp only [deps,at_,List.getD_cons_zero,List.getD_cons_succ,PK.sem,PK.move,kNat2,kNat1]; intro hA; intro K hK; obtain ⟨A,k,c,A',k',c',hx,h1,h2⟩:=hA; simp only [putE,retOf,hx]
     go_simp
     exact hK _ _ (Below.refl _ _) ⟨_,_,_,rfl,h2⟩
   refine aa rfl rfl ?_ ?_
   · intro wr x hC; simp only [deps,at_,List.getD_cons_zero,List.getD_cons_succ,PK.sem,PK.move]; intro K hK; have hsz:=hC.below.size; simp only [putE,retOf]
     go_simp
     exact hK _ _ ⟨(Below.refl _ _).alloc (Nat.le_refl _) _,_,rfl,Nat.le_refl _⟩ ⟨_,_,rfl,hsz,holds_new1 _ (noDig_slice _ _ _) _,rfl⟩
   refine aa rfl rfl ?_ ?_
   · intro wr x hC; simp only [deps,at_,List.getD_cons_zero,List.getD_cons_succ,PK.sem,PK.move]; intro K hK; have hsz:=hC.below.size; simp only [putE,retOf]
     go_simp
     exact hK _ _ ⟨(Below.refl _ _).alloc (Nat.le_refl _) _,_,rfl,Nat.le_refl _⟩ ⟨_,_,rfl,hsz,holds_new1 _ (noDig_slice _ _ _) _,rfl⟩
   refine aa rfl rfl ?_ ?_
   · intro wr x hC; simp only [deps,at_,List.getD_cons_zero,List.getD_cons_succ,PK.sem,PK.move,kNat1,kPutN1]; intro hA hB; intro K hK; obtain ⟨g,cs,hx,hg0,hg,hsz⟩:=hA; obtain ⟨u0,rfl⟩:=size_one hsz; obtain ⟨A,k,c,hy,hr1⟩:=hB; obtain ⟨m1,m3⟩:=hg.one; simp only [putE,retOf,hx,hy]
     go_simp
     exact hK _ _ ⟨g,hx,hg0,stored_put1 hg (noDig_slice _ _ _)⟩ ⟨g,_,hx,hg0,jk hg (noDig_slice _ _ _),A,k,c,rfl,hr1.stored (stored_put1 hg (noDig_slice _ _ _))⟩
   refine aa rfl rfl ?_ ?_
   · intro wr x hC; simp only [deps,at_,List.getD_cons_zero,List.getD_cons_succ,PK.sem,PK.move,kNat1,kPutN1]; intro hA hB; intro K hK; obtain ⟨g,cs,hx,hg0,hg,hsz⟩:=hA; obtain ⟨u0,rfl⟩:=size_one hsz; obtain ⟨A,k,c,hy,hr1⟩:=hB; obtain ⟨m1,m3⟩:=hg.one; simp only [putE,retOf,hx,hy]
     go_simp
     exact hK _ _ ⟨g,hx,hg0,stored_put1 hg (noDig_slice _ _ _)⟩ ⟨g,_,hx,hg0,jk hg (noDig_slice _ _ _),A,k,c,rfl,hr1.stored (stored_put1 hg (noDig_slice _ _ _))⟩
   exact ag rfl
 case en =>
   intro wr x hC hall; have hE1:=hall 9 (of_decide_eq_true (by kernel_rfl)); have hE2:=hall 10 (of_decide_eq_true (by kernel_rfl)); clear hall; simp only [at_,List.getD_cons_zero,List.getD_cons_succ,PK.sem,kPutN1] at hE1 hE2; obtain ⟨g8,_,hx8,_,h8,A8,n8,m8,rfl,q8⟩:=hE1; obtain ⟨g9,_,hx9,_,h9,A9,n9,m9,rfl,q9⟩:=hE2; have hbw:=HBW.out.trans hC.below; have e8:=h8.one.1; have e9:=h9.one.1; simp only [putE,hx8,hx9]; clear hC h8 h9 hx8 hx9
   go_wp2
   go_quiet (fail)
   go_wp2
   go_returns
   rw [HQR.out.1] at q8; rw [HQR.out.2] at q9; exact ⟨_,_,rfl,q8,q9,gf hbw nq⟩
theorem val_set {ps : List Nat} {k : Nat} (hk : k < ps.length) (d : Nat) : val (ps.set k d) + 1000000000 ^ k * ps.getD k 0 = val ps + 1000000000 ^ k * d:=by
 induction ps generalizing k with
 | nil=>simp at hk
 | cons p ps ih =>
   cases k with
   | zero=>simp [val]; omega
   | succ k =>
     have:=ih (k:=k) (by simpa using hk); simp only [List.set_cons_succ,val,List.getD_cons_succ,Nat.pow_succ]; rw [Nat.mul_comm (1000000000 ^ k) 1000000000,Nat.mul_assoc,Nat.mul_assoc]; omega
theorem mul_step {ps ys : List Nat} {i j c x V : Nat} (hk : i + j < ps.length) (hj : j < ys.length) (h : val ps + 1000000000 ^ (i + j) * c = V + x * 1000000000 ^ i * val (ys.take j)) :
   val (ps.set (i + j) ((c + (ps.getD (i + j) 0 + x * ys.getD j 0)) % 1000000000)) + 1000000000 ^ (i + (j + 1)) * ((c + (ps.getD (i + j) 0 + x * ys.getD j 0)) / 1000000000) = V + x * 1000000000 ^ i * val (ys.take (j + 1)):=by
 have h1:=val_set hk ((c + (ps.getD (i + j) 0 + x * ys.getD j 0)) % 1000000000)
 have h2:=Nat.mod_add_div (c + (ps.getD (i + j) 0 + x * ys.getD j 0)) 1000000000
 rw [dr ys j hj,Nat.mul_add (x * 1000000000 ^ i),← Nat.add_assoc V,← h,show i + (j + 1) = (i + j) + 1 from by omega,Nat.pow_succ,Nat.mul_assoc (1000000000 ^ (i + j))]
 have h3 : x * 1000000000 ^ i * (1000000000 ^ j * ys.getD j 0) = 1000000000 ^ (i + j) * (x * ys.getD j 0):=by
   rw [Nat.pow_add]
   ac_rfl
 rw [h3]
 generalize 1000000000 ^ (i + j) = P at *
 generalize ps.getD (i + j) 0 = p at *
 generalize x * ys.getD j 0 = z at *
 generalize hm : (c + (p + z)) % 1000000000 = m at *
 generalize hq : (c + (p + z)) / 1000000000 = q at *
 have h4 : P * (c + (p + z)) = P * m + P * (1000000000 * q):=by rw [← h2,Nat.mul_add]
 rw [Nat.mul_add,Nat.mul_add] at h4
 omega
theorem carry_lt {c p x y : Nat} (hc : c < 1000000000) (hp : p < 1000000000) (hx : x < 1000000000) (hy : y < 1000000000) : (c + (p + x * y)) / 1000000000 < 1000000000 ∧ x * y ≤ 999999998000000001:=by
 have h1 : x * y ≤ 999999999 * 999999999:=Nat.mul_le_mul (by omega) (by omega)
 omega
theorem getD_zero_of {ps : List Nat} {k : Nat} (h : ∀ j,k ≤ j → ps.getD j 0 = 0) {d : Nat} (hk : k < ps.length) : val (ps.set k d) = val ps + 1000000000 ^ k * d:=by
 have:=val_set hk d
 rw [h k (Nat.le_refl _)] at this
 simpa using this
theorem times_any {w : World} {A1 A2 : Option Addr} {c1 c2 : Nat} {xs ys : List Nat} (hr1 : Row w A1 (u32s xs)) (hr2 : Row w A2 (u32s ys)) (hx : small 1000000000 xs) (hy : small 1000000000 ys) (hl1 : xs.length ≤ 100000) (hl2 : ys.length ≤ 100000) :
   Calls Tryz.prog 166 #[.agg #[.slice A1 xs.length c1],.agg #[.slice A2 ys.length c2]] w (RetNum w (val xs * val ys)):=by
 obtain ⟨i0,hi,hz0,hz1,hz2⟩:=info_parts dw
 obtain ⟨n,hn⟩ : ∃ n : Nat,n = xs.length:=⟨_,rfl⟩
 obtain ⟨m,hm⟩ : ∃ m : Nat,m = ys.length:=⟨_,rfl⟩
 have hn1 : n ≤ 100000:=by omega
 have hm1 : m ≤ 100000:=by omega
 rw [← hn,← hm]
 have HN:=Lib.hid hn
 have HM:=Lib.hid hm
 clear hn hm
 have hx':=small_mono hx (show 1000000000 ≤ 4294967296 by decide)
 go_enter Tryz.func166,Tryz.ntmps166
 go_wp2_with (at_make; refine wpList_make_full _ rfl _ _ 132 rfl (w.heap.size + 3) 88 i0 (.int .u32 0) 1 Tryz.underlying132 hi hz0 hz1 .i64 .i64 ((n : Int) + (m : Int)) ((n : Int) + (m : Int)) (n + m) rfl rfl (by omega) (by omega) (by rw [hz2]; omega) (by unfold maxLen; omega) (by simp) ?_)
 intro w1 hown hgrow
 have ho1:=kh hown
 obtain ⟨hb1,hs1,hA,hB,hC⟩:=ix hgrow
 have HA:=Lib.hid hA
 have HB:=Lib.hid hB
 have HC:=Lib.hid hC
 clear hown hgrow
 have hcA0:=cell_of_one hA
 have hcB0:=cell_of_one hB
 clear hA hB hC
 go_wp2_with fail
 clear hcA0 hcB0
 go_loopw [22] (fun iv wr => ∃ (i : Nat) (ps : List Nat), i ≤ n ∧ iv = .int .i64 (i : Int) ∧ Own wr (w.heap.size + 3) 88 (.slice (some ⟨w.heap.size + 1 + 1 + 1, 0, none⟩) (n + m) (n + m)) (u32s ps) ∧ Hid (ps.length = n + m ∧ small 1000000000 ps ∧ val ps = val (xs.take i) * val ys ∧ ∀ j, i + m ≤ j → ps.getD j 0 = 0) ∧ Below (w.heap.size + 3) w1 wr)
   (fun iv _=>n - (intOf iv).toNat)
 case atStart=>exact ⟨0,List.replicate (n + m) 0,Nat.zero_le _,rfl,ho1,⟨by simp,df _ _ (by decide),by
   have : ∀ k,val (List.replicate k 0) = 0:=fun k=>by
     induction k with
     | zero=>rfl
     | succ k ih=>rw [List.replicate_succ,val,ih]
   rw [this]; simp [val],fun j _=>by
   rw [List.getD_eq_getElem?_getD,List.getElem?_replicate]
   split <;> rfl⟩,Below.refl _ _⟩
 case round =>
   obtain ⟨i,ps,hi1,rfl,hp,HO,hb⟩:=hrel; have hsz:=hb.size
   by_cases hlt : i < n
   · have bW:=below_trans hb1 hb (by omega); have hcA:=cell_of_one ((hb.block w.heap.size (by omega)).trans HA.out); have hcB:=cell_of_one ((hb.block (w.heap.size + 1) (by omega)).trans HB.out)
     obtain ⟨x,hxe⟩ : ∃ x,x = xs.getD i 0:=⟨_,rfl⟩
     have hxb : x < 1000000000:=by rw [hxe]; exact bh hx (by decide) i
     have q1 : ∀ W,Below w.heap.size w W → Calls Tryz.prog 175 #[.slice A1 n c1,.int .i64 i] W (fun e w'=>e = .returned (.int .u64 (x : Int)) ∧ W = w'):=fun W hW=>by
       have:=at_any (c:=c1) (hr1.below hW) hx' i (by omega); rw [Int.toNat_natCast,← hxe,← HN.out] at this; exact this
     have HX:=Lib.hid hxe; have Q1:=Lib.hid q1; clear hxe q1
     go_wp2_with fail
     refine (Q1.out _ bW).mono ?_; rintro e w' ⟨rfl,rfl⟩
     go_wp2_with fail
     obtain ⟨wo,hwo⟩ : ∃ wo : World,wo = wr:=⟨_,rfl⟩
     have hb0 : Below (w.heap.size + 3) w1 wo:=hwo ▸ hb; have hp0 : Own wo (w.heap.size + 3) 88 (.slice (some ⟨w.heap.size + 1 + 1 + 1,0,none⟩) (n + m) (n + m)) (u32s ps):=hwo ▸ hp; rw [← hwo]; clear hwo hb hp hcA hcB bW hsz Q1
     obtain ⟨V,hV⟩ : ∃ V,V = val ps:=⟨_,rfl⟩
     have HV:=Lib.hid hV; clear hV
     go_loopw [8, 32] (fun cv jv wr => ∃ (j cy : Nat) (qs : List Nat), j ≤ m ∧ jv = .int .i64 (j : Int) ∧ cv = .int .u64 (cy : Int) ∧ cy < 1000000000 ∧ Own wr (w.heap.size + 3) 88 (.slice (some ⟨w.heap.size + 1 + 1 + 1, 0, none⟩) (n + m) (n + m)) (u32s qs) ∧ Hid (qs.length = n + m ∧ small 1000000000 qs ∧ val qs + 1000000000 ^ (i + j) * cy = V + x * 1000000000 ^ i * val (ys.take j) ∧ ∀ t, i + m ≤ t → qs.getD t 0 = 0) ∧ Below (w.heap.size + 3) w1 wr)
       (fun _ jv _=>m - (intOf jv).toNat)
     case atStart=>exact ⟨0,0,ps,Nat.zero_le _,rfl,rfl,by decide,hp0,⟨HO.out.1,HO.out.2.1,by rw [HV.out]; simp [val],HO.out.2.2.2⟩,hb0⟩
     case round =>
       obtain ⟨j,cy,qs,hj1,rfl,rfl,hcy,hq,HQ,hbq⟩:=hrel; have hszq:=hbq.size; have bW:=below_trans hb1 hbq (by omega); have hcA:=cell_of_one ((hbq.block w.heap.size (by omega)).trans HA.out); have hcB:=cell_of_one ((hbq.block (w.heap.size + 1) (by omega)).trans HB.out)
       by_cases hjm : j < m
       · obtain ⟨ad,y,rfl,hcy2,hy2,hym⟩:=(hr2.below bW).dig (k:=j) (by rw [← HM.out]; exact hjm); have hyb:=hy y hym
         obtain ⟨p,hpe⟩ : ∃ p,p = qs.getD (i + j) 0:=⟨_,rfl⟩
         have hpb : p < 1000000000:=by rw [hpe]; exact bh HQ.out.2.1 (by decide) _
         have q2 : Calls Tryz.prog 175 #[.slice (some ⟨w.heap.size + 1 + 1 + 1,0,none⟩) (n + m) (n + m),.int .i64 ((i : Int) + (j : Int))] wr (fun e w'=>e = .returned (.int .u64 (p : Int)) ∧ wr = w'):=by
           have:=at_any (c:=n + m) hq.row32 (small_mono HQ.out.2.1 (by decide)) ((i : Int) + (j : Int)) (by omega); rw [HQ.out.1,show ((i : Int) + (j : Int)).toNat = i + j from by omega,← hpe] at this; exact this
         obtain ⟨hqc,hqf⟩:=own_cell hq (k:=i + j) (by rw [am,HQ.out.1]; omega); obtain ⟨hcl,hzb⟩:=carry_lt hcy hpb hxb hyb
         obtain ⟨z,hz⟩ : ∃ z,z = x * y:=⟨_,rfl⟩
         have hzi : (x : Int) * (y : Int) = (z : Int):=by rw [hz]; simp
         rw [← hz] at hcl hzb; have hst:=mul_step (ps:=qs) (ys:=ys) (i:=i) (j:=j) (c:=cy) (x:=x) (V:=V) (by rw [HQ.out.1]; omega) (by rw [← HM.out]; exact hjm) HQ.out.2.2.1; rw [hy2.out,← hpe,← hz] at hst; have HST:=Lib.hid hst; have Q2:=Lib.hid q2; have hij : (i : Int) + (j : Int) < (n : Int) + (m : Int):=by omega
         have hij0 : 0 ≤ (i : Int) + (j : Int):=by omega
         clear hst q2 hpe hz hym
         go_wp2_with (go_at_call 175; refine Q2.out.mono ?_; rintro e w' ⟨rfl,rfl⟩)
         go_roundw
         case rel=>exact ⟨j + 1,(cy + (p + z)) / 1000000000,qs.set (i + j) ((cy + (p + z)) % 1000000000),by omega,by go_num,by go_num,hcl,by
           have:=fp hq (i + j) ((cy + (p + z)) % 1000000000); rw [show (((cy + (p + z)) % 1000000000 : Nat) : Int) = ((cy : Int) + ((p : Int) + (z : Int))) % 1000000000 from by omega] at this
           exact this,⟨by rw [List.length_set]; exact HQ.out.1,fm HQ.out.2.1 _ (Nat.mod_lt _ (by decide)),HST.out,fun t ht=>by rw [ek _ (by omega)]; exact HQ.out.2.2.2 t ht⟩,hbq.setCell (show w.heap.size + 3 ≤ w.heap.size + 1 + 1 + 1 by omega) _⟩
         case measure=>first | (simp [intOf]; done) | (simp [intOf]; omega)
       · have hjm' : j = m:=by omega
         have HJ:=Lib.hid hjm'; obtain ⟨hqc,hqf⟩:=own_cell hq (k:=i + m) (by rw [am,HQ.out.1]; omega); have him : (i : Int) + (m : Int) < (n : Int) + (m : Int):=by omega
         have him0 : 0 ≤ (i : Int) + (m : Int):=by omega
         clear hjm'
         go_wp2
         go_roundw
         case rel=>exact ⟨i + 1,qs.set (i + m) cy,by omega,by go_num,fp hq (i + m) cy,⟨by rw [List.length_set]; exact HQ.out.1,fm HQ.out.2.1 _ hcy,by
           have h:=HQ.out.2.2.1; rw [HJ.out,HM.out,List.take_length,← HM.out] at h; rw [getD_zero_of HQ.out.2.2.2 (by rw [HQ.out.1]; omega),h,HV.out,HO.out.2.2.1,dr xs i (by rw [← HN.out]; exact hlt),← HX.out,Nat.add_mul]; congr 1
           rw [Nat.mul_comm x],fun t ht=>by rw [ek _ (by omega)]; exact HQ.out.2.2.2 t (by omega)⟩,hbq.setCell (show w.heap.size + 3 ≤ w.heap.size + 1 + 1 + 1 by omega) _⟩
         case measure=>first | (simp [intOf]; done) | (simp [intOf]; omega)
   · have hin : i = n:=by omega
     have HI:=Lib.hid hin; have hl : ps.length ≤ 1000000:=by rw [HO.out.1]; omega
     clear hin
     go_wp2_with fail
     refine (stripped_any hp hl).mono ?_; rintro e w3 ⟨⟨v,rfl,hv⟩,rfl⟩; obtain ⟨A3,c3,rfl,_⟩:=hv.slice32; have hcell:=(hb.block (w.heap.size + 1 + 1) (by omega)).trans HC.out; have hc:=cell_of_one hcell; have hf:=free_of_one hcell; have hcs:=cell_of_one (one_setCell (u:=.slice A3 (strip ps).length c3) hcell); clear hcell
     go_wp2
     refine bodyPost_ret (v:=.agg #[.slice A3 (strip ps).length c3]) (by simp [results,Tryz.results166,go_sem,hcs]) rfl ?_; have h:=HO.out; refine ⟨_,rfl,⟨_,cz h.2.1,?_,(hv.setBelow (show w.heap.size + 1 + 1 < w.heap.size + 3 by omega) _).mono (by omega)⟩,(below_trans hb1 hb (by omega)).setCell (Nat.le_succ_of_le (Nat.le_succ _)) _⟩; rw [dt,h.2.2.1,HI.out,HN.out,List.take_length]
theorem fold_times {w : World} {B0 N : Nat} {A1 A : Option Addr} {c1 c : Nat} {xs : List Nat} {L : List Arow} (hx : right xs) (ho1 : Own w B0 88 (.slice A1 xs.length c1) (u32s xs)) (hB0 : B0 ≤ w.heap.size) (hL : ka w A L)
   (hacc : ∀ k,k ≤ L.length → ((vals L).take k).foldl (fun a b=>a * b) (val xs) < 1000000000 ^ N) (hN : N ≤ 100000) (hlen : L.length ≤ 100000) :
   Calls Tryz.prog 162 #[.agg #[.slice A1 xs.length c1],.func (.func 166) #[] #[],.slice A L.length c] w (RetNumB w B0 ((vals L).foldl (fun a b=>a * b) (val xs))):=by
 have HAcc:=Lib.hid hacc
 clear hacc
 go_enter Tryz.func162,Tryz.ntmps162
 go_wp2_with fail
 obtain ⟨w1,hw1⟩ : ∃ w1,w1 = (w.alloc (Obj.cells #[Value.slice A1 xs.length c1] 137)).alloc (Obj.cells #[Value.slice none 0 0] 137):=⟨_,rfl⟩
 have hb1 : Below w.heap.size w w1:=by rw [hw1]; exact below_first ((Below.refl _ _).alloc (Nat.le_refl _) _)
 have hs1 : w1.heap.size = w.heap.size + 2:=by rw [hw1]; simp
 have HBox : Hid (w1.heap[w.heap.size]? = some (.cells #[Value.slice A1 xs.length c1] 137 (0,0))):=by
   rw [hw1]; exact ck ((Below.refl _ _).alloc (Nat.le_refl _) _)
 have HRes : Hid (w1.heap[w.heap.size + 1]? = some (.cells #[Value.slice none 0 0] 137 (0,0))):=by
   rw [hw1]; have:=heap_alloc_new (w.alloc (Obj.cells #[Value.slice A1 xs.length c1] 137)) (Obj.cells #[Value.slice none 0 0] 137); rw [show (w.alloc (Obj.cells #[Value.slice A1 xs.length c1] 137)).heap.size = w.heap.size + 1 from by simp] at this; exact this
 rw [← hw1]
 have HS1:=Lib.hid hs1
 clear hw1 hs1
 go_loopw [11] (fun i wr => ∃ (k : Nat) (A' : Option Addr) (c' : Nat) (rs : List Nat), k ≤ L.length ∧ i = .int .i64 k ∧ Hid (wr.heap[w.heap.size]? = some (.cells #[Value.slice A' rs.length c'] 137 (0, 0))) ∧ Hid (wr.heap[w.heap.size + 1]? = some (.cells #[Value.slice none 0 0] 137 (0, 0))) ∧
     right rs ∧ Hid (val rs = ((vals L).take k).foldl (fun a b=>a * b) (val xs)) ∧ Own wr B0 88 (.slice A' rs.length c') (u32s rs) ∧ Below w.heap.size w wr ∧ w1.heap.size ≤ wr.heap.size)
   (fun i _=>L.length - (intOf i).toNat)
 case atStart=>exact ⟨0,A1,c1,xs,Nat.zero_le _,rfl,HBox,HRes,hx,by simp [Hid],ho1.below hb1,hb1,Nat.le_refl _⟩
 case round =>
   obtain ⟨k,A',c',rs,hk,rfl,HB,HR,hrs,HV,hown,hb,hsz⟩:=hrel
   by_cases hlt : k < L.length
   · have hcb:=cell_of_one HB.out; have hfb:=free_of_one HB.out; obtain ⟨ad,rfl,hce⟩:=(hL.1.below hb).at_ (k:=k) (by simpa using hlt); rw [List.getElem_map] at hce
     obtain ⟨r,hr⟩ : ∃ r,r = L[k]:=⟨_,rfl⟩
     rw [← hr] at hce; have hrm : r ∈ L:=by rw [hr]; exact List.getElem_mem _
     obtain ⟨Ar,cr,ds⟩:=r; have hce' : wr.cell? (ad.add k) = some (.slice Ar ds.length cr):=hce; obtain ⟨hrd0,hdsm,hdsl⟩:=hL.2 _ hrm; have hrd : Row wr Ar (u32s ds):=Row.below hrd0 hb; have hdsm' : small 4294967296 ds:=hdsm; have hdsl' : ds.length ≤ 10000:=hdsl
     have HVs : Hid ((vals L).take (k + 1) = (vals L).take k ++ [val ds]):=by
       show _ = _
       rw [List.take_add_one,List.getElem?_eq_getElem (by simpa [vals] using hlt)]; simp only [vals,List.getElem_map,← hr,Option.toList_some]
     have hrl : rs.length ≤ 100000:=Nat.le_trans (right_length_le hrs (by rw [HV.out]; exact HAcc.out k hk)) hN; have hrr : Row wr.drew A' (u32s rs):=hown.row32; have hlw : w.heap.size + 2 ≤ wr.heap.size:=by rw [← HS1.out]; exact hsz
     clear hr hce hrm hrd0 hdsm hdsl
     go_wp2
     go_region_with (first
       | (go_at_call 146; refine (of_any (w:=wr.drew) hrd hdsm' (by omega)).mono ?_; rintro e w2 ⟨v2,rfl,⟨ys,hy,hyv,hyo⟩,hb2⟩; obtain ⟨A2,c2,rfl,hry,_⟩:=hyo.slice32; have hcb2 : w2.cell? ⟨w.heap.size,0,none⟩ = some (.slice A' rs.length c'):=(hb2.cell (p:=⟨w.heap.size,0,none⟩) (show w.heap.size < wr.heap.size by omega)).trans hcb)
       | (go_at_call 166; refine (times_any (Row.below hrr hb2) hry hrs.1 hy.1 hrl (Nat.le_trans (right_length_le hy (by rw [hyv]; exact val_lt32 hdsm')) (by omega))).mono ?_; rintro e w3 ⟨v3,rfl,⟨zs,hz,hzv,hzo⟩,hb3⟩; obtain ⟨A3,c3,rfl,_⟩:=hzo.slice32; have hsz2 : wr.heap.size ≤ w2.heap.size:=hb2.size; have hB3:=(hb3.block w.heap.size (by omega)).trans ((hb2.block w.heap.size (show w.heap.size < wr.heap.size by omega)).trans HB.out); have hcb3:=cell_of_one hB3; have hfb3:=free_of_one hB3; have HB3:=Lib.hid hB3; clear hB3))
     all_goals
       go_wp2
       go_roundw
       case rel =>
         refine ⟨k + 1,A3,c3,zs,by omega,by go_num,one_setCell HB3.out,?_,hz,?_,?_,?_,?_⟩
         · exact (Below.heap_setCell _ _ _ _ (by simp)).trans ((hb3.block _ (by omega)).trans ((hb2.block (w.heap.size + 1) (show w.heap.size + 1 < wr.heap.size by omega)).trans HR.out))
         · show _ = _
           rw [HVs.out,List.foldl_append,← HV.out,hzv,hyv]; rfl
         · exact (hzo.setBelow (show w.heap.size < w2.heap.size by omega) _).mono (by omega)
         · exact (((Below.drew hb).trans (hb2.mono (show w.heap.size ≤ wr.heap.size by omega))).trans (hb3.mono (by omega))).setCell (Nat.le_refl _) _
         · have:=hb3.size; simp; omega
       case measure=>simp [intOf]; omega
   · have hcb:=cell_of_one HB.out; have hcr:=cell_of_one HR.out; have hfr:=free_of_one HR.out; have hcs:=cell_of_one (one_setCell (u:=.slice A' rs.length c') HR.out); have hk' : k = L.length:=by omega
     have HK:=Lib.hid hk'; clear hk'
     go_wp2
     refine bodyPost_ret (v:=.agg #[.slice A' rs.length c']) (by simp [results,Tryz.results162,go_sem,hcs]) rfl ?_; refine ⟨_,rfl,⟨rs,hrs,?_,hown.setOther HR.out (by decide) _⟩,hb.setCell (Nat.le_succ _) _⟩; rw [HV.out,HK.out]; congr 1; rw [List.take_of_length_le (by simp [vals])]
theorem mul_any {w : World} {N : Nat} {A : Option Addr} {c : Nat} {L : List Arow} (hL : ka w A L) (hacc : ∀ k,k ≤ L.length → ((vals L).take k).foldl (fun a b=>a * b) 1 < 1000000000 ^ N) (hN : N ≤ 100000) (hlen : L.length ≤ 100000) :
   Calls Tryz.prog 153 #[.slice A L.length c] w (RetNat w ((vals L).foldl (fun a b=>a * b) 1)):=by
 have h1 : right [1]:=⟨fun x hx=>by rw [List.mem_singleton.1 hx]; decide,.inr (by simp)⟩
 have hv1 : val [1] = 1:=by simp [val]
 have bA : Below w.heap.size w (w.alloc (.cells #[Value.int .u32 1] 88)):=(Below.refl _ _).alloc (Nat.le_refl _) _
 have hf:=fold_times (w:=w.alloc (.cells #[Value.int .u32 1] 88)) (B0:=w.heap.size) (N:=N) (c1:=1) (c:=c) (xs:=[1]) h1 (own_lit32 w 1 (Nat.le_refl _)) (by simp) (hL.below bA) (by rw [hv1]; exact hacc) hN hlen
 rw [hv1] at hf
 have HF:=Lib.hid hf
 have hfield:=fl
 clear hf hacc hv1
 go_enter Tryz.func153,Tryz.ntmps153
 go_wp2_with fail
 refine HF.out.mono ?_
 rintro e w2 ⟨v,rfl,hv,hb⟩
 obtain ⟨rs,h1,h2,h3⟩:=hv
 obtain ⟨A2,c2,rfl,_⟩:=h3.slice32
 go_wp2
 go_ret
 exact ⟨_,rfl,⟨rs,h1,h2,h3⟩,below_first hb⟩
end Go.Proofs.YtifgcjpgelbelaaGreatDoor

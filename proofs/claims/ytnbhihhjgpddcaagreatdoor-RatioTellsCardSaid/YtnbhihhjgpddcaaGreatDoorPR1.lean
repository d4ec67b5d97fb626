/- Words on memory for the texts of this seat: Plain numbers: Contracts of small functions of package nat: Contract of nat.number.plus: Contract of nat.fold: Contract of nat.number.minus: DERIVED: Contracts of strconv.FormatUint at base 10 (numbers of 64 bits), of strings.Builder.WriteString, and what decimal texts are. Contracts of whetstonekit.SameLimbs and of the laws' same: Contract of the laws' awake: Contract of nat.number.divideShort: -/
import Derived.WalkKit
import Derived.Lib.Hide
import Derived.Deep.Draws
import Derived.BigQuiet
import Derived.Deep.QuietTactic
import Derived.Handy
import Derived.Test.YtnbhihhjgpddcaaGreatDoorChecked
import Derived.Lib.MinMax
import Derived.Deep.RegionHeld3
import Derived.Shelf.Strings.Builder1
import Derived.Shelf.Strings.Builder2
import Derived.Shelf.Small.Bits
import Derived.Shelf.Small.Wraps
import Derived.Shelf.Strings.BuilderF
import Derived.Shelf.Strings.BuilderK
import Derived.Shelf.Strings.Builder2Cap
import Derived.Shelf.Strconv.Itoa0
import Derived.Shelf.Strconv.Itoa1
import Derived.Shelf.LaysM
import Derived.Shelf.Strconv.Itoa2
import Derived.Shelf.Strings.Search1
import Derived.Shelf.Strings.Search2
import Derived.Shelf.Strings.Cut
import Derived.Shelf.Strings.Shaped
import Derived.Shelf.Strings.Prefix
import Derived.Shelf.Bits.Mul64
import Derived.Shelf.Strings.Repeat
import Derived.Shelf.Strings.BuilderCap
import Derived.Ground.Names2Prog
import Derived.Shelf.Slices.SearchI
import Derived.Test.YtnbhihhjgpddcaaGreatDoorProg
import Derived.Lib.ItoaMem
import Derived.Lib.Repeat
import Derived.Lib.AppendIntMem
import Derived.WalkSmall
import Derived.Deep.RegionWith
import Derived.Outline
import Derived.RegionTactic
set_option maxRecDepth 100000
set_option maxHeartbeats 16000000
set_option linter.unusedVariables false
set_option linter.unusedSimpArgs false
namespace Go.Proofs.YtnbhihhjgpddcaaGreatDoor
open Go.RowKit
def Row (w : World) (A : Option Addr) (xs : List Value) : Prop:=∀ j v,xs[j]? = some v → ∃ ad,A = some ad ∧ w.cell? (ad.add j) = some v
theorem cell_lt {w : World} {p : Addr} {v : Value} (h : w.cell? p = some v) : p.block < w.heap.size:=by
 rcases Nat.lt_or_ge p.block w.heap.size with hl | hl
 · exact hl
 · simp [World.cell?,Array.getElem?_eq_none hl] at h
theorem Row.below {w w' : World} {A : Option Addr} {xs : List Value} (h : Row w A xs) (hb : Below w.heap.size w w') : Row w' A xs:=by
 intro j v hv
 obtain ⟨ad,ha,hc⟩:=h j v hv
 exact ⟨ad,ha,(hb.cell (cell_lt hc)).trans hc⟩
def Drawn (w w' : World) : Prop:=∃ m,w' = w.drewN m
theorem Drawn.refl (w : World) : Drawn w w:=⟨0,rfl⟩
theorem Drawn.trans {a b c : World} (h : Drawn a b) (k : Drawn b c) : Drawn a c:=by
 obtain ⟨m,rfl⟩:=h
 obtain ⟨n,rfl⟩:=k
 exact ⟨m + n,by rw [World.drewN_drewN]⟩
theorem Drawn.more {a b : World} (h : Drawn a b) (n : Nat) : Drawn a (b.drewN n):=h.trans ⟨n,rfl⟩
theorem Drawn.below {w w' : World} (h : Drawn w w') : Below w.heap.size w w':=by
 obtain ⟨m,rfl⟩:=h
 exact ⟨rfl,rfl,rfl,Nat.le_refl _,fun _ _=>rfl⟩
theorem Row.drewN {w : World} {A : Option Addr} {xs : List Value} (h : Row w A xs) (m : Nat) : Row (w.drewN m) A xs:=h
theorem Row.drawn {w w' : World} {A : Option Addr} {xs : List Value} (h : Row w A xs) (hd : Drawn w w') : Row w' A xs:=h.below hd.below
theorem Row.nil (w : World) (A : Option Addr) : Row w A []:=fun j v h=>by simp at h
theorem Row.at_ {w : World} {A : Option Addr} {xs : List Value} (h : Row w A xs) {k : Nat} (hk : k < xs.length) : ∃ ad,A = some ad ∧ w.cell? (ad.add k) = some xs[k] :=
 h k xs[k] (List.getElem?_eq_getElem hk)
theorem Row.take {w : World} {A : Option Addr} {xs : List Value} (h : Row w A xs) (k : Nat) : Row w A (xs.take k):=by
 intro j v hv
 rw [List.getElem?_take] at hv
 split at hv
 · exact h j v hv
 · cases hv
def Own (w : World) (B T : Nat) (v : Value) (xs : List Value) : Prop:=w.ownsRow B T 1 v xs.length xs
theorem Own.mk_ {w : World} {B T : Nat} {v : Value} {n : Nat} {xs : List Value} (h : w.ownsRow B T 1 v n xs) : Own w B T v xs:=by
 have : xs.length = n:=by simpa using h.1
 subst this; exact h
theorem Own.slice {w : World} {B T : Nat} {v : Value} {xs : List Value} (h : Own w B T v xs) : ∃ A c,v = .slice A xs.length c ∧ Row w A xs ∧ xs.length ≤ c ∧ (A = none → c = 0):=by
 have hh : w.ownsRow B T 1 v xs.length xs:=h
 rcases hh.2 with ⟨rfl,h0⟩ | ⟨g,cap,cur,rfl,_,hg,hle,_,hsz,ht⟩
 · have : xs = []:=List.eq_nil_of_length_eq_zero h0; subst this; exact ⟨none,0,rfl,Row.nil _ _,Nat.le_refl _,fun _=>rfl⟩
 · refine ⟨some ⟨g,0,none⟩,cap,rfl,fun j u hu=>⟨_,rfl,hh.cells (g:=g) rfl j u hu⟩,hle,fun h=>by cases h⟩
theorem Own.lt {w : World} {B T : Nat} {A : Option Addr} {n c : Nat} {xs : List Value} (h : Own w B T (.slice A n c) xs) : n = xs.length ∧ (∀ ad,A = some ad → ∃ g,ad = ⟨g,0,none⟩ ∧ B ≤ g ∧ g < w.heap.size):=by
 have hh : w.ownsRow B T 1 (.slice A n c) xs.length xs:=h
 rcases hh.2 with ⟨e,h0⟩ | ⟨g,cap,cur,e,hB,hg,_⟩
 · injection e with e1 e2 e3; subst e1; subst e2; exact ⟨h0.symm,fun ad h=>by cases h⟩
 · injection e with e1 e2 e3; subst e1; subst e2; exact ⟨rfl,fun ad h=>by cases h; exact ⟨g,rfl,hB,cell_lt' hg⟩⟩
where
 cell_lt' {w : World} {g : Nat} {o : Obj} (h : w.heap[g]? = some o) : g < w.heap.size:=by
   rcases Nat.lt_or_ge g w.heap.size with hl | hl
   · exact hl
   · rw [Array.getElem?_eq_none hl] at h; cases h
theorem Own.nil (w : World) (B T : Nat) : Own w B T (.slice none 0 0) []:=World.ownsRow_nil w B T 1
theorem Own.mono {w : World} {B B' T : Nat} {v : Value} {xs : List Value} (h : Own w B T v xs) (hB : B' ≤ B) : Own w B' T v xs:=by
 have hh : w.ownsRow B T 1 v xs.length xs:=h
 refine ⟨hh.1,?_⟩
 rcases hh.2 with h0 | ⟨g,cap,cur,e,hb,r⟩
 · exact .inl h0
 · exact .inr ⟨g,cap,cur,e,Nat.le_trans hB hb,r⟩
theorem Own.below {w w' : World} {B T : Nat} {v : Value} {xs : List Value} (h : Own w B T v xs) (hb : Below w.heap.size w w') : Own w' B T v xs:=by
 have hh : w.ownsRow B T 1 v xs.length xs:=h
 refine ⟨hh.1,?_⟩
 rcases hh.2 with h0 | ⟨g,cap,cur,e,hB,hg,r⟩
 · exact .inl h0
 · refine .inr ⟨g,cap,cur,e,hB,?_,r⟩; rw [hb.block g (Own.lt.cell_lt' hg)]; exact hg
theorem Own.cut {w : World} {B T : Nat} {A : Option Addr} {n c : Nat} {xs : List Value} (h : Own w B T (.slice A n c) xs) (k : Nat) (hk : k ≤ xs.length) : Own w B T (.slice A k c) (xs.take k):=by
 have hh : w.ownsRow B T 1 (.slice A n c) xs.length xs:=h
 have hl : (xs.take k).length = k:=by rw [List.length_take]; omega
 refine ⟨by simp,?_⟩
 rcases hh.2 with ⟨e,h0⟩ | ⟨g,cap,cur,e,hB,hg,hle,hm,hsz,ht⟩
 · injection e with e1 e2 e3; subst e1; subst e3; have : k = 0:=by omega
   subst this; exact .inl ⟨rfl,by simp⟩
 · injection e with e1 e2 e3; subst e1; subst e3; refine .inr ⟨g,c,cur,by rw [hl],hB,hg,by omega,hm,hsz,?_⟩; rw [hl,← ht,List.take_take]; congr 1; omega
def u32s (ds : List Nat) : List Value:=ds.map fun (d : Nat)=>Value.int .u32 (d : Int)
def u8s (ds : List Nat) : List Value:=ds.map fun (d : Nat)=>Value.int .u8 (d : Int)
theorem an (ds : List Nat) : (u32s ds).length = ds.length:=by simp [u32s]
theorem av (ds : List Nat) : (u8s ds).length = ds.length:=by simp [u8s]
theorem u32s_take (ds : List Nat) (k : Nat) : (u32s ds).take k = u32s (ds.take k):=by simp [u32s,List.map_take]
theorem u8s_take (ds : List Nat) (k : Nat) : (u8s ds).take k = u8s (ds.take k):=by simp [u8s,List.map_take]
theorem u32s_snoc (ds : List Nat) (d : Nat) : u32s ds ++ [.int .u32 (d : Int)] = u32s (ds ++ [d]):=by simp [u32s]
theorem u8s_snoc (ds : List Nat) (d : Nat) : u8s ds ++ [.int .u8 (d : Int)] = u8s (ds ++ [d]):=by simp [u8s]
theorem Row.u32 {w : World} {A : Option Addr} {ds : List Nat} (h : Row w A (u32s ds)) {k : Nat} (hk : k < ds.length) : ∃ ad,A = some ad ∧ w.cell? (ad.add k) = some (.int .u32 ((ds.getD k 0 : Nat) : Int)):=by
 refine h k _ ?_
 simp [u32s,List.getD,hk]
theorem Row.u8 {w : World} {A : Option Addr} {ds : List Nat} (h : Row w A (u8s ds)) {k : Nat} (hk : k < ds.length) : ∃ ad,A = some ad ∧ w.cell? (ad.add k) = some (.int .u8 ((ds.getD k 0 : Nat) : Int)):=by
 refine h k _ ?_
 simp [u8s,List.getD,hk]
theorem Row.dig {w : World} {A : Option Addr} {ds : List Nat} (h : Row w A (u32s ds)) {k : Nat} (hk : k < ds.length) : ∃ (ad : Addr) (x : Nat),A = some ad ∧ w.cell? (ad.add k) = some (.int .u32 (x : Int)) ∧ Hid (ds.getD k 0 = x) ∧ x ∈ ds:=by
 obtain ⟨ad,e,hc⟩:=h.u32 hk
 refine ⟨ad,_,e,hc,rfl,?_⟩
 rw [List.getD_eq_getElem?_getD,List.getElem?_eq_getElem hk]
 exact List.getElem_mem hk
theorem Row.byte {w : World} {A : Option Addr} {ds : List Nat} (h : Row w A (u8s ds)) {k : Nat} (hk : k < ds.length) : ∃ (ad : Addr) (x : Nat),A = some ad ∧ w.cell? (ad.add k) = some (.int .u8 (x : Int)) ∧ Hid (ds.getD k 0 = x) ∧ x ∈ ds:=by
 obtain ⟨ad,e,hc⟩:=h.u8 hk
 refine ⟨ad,_,e,hc,rfl,?_⟩
 rw [List.getD_eq_getElem?_getD,List.getElem?_eq_getElem hk]
 exact List.getElem_mem hk
theorem one_news {w : World} {u v : Value} {T : TypeId} (e : v = u) : ∀ j z,[u][j]? = some z → (w.alloc (.cells #[v] T)).cell? ((⟨w.heap.size,0,none⟩ : Addr).add j) = some z:=by
 subst e
 intro j z hj
 match j,hj with
 | 0,hj=>simp at hj; subst hj; simp [Addr.add]
theorem cx {k : IntKind} {a : Int} : ∀ u ∈ [Value.int k a],u.oneCell' = true:=by
 intro u hu
 rw [List.mem_singleton.1 hu]; rfl
theorem dn {w wr w2 : World} {B T : Nat} {v : Value} {xs : List Value} {o : Obj} (hb : Below w.heap.size w wr) (ho : Own wr B T v xs) (hB : Hid (B = w.heap.size)) (hg : (wr.alloc o).grownBy w2 v.ownBlock) : Below w.heap.size w w2 :=
 (hb.alloc hb.size o).grown hg (Nat.le_trans hb.size (by simp)) (fun k hk=>by
   have hh : wr.ownsRow B T 1 v xs.length xs:=ho; have:=(hh.lt k hk).1; rw [hB.out] at this
   exact this)
theorem int_eq {k : IntKind} {a b : Int} (h : a = b) : Value.int k a = .int k b:=by rw [h]
theorem dp {w : World} {B n : Nat} {v : Value} {ds : List Nat} {d : Nat} (h : w.ownsRow B 81 1 v n (u32s ds ++ [.int .u32 (d : Int)])) : Own w B 81 v (u32s (ds ++ [d])):=by
 rw [← u32s_snoc]; exact Own.mk_ h
theorem dc {w w1 : World} {o : Obj} (hb : Below (w.alloc o).heap.size (w.alloc o) w1) : w1.heap[w.heap.size]? = some o :=
 (hb.block _ (by simp)).trans (heap_alloc_new w o)
theorem Own.setBelow {w : World} {B T : Nat} {v : Value} {xs : List Value} (h : Own w B T v xs) {p : Addr} (hp : p.block < B) (u : Value) : Own (w.setCell p u) B T v xs :=
 ownsRow_setCell_below (w:=w) h hp u
theorem below_first {w w1 : World} {o : Obj} (hb : Below (w.alloc o).heap.size (w.alloc o) w1) : Below w.heap.size w w1 :=
 ((Below.refl _ _).alloc (Nat.le_refl _) o).trans (hb.mono (by simp))
theorem Row.alloc {w : World} {A : Option Addr} {xs : List Value} (h : Row w A xs) (o : Obj) : Row (w.alloc o) A xs:=h.below ((Below.refl _ _).alloc (Nat.le_refl _) o)
theorem lt_block {w : World} {g : Nat} {o : Obj} (h : w.heap[g]? = some o) : g < w.heap.size:=Own.lt.cell_lt' h
theorem jh {w w1 : World} {o1 o2 o3 : Obj} (hg : (((w.alloc o1).alloc o2).alloc o3).grownBy w1 none) :
   Below w.heap.size w w1 ∧ w.heap.size + 3 ≤ w1.heap.size ∧ w1.heap[w.heap.size]? = some o1 ∧ w1.heap[w.heap.size + 1]? = some o2 ∧ w1.heap[w.heap.size + 1 + 1]? = some o3:=by
 have hb : Below (((w.alloc o1).alloc o2).alloc o3).heap.size (((w.alloc o1).alloc o2).alloc o3) w1:=(Below.refl _ _).grown hg (Nat.le_refl _) (fun k h=>by cases h)
 have e1 : (((w.alloc o1).alloc o2).alloc o3).heap.size = w.heap.size + 3:=by simp
 have b2 : Below (w.alloc o1).heap.size (w.alloc o1) w1:=below_first (below_first hb)
 have e2 : (w.alloc o1).heap.size = w.heap.size + 1:=by simp
 have e3 : ((w.alloc o1).alloc o2).heap.size = w.heap.size + 1 + 1:=by simp
 refine ⟨below_first b2,?_,dc b2,?_,?_⟩
 · have:=hb.size; omega
 · have:=dc (w:=w.alloc o1) (below_first hb); rw [e2] at this; exact this
 · have:=dc (w:=(w.alloc o1).alloc o2) hb; rw [e3] at this; exact this
theorem fb {w1 wr w2 : World} {B T : Nat} {v : Value} {xs : List Value} {o : Obj} (hb : Below B w1 wr) (ho : Own wr B T v xs) (hB : B ≤ w1.heap.size) (hg : (wr.alloc o).grownBy w2 v.ownBlock) : Below B w1 w2 :=
 (hb.alloc (Nat.le_trans hB hb.size) o).grown hg (by have:=hb.size; simp; omega) (fun k hk=>by
   have hh : wr.ownsRow B T 1 v xs.length xs:=ho
   exact (hh.lt k hk).1)
theorem below_trans {w w1 w2 : World} {B : Nat} (h1 : Below w.heap.size w w1) (h2 : Below B w1 w2) (hB : w.heap.size ≤ B) : Below w.heap.size w w2:=h1.trans (h2.mono hB)
theorem gt {w w' : World} {B : Nat} (h : Below B w w') (m : Nat) : Below B w (w'.drewN m):=h.trans ⟨rfl,rfl,rfl,Nat.le_refl _,fun _ _=>rfl⟩
theorem Own.slice32 {w : World} {B T : Nat} {v : Value} {ds : List Nat} (h : Own w B T v (u32s ds)) : ∃ A c,v = .slice A ds.length c ∧ Row w A (u32s ds) ∧ ds.length ≤ c ∧ (A = none → c = 0):=by
 have:=h.slice
 rwa [an] at this
theorem Own.slice8 {w : World} {B T : Nat} {v : Value} {ds : List Nat} (h : Own w B T v (u8s ds)) : ∃ A c,v = .slice A ds.length c ∧ Row w A (u8s ds) ∧ ds.length ≤ c ∧ (A = none → c = 0):=by
 have:=h.slice
 rwa [av] at this
theorem Own.row32 {w : World} {B T n c : Nat} {A : Option Addr} {ds : List Nat} (h : Own w B T (.slice A n c) (u32s ds)) : Row w A (u32s ds):=by
 obtain ⟨A',c',e,hr,_⟩:=h.slice
 injection e with e1
 subst e1; exact hr
theorem Own.row8 {w : World} {B T n c : Nat} {A : Option Addr} {ds : List Nat} (h : Own w B T (.slice A n c) (u8s ds)) : Row w A (u8s ds):=by
 obtain ⟨A',c',e,hr,_⟩:=h.slice
 injection e with e1
 subst e1; exact hr
theorem Own.setOther {w : World} {B T T' : Nat} {v u0 : Value} {xs : List Value} (h : Own w B T v xs) {g : Nat} (hg : w.heap[g]? = some (.cells #[u0] T' (0,0))) (hne : T ≠ T') (u : Value) : Own (w.setCell ⟨g,0,none⟩ u) B T v xs:=by
 have hh : w.ownsRow B T 1 v xs.length xs:=h
 refine ownsRow_setCell_other hh ?_ u
 rcases hh.2 with ⟨rfl,_⟩ | ⟨g',cap,cur,rfl,_,hg',_⟩
 · simp [Value.ownBlock]
 · intro he; have : g' = g:=by simpa [Value.ownBlock] using he
   subst this; rw [hg'] at hg; injection hg with hg; injection hg with _ ht; exact hne ht
theorem gk {w : World} {B g n c : Nat} {ds : List Nat} (h : Own w B 81 (.slice (some ⟨g,0,none⟩) n c) (u32s ds)) (k d : Nat) :
   Own (w.setCell ⟨g,k,none⟩ (.int .u32 (d : Int))) B 81 (.slice (some ⟨g,0,none⟩) n c) (u32s (ds.set k d)):=by
 have hn:=h.lt.1
 have hh : w.ownsRow B 81 1 (.slice (some ⟨g,0,none⟩) n c) n (u32s ds):=by rw [hn]; rw [hn] at h; exact h
 have:=(hh.stored k (.int .u32 (d : Int))).1
 rw [show (u32s ds).set k (.int .u32 (d : Int)) = u32s (ds.set k d) from by simp [u32s,List.map_set]] at this
 exact Own.mk_ this
theorem own_cell {w : World} {B T g n c : Nat} {xs : List Value} (h : Own w B T (.slice (some ⟨g,0,none⟩) n c) xs) {k : Nat} (hk : k < xs.length) : w.cell? ⟨g,k,none⟩ = some xs[k] ∧ w.frozen? ⟨g,k,none⟩ = false:=by
 have hn:=h.lt.1
 have hh : w.ownsRow B T 1 (.slice (some ⟨g,0,none⟩) n c) n xs:=by rw [hn]; rw [hn] at h; exact h
 refine ⟨?_,hh.frozenAt k⟩
 rw [hh.cellAt k (by omega)]
 exact List.getElem?_eq_getElem hk
theorem kx {w : World} {B n : Nat} {v : Value} (h : w.ownsRow B 81 1 v n (madeCells #[Value.int .u32 0] n).toList) : Own w B 81 v (u32s (List.replicate n 0)):=by
 rw [toList_madeCells_one,show List.replicate n (Value.int .u32 0) = u32s (List.replicate n 0) from by simp [u32s]] at h
 exact Own.mk_ h
theorem own_lit32 (w : World) {B : Nat} (d : Nat) (hB : B ≤ w.heap.size) : Own (w.alloc (.cells #[Value.int .u32 (d : Int)] 81)) B 81 (.slice (some ⟨w.heap.size,0,none⟩) 1 1) (u32s [d]) :=
 Own.mk_ (World.ownsRow_lit w #[Value.int .u32 (d : Int)] 1 hB (by decide) rfl)
theorem ky {w : World} {g1 g2 : Nat} {a1 a2 u1 u2 : Value} {t1 t2 : TypeId} (h1 : w.heap[g1]? = some (.cells #[a1] t1 (0,0))) (h2 : w.heap[g2]? = some (.cells #[a2] t2 (0,0))) (hne : g1 ≠ g2) :
   (w.setCell ⟨g1,0,none⟩ u1).heap[g2]? = some (.cells #[a2] t2 (0,0)) ∧ ((w.setCell ⟨g1,0,none⟩ u1).setCell ⟨g2,0,none⟩ u2).heap[g1]? = some (.cells #[u1] t1 (0,0)) ∧ ((w.setCell ⟨g1,0,none⟩ u1).setCell ⟨g2,0,none⟩ u2).heap[g2]? = some (.cells #[u2] t2 (0,0)):=by
 have e1 : (w.setCell ⟨g1,0,none⟩ u1).heap[g2]? = some (.cells #[a2] t2 (0,0)):=(Below.heap_setCell _ _ _ _ (fun e=>hne e.symm)).trans h2
 exact ⟨e1,(Below.heap_setCell _ _ _ _ hne).trans (one_setCell h1),one_setCell e1⟩
theorem new_at {w : World} {o : Obj} {k : Nat} (h : k = w.heap.size) : (w.alloc o).heap[k]? = some o:=by subst h; exact heap_alloc_new w o
theorem kk {w W : World} {o1 o2 o3 o4 : Obj} (h : W = (((w.alloc o1).alloc o2).alloc o3).alloc o4) :
   Below w.heap.size w W ∧ W.heap.size = w.heap.size + 4 ∧ W.heap[w.heap.size]? = some o1 ∧ W.heap[w.heap.size + 1]? = some o2 ∧ W.heap[w.heap.size + 1 + 1]? = some o3 ∧ W.heap[w.heap.size + 1 + 1 + 1]? = some o4:=by
 subst h
 refine ⟨below_first (below_first (below_first ((Below.refl _ _).alloc (Nat.le_refl _) _))),by simp,?_,?_,?_,?_⟩
 · rw [Below.heap_alloc _ _ _ (by simp <;> omega),Below.heap_alloc _ _ _ (by simp <;> omega),Below.heap_alloc _ _ _ (by simp)]; exact new_at rfl
 · rw [Below.heap_alloc _ _ _ (by simp <;> omega),Below.heap_alloc _ _ _ (by simp)]; exact new_at (by simp)
 · rw [Below.heap_alloc _ _ _ (by simp)]; exact new_at (by simp)
 · exact new_at (by simp)
theorem fp {k : IntKind} {a b : Int} (h : a = b) : Ending.returned (.int k a) = .returned (.int k b):=by rw [h]
end Go.Proofs.YtnbhihhjgpddcaaGreatDoor
namespace Go.Proofs.YtnbhihhjgpddcaaGreatDoor
def val : List Nat → Nat
 | []=>0
 | d :: ds=>d + 1000000000 * val ds
theorem ee (xs ys : List Nat) : val (xs ++ ys) = val xs + 1000000000 ^ xs.length * val ys:=by
 induction xs with
 | nil=>simp [val]
 | cons x xs ih=>simp only [List.cons_append,val,ih,List.length_cons,Nat.pow_succ]; rw [Nat.mul_add,Nat.mul_comm (1000000000 ^ xs.length) 1000000000,Nat.mul_assoc]; omega
theorem eh (xs : List Nat) (d : Nat) : val (xs ++ [d]) = val xs + 1000000000 ^ xs.length * d:=by
 rw [ee]; simp [val]
theorem ei (ds : List Nat) (k : Nat) (hk : k < ds.length) : val (ds.take (k + 1)) = val (ds.take k) + 1000000000 ^ k * ds.getD k 0:=by
 rw [List.take_add_one,List.getElem?_eq_getElem hk]
 simp only [Option.toList_some]
 rw [eh,List.length_take,Nat.min_eq_left (by omega),List.getD_eq_getElem?_getD,List.getElem?_eq_getElem hk]
 rfl
def small (b : Nat) (ds : List Nat) : Prop:=∀ d ∈ ds,d < b
theorem br (b : Nat) : small b []:=fun d h=>by cases h
theorem small_snoc {b d : Nat} {ds : List Nat} (h : small b ds) (hd : d < b) : small b (ds ++ [d]):=by
 intro x hx
 rcases List.mem_append.1 hx with h1 | h1
 · exact h x h1
 · rw [List.mem_singleton.1 h1]; exact hd
theorem bl {ds : List Nat} {b : Nat} (h : small b ds) (hb : 0 < b) (k : Nat) : ds.getD k 0 < b:=by
 rw [List.getD_eq_getElem?_getD]
 cases hk : ds[k]? with
 | none=>simpa using hb
 | some x=>simpa using h x (List.mem_of_getElem? hk)
theorem small_take {b : Nat} {ds : List Nat} (h : small b ds) (k : Nat) : small b (ds.take k):=fun d hd=>h d (List.mem_of_mem_take hd)
theorem small_drop {b : Nat} {ds : List Nat} (h : small b ds) (k : Nat) : small b (ds.drop k):=fun d hd=>h d (List.mem_of_mem_drop hd)
theorem small_mono {b b' : Nat} {ds : List Nat} (h : small b ds) (hb : b ≤ b') : small b' ds:=fun d hd=>Nat.lt_of_lt_of_le (h d hd) hb
theorem val_lt {ds : List Nat} (h : small 1000000000 ds) : val ds < 1000000000 ^ ds.length:=by
 induction ds with
 | nil=>simp [val]
 | cons d ds ih =>
   have h1:=h d (List.mem_cons_self ..); have h2:=ih (fun x hx=>h x (List.mem_cons_of_mem _ hx)); simp only [val,List.length_cons,Nat.pow_succ]; omega
def strip : List Nat → List Nat
 | []=>[]
 | d :: ds => match strip ds with
   | []=>if d = 0 then [] else [d]
   | r=>d :: r
theorem de (ds : List Nat) (k : Nat) (h : ∀ j,k ≤ j → ds.getD j 0 = 0) (hk : k ≤ ds.length) (hlast : k = 0 ∨ ds.getD (k - 1) 0 ≠ 0) : strip ds = ds.take k:=by
 induction ds generalizing k with
 | nil=>simp at hk; subst hk; rfl
 | cons d ds ih =>
   cases k with
   | zero =>
     have h0 : d = 0:=by simpa using h 0 (by omega)
     have:=ih 0 (fun j _=>by simpa using h (j + 1) (by omega)) (by omega) (.inl rfl); simp [strip,this,h0]
   | succ k =>
     have hh:=ih k (fun j hj=>by simpa using h (j + 1) (by omega)) (by simpa using hk) (by
       cases k with
       | zero=>exact .inl rfl
       | succ k => right; rcases hlast with h1 | h1
                   · omega
                   · simpa using h1)
     rw [strip,hh]
     cases k with
     | zero =>
       have : d ≠ 0:=by
         rcases hlast with h1 | h1
         · omega
         · simpa using h1
       simp [this]
     | succ k =>
       cases ds with
       | nil=>simp at hk
       | cons x xs=>simp
def right (ds : List Nat) : Prop:=small 1000000000 ds ∧ (ds = [] ∨ ds.getLast? ≠ some 0)
theorem ek (ds : List Nat) : val (strip ds) = val ds:=by
 induction ds with
 | nil=>rfl
 | cons d ds ih =>
   rw [strip]; split
   · rename_i h
     rw [h] at ih; simp only [val] at ih ⊢; split
     · rename_i h0; simp only [val]; omega
     · simp only [val]; omega
   · simp only [val,ih]
theorem strip_mem (ds : List Nat) (x : Nat) (h : x ∈ strip ds) : x ∈ ds:=by
 induction ds with
 | nil=>exact h
 | cons d ds ih =>
   rw [strip] at h; split at h
   · split at h
     · cases h
     · rw [List.mem_singleton.1 h]; exact List.mem_cons_self ..
   · rcases List.mem_cons.1 h with h1 | h1
     · rw [h1]; exact List.mem_cons_self ..
     · exact List.mem_cons_of_mem _ (ih h1)
theorem strip_last (ds : List Nat) : strip ds = [] ∨ (strip ds).getLast? ≠ some 0:=by
 induction ds with
 | nil=>exact .inl rfl
 | cons d ds ih =>
   rw [strip]; split
   · split
     · exact .inl rfl
     · right; simp; omega
   · rename_i r hr
     right; rcases ih with h | h
     · exact absurd h hr
     · cases hs : strip ds with
       | nil=>exact absurd hs hr
       | cons x xs=>rw [hs] at h; rw [List.getLast?_cons_cons]; exact h
theorem df {ds : List Nat} (h : small 1000000000 ds) : right (strip ds):=⟨fun x hx=>h x (strip_mem ds x hx),strip_last ds⟩
theorem strip_length (ds : List Nat) : (strip ds).length ≤ ds.length:=by
 induction ds with
 | nil=>exact Nat.le_refl _
 | cons d ds ih =>
   rw [strip]; split
   · split <;> simp
   · simpa using ih
theorem kz : right []:=⟨br _,.inl rfl⟩
theorem right_tail {d : Nat} {ds : List Nat} (h : right (d :: ds)) : right ds:=by
 refine ⟨fun x hx=>h.1 x (List.mem_cons_of_mem _ hx),?_⟩
 rcases h.2 with h1 | h1
 · cases h1
 · cases ds with
   | nil=>exact .inl rfl
   | cons x xs=>rw [List.getLast?_cons_cons] at h1; exact .inr h1
theorem fx {ds : List Nat} (h : right ds) (hne : ds ≠ []) : 1000000000 ^ (ds.length - 1) ≤ val ds:=by
 induction ds with
 | nil=>exact absurd rfl hne
 | cons d ds ih =>
   cases ds with
   | nil =>
     have : d ≠ 0:=by
       rcases h.2 with h1 | h1
       · cases h1
       · simpa using h1
     simp [val]; omega
   | cons x xs =>
     have:=ih (right_tail h) (by simp); simp only [val,List.length_cons,Nat.add_sub_cancel,Nat.pow_succ] at this ⊢; omega
theorem right_zero {ds : List Nat} (h : right ds) (h0 : val ds = 0) : ds = []:=by
 rcases Decidable.em (ds = []) with h1 | h1
 · exact h1
 · have:=fx h h1; have h2 : 0 < 1000000000 ^ (ds.length - 1):=Nat.pow_pos (by omega); omega
theorem right_unique {xs ys : List Nat} (hx : right xs) (hy : right ys) (h : val xs = val ys) : xs = ys:=by
 induction xs generalizing ys with
 | nil=>exact (right_zero hy (by rw [← h]; rfl)).symm
 | cons x xs ih =>
   cases ys with
   | nil=>exact right_zero hx (by rw [h]; rfl)
   | cons y ys =>
     have h1:=hx.1 x (List.mem_cons_self ..); have h2:=hy.1 y (List.mem_cons_self ..); simp only [val] at h; have e1 : x = y:=by omega
     have e2 : val xs = val ys:=by omega
     rw [e1,ih (right_tail hx) (right_tail hy) e2]
theorem eo {xs ys : List Nat} (hx : right xs) (hy : right ys) (h : xs.length < ys.length) : val xs < val ys:=by
 have h1:=val_lt hx.1
 have h2:=fx hy (fun e=>by subst e; simp at h)
 have h3 : 1000000000 ^ xs.length ≤ 1000000000 ^ (ys.length - 1):=Nat.pow_le_pow_right (by omega) (by omega)
 omega
theorem right_length_le {xs : List Nat} (hx : right xs) {k : Nat} (h : val xs < 1000000000 ^ k) : xs.length ≤ k:=by
 rcases Nat.lt_or_ge k xs.length with h1 | h1
 · have h2:=fx hx (fun e=>by subst e; simp at h1); have h3 : 1000000000 ^ k ≤ 1000000000 ^ (xs.length - 1):=Nat.pow_le_pow_right (by omega) (by omega); omega
 · exact h1
theorem aux32 (d v q : Nat) (h1 : d < 4294967296) (h2 : v * 999999999 + 4294967295 ≤ q) : (d + 1000000000 * v) * 999999999 + 4294967295 ≤ q * 1000000000:=by
 have e : (d + 1000000000 * v) * 999999999 = d * 999999999 + 1000000000 * (v * 999999999):=by rw [Nat.add_mul,Nat.mul_assoc]
 have h3:=Nat.mul_le_mul_left 1000000000 h2
 have h4 : d * 999999999 ≤ 4294967295 * 999999999:=Nat.mul_le_mul_right _ (by omega)
 have e5 : 4294967295 * 999999999 + 4294967295 = 1000000000 * 4294967295:=by decide
 rw [Nat.mul_add] at h3
 rw [e,Nat.mul_comm q]
 exact Nat.le_trans (by rw [Nat.add_right_comm]; exact Nat.add_le_add_right (Nat.le_trans (Nat.add_le_add_right h4 _) (Nat.le_of_eq e5)) _) (Nat.le_trans (Nat.le_of_eq (Nat.add_comm _ _)) h3)
theorem val_lt32' {ds : List Nat} (h : small 4294967296 ds) : val ds * 999999999 + 4294967295 ≤ 4294967295 * 1000000000 ^ ds.length:=by
 induction ds with
 | nil=>simp [val]
 | cons d ds ih =>
   have h2:=aux32 d (val ds) _ (h d (List.mem_cons_self ..)) (ih (fun x hx=>h x (List.mem_cons_of_mem _ hx))); rw [Nat.mul_assoc,← Nat.pow_succ] at h2; exact h2
theorem aux32' (v p : Nat) (h : v * 999999999 + 4294967295 ≤ 4294967295 * p) : v < p * 1000000000:=by omega
theorem val_lt32 {ds : List Nat} (h : small 4294967296 ds) : val ds < 1000000000 ^ (ds.length + 1):=by
 rw [Nat.pow_succ]
 exact aux32' _ _ (val_lt32' h)
end Go.Proofs.YtnbhihhjgpddcaaGreatDoor
namespace Go.Proofs.YtnbhihhjgpddcaaGreatDoor
open Go.RowKit
theorem at_any {w : World} {A : Option Addr} {c : Nat} {ds : List Nat} (hr : Row w A (u32s ds)) (hd : ∀ d ∈ ds,d < 4294967296) (i : Int) (h0 : 0 ≤ i) :
   Calls Tryz.prog 165 #[.slice A ds.length c,.int .i64 i] w fun e w'=>e = .returned (.int .u64 ((ds.getD i.toNat 0 : Nat) : Int)) ∧ w = w':=by
 obtain ⟨k,rfl⟩:=Int.eq_ofNat_of_zero_le h0
 rw [Int.toNat_natCast]
 by_cases hk : k < ds.length
 · obtain ⟨ad,x,rfl,hc,hx,hm⟩:=hr.dig hk; have hb:=hd x hm; clear hm
   go_enter Tryz.func165,Tryz.ntmps165
   go_wp2
   go_ret
   exact ⟨fp (by rw [hx.out]),rfl⟩
 · have e : ds.getD k 0 = 0:=by rw [List.getD_eq_getElem?_getD,List.getElem?_eq_none (by omega)]; rfl
   rw [e]
   go_enter Tryz.func165,Tryz.ntmps165
   go_wp2
   go_ret
   exact ⟨rfl,rfl⟩
theorem none_any (w : World) (A : Option Addr) (n c : Nat) :
   Calls Tryz.prog 158 #[.slice A n c] w fun e w'=>e = .returned (.bool ((n : Int) == 0)) ∧ w = w':=by
 go_enter Tryz.func158,Tryz.ntmps158
 go_wp2
 go_ret
 exact ⟨rfl,rfl⟩
theorem stripped_any {w : World} {B : Nat} {A : Option Addr} {n c : Nat} {ds : List Nat} (ho : Own w B 81 (.slice A n c) (u32s ds)) (hlen : ds.length ≤ 1000000) :
   Calls Tryz.prog 155 #[.slice A n c] w fun e w'=>(∃ v,e = .returned v ∧ Own w B 81 v (u32s (strip ds))) ∧ w = w':=by
 obtain ⟨A',c',e,hr,hle,_⟩:=ho.slice
 injection e with e1 e2 e3
 subst e1; subst e2; subst e3
 rw [an] at ho hle ⊢
 go_enter Tryz.func155,Tryz.ntmps155
 go_wp2
 go_loop [3] (fun i=>∃ k : Nat,k ≤ ds.length ∧ i = .int .i64 k ∧ ∀ j,k ≤ j → ds.getD j 0 = 0) (fun i=>(intOf i).toNat)
 case atStart=>exact ⟨ds.length,Nat.le_refl _,rfl,fun j hj=>by rw [List.getD_eq_getElem?_getD,List.getElem?_eq_none hj]; rfl⟩
 case round =>
   obtain ⟨k,hk,rfl,hz⟩:=hrel; have HZ:=Lib.hid hz; clear hz; rcases Nat.eq_zero_or_pos k with rfl | hpos
   · go_wp2
     go_ret
     exact ⟨⟨_,rfl,by rw [de ds 0 HZ.out (Nat.zero_le _) (.inl rfl)]; exact Own.nil _ _ _⟩,rfl⟩
   · obtain ⟨ad,x,rfl,hc,hx,_⟩:=hr.dig (k:=k - 1) (by omega); have hb : k ≤ c:=by omega
     by_cases hd : x = 0
     · subst hd
       go_wp2
       go_round
       case rel=>exact ⟨k - 1,by omega,by go_num,fun j hj=>by
         rcases Nat.lt_or_ge j k with h | h
         · have : j = k - 1:=by omega
           rw [this]; exact hx.out
         · exact HZ.out j h⟩
       case measure=>simp [intOf]; omega
     · have ht : ((x : Int) == 0) = false:=by rw [beq_eq_false_iff_ne]; omega
       have hk0 : ((k : Int) == 0) = false:=by rw [beq_eq_false_iff_ne]; omega
       have HD:=Lib.hid hd; clear hd
       go_wp2
       go_ret
       refine ⟨⟨_,rfl,?_⟩,rfl⟩; rw [de ds k HZ.out hk (.inr (by rw [hx.out]; exact HD.out)),← u32s_take]; exact ho.cut k (by rw [an]; exact hk)
theorem at_q {w : World} {A : Option Addr} {c : Nat} {ds : List Nat} (hr : Row w A (u32s ds)) (hd : ∀ d ∈ ds,d < 4294967296) (i : Int) (h0 : 0 ≤ i) :
   Calls Tryz.prog 165 #[.slice A ds.length c,.int .i64 i] w fun e w'=>e = .returned (.int .u64 ((ds.getD i.toNat 0 : Nat) : Int)) ∧ w' = w :=
 (at_any hr hd i h0).mono fun _ _ h=>⟨h.1,h.2.symm⟩
def IsNat (w : World) (B : Nat) (v : Value) (n : Nat) : Prop:=∃ rs,right rs ∧ val rs = n ∧ Own w B 81 v (u32s rs)
def RetNat (w : World) (n : Nat) (e : Ending) (w' : World) : Prop:=∃ v,e = .returned v ∧ IsNat w' w.heap.size v n ∧ Below w.heap.size w w'
theorem carry_step {out ds : List Nat} {k cy : Nat} (hk : k < ds.length) (hlen : out.length = k) (hval : val out + 1000000000 ^ k * cy = val (ds.take k)) :
   val (out ++ [(cy + ds.getD k 0) % 1000000000]) + 1000000000 ^ (k + 1) * ((cy + ds.getD k 0) / 1000000000) = val (ds.take (k + 1)):=by
 rw [eh,ei ds k hk,← hval,hlen,Nat.pow_succ,Nat.add_assoc,Nat.mul_assoc,← Nat.mul_add,Nat.mod_add_div,Nat.mul_add,Nat.add_assoc]
theorem ep : (Tryz.prog.info? 81).map (fun i=>(i.zero,i.size,i.bytes)) = some (some (.int .u32 0),1,4):=by kernel_rfl
theorem carried_any {w : World} {A : Option Addr} {c : Nat} {ds : List Nat} (hr : Row w A (u32s ds)) (hd : small 4294967296 ds) (hlen : ds.length ≤ 100000) :
   Calls Tryz.prog 148 #[.slice A ds.length c] w (RetNat w (val ds)):=by
 obtain ⟨i0,hi,hz0,hz1,hz2⟩:=info_parts ep
 obtain ⟨B,hB⟩ : ∃ B,B = w.heap.size:=⟨_,rfl⟩
 have HB:=Lib.hid hB
 clear hB
 have hl63 : ds.length ≤ 9223372036854775807:=by omega
 go_enter Tryz.func148,Tryz.ntmps148
 go_wp2_with (at_make; refine wpList_make_own _ rfl _ _ 128 rfl B 81 i0 (.int .u32 0) 1 Tryz.underlying128 hi hz0 hz1 .i64 .i64 ((ds.length : Int) + 1) (ds.length + 1) rfl rfl (by omega) ?b2 ?b3 ?b4 ?_)
 case b2=>rw [hz2]; omega
 case b3=>unfold maxLen; omega
 case b4=>rw [HB.out]; exact Nat.le_refl _
 intro w1 hown hgrow
 have hb1 : Below w.heap.size w w1:=(Below.refl _ _).grown hgrow (Nat.le_refl _) (fun k h=>by cases h)
 have ho1 : Own w1 B 81 (.slice (some ⟨w.heap.size,0,none⟩) 0 (ds.length + 1)) (u32s []):=Own.mk_ hown
 clear hown hgrow
 go_wp2_with fail
 go_loopw [3, 4, 13] (fun v cv i wr => ∃ (k cy : Nat) (out : List Nat), k ≤ ds.length ∧ i = .int .i64 k ∧ cv = .int .u64 cy ∧ cy ≤ 4 ∧ Own wr B 81 v (u32s out) ∧ Hid (out.length = k ∧ small 1000000000 out ∧ val out + 1000000000 ^ k * cy = val (ds.take k)) ∧ Below w.heap.size w wr)
   (fun _ _ i _=>ds.length - (intOf i).toNat)
 case atStart=>exact ⟨0,0,[],Nat.zero_le _,rfl,rfl,by omega,ho1,⟨rfl,br _,by simp [val]⟩,hb1⟩
 case round =>
   obtain ⟨k,cy,out,hk,rfl,rfl,hcy,hout,HO,hb⟩:=hrel
   by_cases hlt : k < ds.length
   · obtain ⟨ad,x,rfl,hc,hx,hm⟩:=(hr.below hb).dig hlt; have hxb:=hd x hm; clear hm; have hsz:=hb.size
     go_wp2_with (at_builtin; refine wpList_append_own _ rfl _ _ 128 rfl B 81 i0 (.int .u32 0) 1 4 Tryz.underlying128 hi hz0 hz1 hz2 rfl (by decide) _ _ _ rfl (hout.alloc _) ⟨wr.heap.size,0,none⟩ 1 1 [.int .u32 ((((cy + x) % 1000000000 : Nat)) : Int)] rfl rfl ?c1 ?c2 ?c3 ?c4 ?c5 ?_)
     case c1=>exact one_news (int_eq (by omega))
     case c2=>exact cx
     case c3=>rw [an,HO.out.1]; unfold maxLen; omega
     case c4=>rw [an,HO.out.1]; omega
     case c5=>rw [HB.out]; simp; omega
     intro v' w2 hown' hgrow _; have ho2:=dp hown'; have hb2:=dn hb hout HB hgrow; clear hown' hgrow hc hout hb
     go_wp2
     go_roundw
     case rel=>exact ⟨k + 1,(cy + x) / 1000000000,_,by omega,by go_num,by go_num,by omega,ho2,by
       have h:=HO.out; rw [← hx.out]
       exact ⟨by rw [List.length_append,h.1]; rfl,small_snoc h.2.1 (Nat.mod_lt _ (by decide)),carry_step hlt h.1 h.2.2⟩,hb2⟩
     case measure=>simp [intOf]; omega
   · have hk' : k = ds.length:=by omega
     have HK:=Lib.hid hk'; clear hk'; have hsz:=hb.size
     go_wp2_with (at_builtin; refine wpList_append_own _ rfl _ _ 128 rfl B 81 i0 (.int .u32 0) 1 4 Tryz.underlying128 hi hz0 hz1 hz2 rfl (by decide) _ _ _ rfl (hout.alloc _) ⟨wr.heap.size,0,none⟩ 1 1 [.int .u32 (cy : Int)] rfl rfl ?d1 ?d2 ?d3 ?d4 ?d5 ?_)
     case d1=>exact one_news rfl
     case d2=>exact cx
     case d3=>rw [an,HO.out.1]; unfold maxLen; omega
     case d4=>rw [an,HO.out.1]; omega
     case d5=>rw [HB.out]; simp; omega
     intro v' w2 hown' hgrow _; have ho2:=dp hown'; have hb2:=dn hb hout HB hgrow; clear hown' hgrow hout hb; obtain ⟨A2,c2,rfl,_⟩:=ho2.slice; have hl : (out ++ [cy]).length ≤ 1000000:=by rw [List.length_append,HO.out.1]; simp; omega
     go_wp2_with fail
     refine (stripped_any ho2 hl).mono ?_; rintro e w3 ⟨⟨v,rfl,hv⟩,rfl⟩
     go_wp2
     go_ret
     have h:=HO.out; exact ⟨v,rfl,⟨_,df (small_snoc h.2.1 (by omega)),by rw [ek,eh,h.1,h.2.2,HK.out,List.take_length],HB.out ▸ hv⟩,hb2⟩
def RetNum (w : World) (n : Nat) (e : Ending) (w' : World) : Prop:=∃ v,e = .returned (.agg #[v]) ∧ IsNat w' w.heap.size v n ∧ Below w.heap.size w w'
theorem of_any {w : World} {A : Option Addr} {c : Nat} {ds : List Nat} (hr : Row w A (u32s ds)) (hd : small 4294967296 ds) (hlen : ds.length ≤ 100000) :
   Calls Tryz.prog 132 #[.slice A ds.length c] w (RetNum w (val ds)):=by
 go_enter Tryz.func132,Tryz.ntmps132
 go_wp2_with fail
 refine (carried_any (hr.alloc _) hd hlen).mono ?_
 rintro e w1 ⟨v,rfl,⟨rs,hrs,hval,hown⟩,hb⟩
 have hfb:=dc hb
 have hc:=cell_of_one hfb
 have hf:=free_of_one hfb
 have hb':=below_first hb
 have hsz:=hb'.size
 obtain ⟨A2,c2,rfl,_⟩:=hown.slice
 have hcs:=cell_of_one (one_setCell (u:=.slice A2 (u32s rs).length c2) hfb)
 clear hb hfb
 go_wp2
 refine bodyPost_ret (v:=.agg #[.slice A2 (u32s rs).length c2]) (by simp [results,Tryz.results132,go_sem,hcs]) rfl ?_
 exact ⟨_,rfl,⟨rs,hrs,hval,(hown.setBelow (by simp) _).mono (by simp)⟩,hb'.setCell (Nat.le_refl _) _⟩
theorem fy (A : Option Addr) (n c : Nat) (w : World) : (Instr.field 130 (.agg #[.slice A n c]) 0).run Tryz.prog w = .ok (.slice A n c) w:=by kernel_rfl
def ordI (a b : Int) : Int:=if a < b then -1 else if b < a then 1 else 0
theorem nan_int (x : Int) (w : World) : Calls Tryz.prog 181 #[.int .i64 x] w fun e w'=>e = .returned (.bool false) ∧ w' = w:=by
 go_enter Tryz.func181,Tryz.ntmps181
 go_wp2
 go_ret
 exact ⟨by simp,rfl⟩
theorem nan_u32 (x : Int) (w : World) : Calls Tryz.prog 182 #[.int .u32 x] w fun e w'=>e = .returned (.bool false) ∧ w' = w:=by
 go_enter Tryz.func182,Tryz.ntmps182
 go_wp2
 go_ret
 exact ⟨by simp,rfl⟩
theorem cmp_int (x y : Int) (w : World) : Calls Tryz.prog 170 #[.int .i64 x,.int .i64 y] w fun e w'=>e = .returned (.int .i64 (ordI x y)) ∧ w = w':=by
 rcases Int.lt_trichotomy x y with h | h | h
 · go_enter Tryz.func170,Tryz.ntmps170
   go_wp2_with (first | (go_at_call 181; refine (nan_int _ _).mono ?_; rintro e w' ⟨rfl,rfl⟩))
   go_ret
   exact ⟨fp (by unfold ordI; rw [if_pos h]),rfl⟩
 · subst h
   go_enter Tryz.func170,Tryz.ntmps170
   go_wp2_with (first | (go_at_call 181; refine (nan_int _ _).mono ?_; rintro e w' ⟨rfl,rfl⟩))
   go_ret
   exact ⟨fp (by unfold ordI; rw [if_neg (by omega),if_neg (by omega)]),rfl⟩
 · go_enter Tryz.func170,Tryz.ntmps170
   go_wp2_with (first | (go_at_call 181; refine (nan_int _ _).mono ?_; rintro e w' ⟨rfl,rfl⟩))
   go_ret
   exact ⟨fp (by unfold ordI; rw [if_neg (by omega),if_pos h]),rfl⟩
theorem cmp_u32 (x y : Int) (w : World) : Calls Tryz.prog 171 #[.int .u32 x,.int .u32 y] w fun e w'=>e = .returned (.int .i64 (ordI x y)) ∧ w' = w:=by
 rcases Int.lt_trichotomy x y with h | h | h
 · go_enter Tryz.func171,Tryz.ntmps171
   go_wp2_with (first | (go_at_call 182; refine (nan_u32 _ _).mono ?_; rintro e w' ⟨rfl,rfl⟩))
   go_ret
   exact ⟨fp (by unfold ordI; rw [if_pos h]),rfl⟩
 · subst h
   go_enter Tryz.func171,Tryz.ntmps171
   go_wp2_with (first | (go_at_call 182; refine (nan_u32 _ _).mono ?_; rintro e w' ⟨rfl,rfl⟩))
   go_ret
   exact ⟨fp (by unfold ordI; rw [if_neg (by omega),if_neg (by omega)]),rfl⟩
 · go_enter Tryz.func171,Tryz.ntmps171
   go_wp2_with (first | (go_at_call 182; refine (nan_u32 _ _).mono ?_; rintro e w' ⟨rfl,rfl⟩))
   go_ret
   exact ⟨fp (by unfold ordI; rw [if_neg (by omega),if_pos h]),rfl⟩
theorem lc (ds : List Nat) (k : Nat) (hk : k ≤ ds.length) : val ds = val (ds.take k) + 1000000000 ^ k * val (ds.drop k):=by
 have:=ee (ds.take k) (ds.drop k)
 rw [List.take_append_drop,List.length_take,Nat.min_eq_left hk] at this
 exact this
theorem ec (ds : List Nat) (k : Nat) (hk : k < ds.length) : val (ds.drop k) = ds.getD k 0 + 1000000000 * val (ds.drop (k + 1)):=by
 rw [List.drop_eq_getElem_cons hk,val,List.getD_eq_getElem?_getD,List.getElem?_eq_getElem hk]; rfl
theorem ij {xs ys : List Nat} (hl : xs.length = ys.length) {k : Nat} (h : ∀ j,k ≤ j → xs.getD j 0 = ys.getD j 0) : xs.drop k = ys.drop k:=by
 apply List.ext_getElem?
 intro i
 rw [List.getElem?_drop,List.getElem?_drop]
 have:=h (k + i) (by omega)
 rw [List.getD_eq_getElem?_getD,List.getD_eq_getElem?_getD] at this
 rcases Nat.lt_or_ge (k + i) xs.length with h1 | h1
 · rw [List.getElem?_eq_getElem h1,List.getElem?_eq_getElem (by omega)] at this ⊢
   simpa using this
 · rw [List.getElem?_eq_none h1,List.getElem?_eq_none (by omega)]
theorem val_lt_of {xs ys : List Nat} (hx : small 1000000000 xs) (hl : xs.length = ys.length) {k : Nat} (hk : k < xs.length) (h : ∀ j,k + 1 ≤ j → xs.getD j 0 = ys.getD j 0) (hlt : xs.getD k 0 < ys.getD k 0) : val xs < val ys:=by
 rw [lc xs k (by omega),lc ys k (by omega),ec xs k hk,ec ys k (by omega),ij hl h]
 have h1:=val_lt (small_take hx k)
 rw [List.length_take,Nat.min_eq_left (by omega)] at h1
 have h2 : 1000000000 ^ k * (xs.getD k 0 + 1 + 1000000000 * val (ys.drop (k + 1))) ≤ 1000000000 ^ k * (ys.getD k 0 + 1000000000 * val (ys.drop (k + 1))):=Nat.mul_le_mul_left _ (by omega)
 have h3 : 1000000000 ^ k * (xs.getD k 0 + 1 + 1000000000 * val (ys.drop (k + 1))) = 1000000000 ^ k * (xs.getD k 0 + 1000000000 * val (ys.drop (k + 1))) + 1000000000 ^ k:=by
   rw [← Nat.mul_succ]; congr 1; omega
 omega
theorem ordI_length {xs ys : List Nat} (hx : right xs) (hy : right ys) (h : xs.length ≠ ys.length) : ordI (xs.length : Int) (ys.length : Int) = ordI (val xs : Int) (val ys : Int):=by
 unfold ordI
 rcases Nat.lt_or_ge xs.length ys.length with h1 | h1
 · have:=eo hx hy h1; rw [if_pos (by omega),if_pos (by omega)]
 · have:=eo hy hx (by omega); rw [if_neg (by omega),if_pos (by omega),if_neg (by omega),if_pos (by omega)]
theorem gw {w : World} {A1 A2 : Option Addr} {c1 c2 : Nat} {xs ys : List Nat} (hr1 : Row w A1 (u32s xs)) (hr2 : Row w A2 (u32s ys)) (hx : right xs) (hy : right ys) (hlen : xs.length ≤ 1000000) :
   Calls Tryz.prog 156 #[.slice A1 xs.length c1,.slice A2 ys.length c2] w fun e w'=>e = .returned (.int .i64 (ordI (val xs : Int) (val ys : Int))) ∧ Drawn w w':=by
 by_cases hl : xs.length = ys.length
 · have hne : (ordI (xs.length : Int) (ys.length : Int) != 0) = false:=by unfold ordI; rw [if_neg (by omega),if_neg (by omega)]; rfl
   have HL:=Lib.hid hl; clear hl
   go_enter Tryz.func156,Tryz.ntmps156
   go_wp2_with (first | (go_at_call 170; refine (cmp_int _ _ _).mono ?_; rintro e w' ⟨rfl,rfl⟩))
   go_loopw [6] (fun i wr=>∃ k : Nat,k ≤ xs.length ∧ i = .int .i64 ((k : Int) - 1) ∧ Hid (∀ j,k ≤ j → xs.getD j 0 = ys.getD j 0) ∧ Hid (Drawn w wr)) (fun i _=>(intOf i + 1).toNat)
   case atStart=>exact ⟨xs.length,Nat.le_refl _,rfl,fun j hj=>by
     rw [List.getD_eq_getElem?_getD,List.getD_eq_getElem?_getD,List.getElem?_eq_none hj,List.getElem?_eq_none (by rw [← HL.out]; exact hj)],Drawn.refl _⟩
   case round =>
     obtain ⟨k,hk,rfl,HE,HW⟩:=hrel; rcases Nat.eq_zero_or_pos k with rfl | hpos
     · go_wp2
       go_ret
       refine ⟨fp ?_,HW.out⟩; have : xs = ys:=by simpa using ij HL.out HE.out
       rw [this]; unfold ordI; rw [if_neg (by omega),if_neg (by omega)]
     · obtain ⟨p,rfl⟩ : ∃ p,k = p + 1:=⟨k - 1,by omega⟩
       rw [show ((p + 1 : Nat) : Int) - 1 = (p : Int) from by omega]; have hlt2 : p < ys.length:=by rw [← HL.out]; omega
       obtain ⟨ad1,x,rfl,hc1,hx1,_⟩:=(hr1.drawn HW.out).dig (k:=p) (by omega); obtain ⟨ad2,y,rfl,hc2,hy1,_⟩:=(hr2.drawn HW.out).dig (k:=p) hlt2; have hi1 : (p : Int) < xs.length:=by omega
       have hi2 : (p : Int) < ys.length:=by omega
       have hi0 : 0 ≤ (p : Int):=by omega
       rcases Nat.lt_trichotomy x y with h | h | h
       · have ht : (ordI (x : Int) (y : Int) != 0) = true:=by rw [bne_iff_ne]; unfold ordI; rw [if_pos (by omega)]; decide
         go_wp2
         go_quiet ((go_at_call 171; exact Calls.quiet_of_same (cmp_u32 _ _ _)))
         go_wp2
         go_ret
         refine ⟨fp ?_,HW.out.more nq⟩; have e1 : ordI (x : Int) (y : Int) = -1:=by unfold ordI; rw [if_pos (by omega)]
         have e2:=val_lt_of hx.1 HL.out (k:=p) (by omega) (fun j hj=>HE.out j hj) (by rw [hx1.out,hy1.out]; exact h); rw [e1]; unfold ordI; rw [if_pos (by omega)]
       · subst h; have ht : (ordI (x : Int) (x : Int) != 0) = false:=by unfold ordI; rw [if_neg (by omega),if_neg (by omega)]; rfl
         go_wp2
         go_quiet ((go_at_call 171; exact Calls.quiet_of_same (cmp_u32 _ _ _)))
         go_wp2
         go_roundw
         case rel=>exact ⟨p,by omega,by go_num,fun j hj=>by
           rcases Nat.lt_or_ge j (p + 1) with h | h
           · have : j = p:=by omega
             rw [this,hx1.out,hy1.out]
           · exact HE.out j h,HW.out.more nq⟩
         case measure=>first | (simp [intOf]; done) | (simp [intOf]; omega)
       · have ht : (ordI (x : Int) (y : Int) != 0) = true:=by rw [bne_iff_ne]; unfold ordI; rw [if_neg (by omega),if_pos (by omega)]; decide
         go_wp2
         go_quiet ((go_at_call 171; exact Calls.quiet_of_same (cmp_u32 _ _ _)))
         go_wp2
         go_ret
         refine ⟨fp ?_,HW.out.more nq⟩; have e1 : ordI (x : Int) (y : Int) = 1:=by unfold ordI; rw [if_neg (by omega),if_pos (by omega)]
         have e2:=val_lt_of hy.1 HL.out.symm (k:=p) hlt2 (fun j hj=>(HE.out j hj).symm) (by rw [hx1.out,hy1.out]; exact h); rw [e1]; unfold ordI; rw [if_neg (by omega),if_pos (by omega)]
 · have hne : (ordI (xs.length : Int) (ys.length : Int) != 0) = true:=by
     rw [bne_iff_ne]; unfold ordI; split
     · decide
     · split
       · decide
       · omega
   have HL:=Lib.hid hl; clear hl
   go_enter Tryz.func156,Tryz.ntmps156
   go_wp2_with (first | (go_at_call 170; refine (cmp_int _ _ _).mono ?_; rintro e w' ⟨rfl,rfl⟩))
   go_ret
   exact ⟨fp (ordI_length hx hy HL.out),Drawn.refl _⟩
theorem sum_step {out xs ys : List Nat} {k cy : Nat} (hlen : out.length = k) (hval : val out + 1000000000 ^ k * cy = val (xs.take k) + val (ys.take k)) :
   val (out ++ [(cy + (xs.getD k 0 + ys.getD k 0)) % 1000000000]) + 1000000000 ^ (k + 1) * ((cy + (xs.getD k 0 + ys.getD k 0)) / 1000000000) = val (xs.take (k + 1)) + val (ys.take (k + 1)):=by
 have h (ds : List Nat) : val (ds.take (k + 1)) = val (ds.take k) + 1000000000 ^ k * ds.getD k 0:=by
   rcases Nat.lt_or_ge k ds.length with h | h
   · exact ei ds k h
   · rw [List.take_of_length_le h,List.take_of_length_le (by omega),List.getD_eq_getElem?_getD,List.getElem?_eq_none h]; simp
 rw [eh,h,h,hlen,Nat.pow_succ,Nat.add_assoc,Nat.mul_assoc,← Nat.mul_add,Nat.mod_add_div,Nat.mul_add,Nat.mul_add]
 omega
theorem plus_any {w : World} {A1 A2 : Option Addr} {c1 c2 : Nat} {xs ys : List Nat} (hr1 : Row w A1 (u32s xs)) (hr2 : Row w A2 (u32s ys)) (hx : small 1000000000 xs) (hy : small 1000000000 ys) (hl1 : xs.length ≤ 100000) (hl2 : ys.length ≤ 100000) :
   Calls Tryz.prog 161 #[.agg #[.slice A1 xs.length c1],.agg #[.slice A2 ys.length c2]] w (RetNum w (val xs + val ys)):=by
 obtain ⟨i0,hi,hz0,hz1,hz2⟩:=info_parts ep
 obtain ⟨n,hn⟩ : ∃ n : Nat,n = max xs.length ys.length:=⟨_,rfl⟩
 have hn1 : n ≤ 100000:=by omega
 have hnc : max (xs.length : Int) (ys.length : Int) = (n : Int):=by omega
 have HN:=Lib.hid hn
 clear hn
 go_enter Tryz.func161,Tryz.ntmps161
 go_wp2_with (at_make; refine wpList_make_own _ rfl _ _ 128 rfl (w.heap.size + 3) 81 i0 (.int .u32 0) 1 Tryz.underlying128 hi hz0 hz1 .i64 .i64 ((n : Int) + 1) (n + 1) rfl rfl (by omega) ?b2 ?b3 ?b4 ?_)
 case b2=>rw [hz2]; omega
 case b3=>unfold maxLen; omega
 case b4=>simp
 intro w1 hown hgrow
 have ho1 : Own w1 (w.heap.size + 3) 81 _ (u32s []):=Own.mk_ hown
 obtain ⟨hb1,hs1,hA,hB,hC⟩:=jh hgrow
 have HA:=Lib.hid hA
 have HB:=Lib.hid hB
 have HC:=Lib.hid hC
 clear hown hgrow hnc hA hB hC
 have hx':=small_mono hx (show 1000000000 ≤ 4294967296 by decide)
 have hy':=small_mono hy (show 1000000000 ≤ 4294967296 by decide)
 go_wp2_with fail
 go_loopw [6, 7, 20] (fun v cv i wr => ∃ (k cy : Nat) (out : List Nat), k ≤ n ∧ i = .int .i64 k ∧ cv = .int .u64 cy ∧ cy ≤ 1 ∧ Own wr (w.heap.size + 3) 81 v (u32s out) ∧ Hid (out.length = k ∧ small 1000000000 out ∧ val out + 1000000000 ^ k * cy = val (xs.take k) + val (ys.take k)) ∧ Below (w.heap.size + 3) w1 wr)
   (fun _ _ i _=>n - (intOf i).toNat)
 case atStart=>exact ⟨0,0,[],Nat.zero_le _,rfl,rfl,by omega,ho1,⟨rfl,br _,by simp [val]⟩,Below.refl _ _⟩
 case round =>
   obtain ⟨k,cy,out,hk,rfl,rfl,hcy,hout,HO,hb⟩:=hrel; have hsz:=hb.size
   by_cases hlt : k < n
   · have bW:=below_trans hb1 hb (by omega); have hcA:=cell_of_one ((hb.block w.heap.size (by omega)).trans HA.out); have hcB:=cell_of_one ((hb.block (w.heap.size + 1) (by omega)).trans HB.out)
     obtain ⟨d1,hd1⟩ : ∃ d,d = xs.getD k 0:=⟨_,rfl⟩
     obtain ⟨d2,hd2⟩ : ∃ d,d = ys.getD k 0:=⟨_,rfl⟩
     have l1 : d1 < 1000000000:=by rw [hd1]; exact bl hx (by decide) k
     have l2 : d2 < 1000000000:=by rw [hd2]; exact bl hy (by decide) k
     have q1 : ∀ m,Calls Tryz.prog 165 #[.slice A1 xs.length c1,.int .i64 k] (wr.drewN m) (fun e w'=>e = .returned (.int .u64 (d1 : Int)) ∧ w' = wr.drewN m):=fun m=>by
       have:=at_q (c:=c1) ((hr1.below bW).drewN m) hx' k (by omega); rw [Int.toNat_natCast,← hd1] at this; exact this
     have q2 : ∀ m,Calls Tryz.prog 165 #[.slice A2 ys.length c2,.int .i64 k] (wr.drewN m) (fun e w'=>e = .returned (.int .u64 (d2 : Int)) ∧ w' = wr.drewN m):=fun m=>by
       have:=at_q (c:=c2) ((hr2.below bW).drewN m) hy' k (by omega); rw [Int.toNat_natCast,← hd2] at this; exact this
     have Q1:=Lib.hid q1; have Q2:=Lib.hid q2; have D1:=Lib.hid hd1; have D2:=Lib.hid hd2; clear q1 q2 hd1 hd2 bW; have s1 : IntKind.u64.wrap ((d1 : Int) + (d2 : Int)) = (d1 : Int) + (d2 : Int):=IntWalk.u64_in _ (by omega); have s2 : IntKind.u64.wrap ((cy : Int) + ((d1 : Int) + (d2 : Int))) = (cy : Int) + ((d1 : Int) + (d2 : Int)):=IntWalk.u64_in _ (by omega)
     go_wp2
     go_quiet ((go_at_call 165; first | (with_reducible exact Calls.quiet_of_same (Q1.out _)) | (with_reducible exact Calls.quiet_of_same (Q2.out _))))
     clear s1 s2; have hout' : Own (wr.drewN nq) (w.heap.size + 3) 81 u6 (u32s out):=hout; have hb':=gt hb nq; have hsz' : w1.heap.size ≤ (wr.drewN nq).heap.size:=hsz; clear hout hb hsz hcA hcB Q1 Q2
     generalize wr.drewN nq = wd at *
     go_wp2_with (at_builtin; refine wpList_append_own _ rfl _ _ 128 rfl (w.heap.size + 3) 81 i0 (.int .u32 0) 1 4 Tryz.underlying128 hi hz0 hz1 hz2 rfl (by decide) _ _ _ rfl (hout'.alloc _) ⟨wd.heap.size,0,none⟩ 1 1 [.int .u32 ((((cy + (d1 + d2)) % 1000000000 : Nat)) : Int)] rfl rfl ?c1 ?c2 ?c3 ?c4 ?c5 ?_)
     case c1=>exact one_news (int_eq (by omega))
     case c2=>exact cx
     case c3=>rw [an,HO.out.1]; unfold maxLen; omega
     case c4=>rw [an,HO.out.1]; omega
     case c5=>simp; omega
     intro v' w2 hown' hgrow' _; have ho2:=dp hown'; have hb2:=fb hb' hout' hs1 hgrow'; clear hown' hgrow' hout' hb'
     go_wp2
     go_roundw
     case rel=>exact ⟨k + 1,(cy + (d1 + d2)) / 1000000000,_,by omega,by go_num,by go_num,by omega,ho2,by
       have h:=HO.out; rw [D1.out,D2.out]
       exact ⟨by rw [List.length_append,h.1]; rfl,small_snoc h.2.1 (Nat.mod_lt _ (by decide)),sum_step h.1 h.2.2⟩,hb2⟩
     case measure=>simp [intOf]; omega
   · have hk' : k = n:=by omega
     have HK:=Lib.hid hk'; clear hk'
     go_wp2_with (at_builtin; refine wpList_append_own _ rfl _ _ 128 rfl (w.heap.size + 3) 81 i0 (.int .u32 0) 1 4 Tryz.underlying128 hi hz0 hz1 hz2 rfl (by decide) _ _ _ rfl (hout.alloc _) ⟨wr.heap.size,0,none⟩ 1 1 [.int .u32 (cy : Int)] rfl rfl ?d1 ?d2 ?d3 ?d4 ?d5 ?_)
     case d1=>exact one_news rfl
     case d2=>exact cx
     case d3=>rw [an,HO.out.1]; unfold maxLen; omega
     case d4=>rw [an,HO.out.1]; omega
     case d5=>simp; omega
     intro v' w2 hown' hgrow' _; have ho2:=dp hown'; have hb2:=fb hb hout hs1 hgrow'; clear hown' hgrow' hout hb; obtain ⟨A2',c2',rfl,_⟩:=ho2.slice; have hl : (out ++ [cy]).length ≤ 1000000:=by rw [List.length_append,HO.out.1]; simp; omega
     go_wp2_with fail
     refine (stripped_any ho2 hl).mono ?_; rintro e w3 ⟨⟨v,rfl,hv⟩,rfl⟩; have hcell:=(hb2.block (w.heap.size + 1 + 1) (by omega)).trans HC.out; have hc:=cell_of_one hcell; have hf:=free_of_one hcell; obtain ⟨A3,c3,rfl,_⟩:=hv.slice; have hcs:=cell_of_one (one_setCell (u:=.slice A3 (u32s (strip (out ++ [cy]))).length c3) hcell); clear hcell
     go_wp2
     refine bodyPost_ret (v:=.agg #[.slice A3 (u32s (strip (out ++ [cy]))).length c3]) (by simp [results,Tryz.results161,go_sem,hcs]) rfl ?_; have h:=HO.out; refine ⟨_,rfl,⟨_,df (small_snoc h.2.1 (by omega)),?_,(hv.setBelow (show w.heap.size + 1 + 1 < w.heap.size + 3 by omega) _).mono (by omega)⟩,(below_trans hb1 hb2 (by omega)).setCell (Nat.le_succ_of_le (Nat.le_succ _)) _⟩; rw [ek,eh,h.1,h.2.2,HK.out,HN.out,List.take_of_length_le (by omega),List.take_of_length_le (by omega)]
abbrev Arow:=Option Addr × Nat × List Nat
def sl (r : Arow) : Value:=.slice r.1 r.2.2.length r.2.1
def kj (w : World) (A : Option Addr) (L : List Arow) : Prop:=Row w A (L.map sl) ∧ ∀ r ∈ L,Row w r.1 (u32s r.2.2) ∧ small 4294967296 r.2.2 ∧ r.2.2.length ≤ 10000
def vals (L : List Arow) : List Nat:=L.map fun r=>val r.2.2
theorem kj.below {w w' : World} {A : Option Addr} {L : List Arow} (h : kj w A L) (hb : Below w.heap.size w w') : kj w' A L :=
 ⟨h.1.below hb,fun r hr=>⟨(h.2 r hr).1.below hb,(h.2 r hr).2⟩⟩
def RetNumB (w : World) (B n : Nat) (e : Ending) (w' : World) : Prop:=∃ v,e = .returned (.agg #[v]) ∧ IsNat w' B v n ∧ Below w.heap.size w w'
theorem fold_plus {w : World} {B0 N : Nat} {A1 A : Option Addr} {c1 c : Nat} {xs : List Nat} {L : List Arow} (hx : right xs) (ho1 : Own w B0 81 (.slice A1 xs.length c1) (u32s xs)) (hB0 : B0 ≤ w.heap.size) (hL : kj w A L)
   (hacc : ∀ k,k ≤ L.length → ((vals L).take k).foldl (fun a b=>a + b) (val xs) < 1000000000 ^ N) (hN : N ≤ 100000) (hlen : L.length ≤ 100000) :
   Calls Tryz.prog 160 #[.agg #[.slice A1 xs.length c1],.func (.func 161) #[] #[],.slice A L.length c] w (RetNumB w B0 ((vals L).foldl (fun a b=>a + b) (val xs))):=by
 have HAcc:=Lib.hid hacc
 clear hacc
 go_enter Tryz.func160,Tryz.ntmps160
 go_wp2_with fail
 obtain ⟨w1,hw1⟩ : ∃ w1,w1 = (w.alloc (Obj.cells #[Value.slice A1 xs.length c1] 130)).alloc (Obj.cells #[Value.slice none 0 0] 130):=⟨_,rfl⟩
 have hb1 : Below w.heap.size w w1:=by rw [hw1]; exact below_first ((Below.refl _ _).alloc (Nat.le_refl _) _)
 have hs1 : w1.heap.size = w.heap.size + 2:=by rw [hw1]; simp
 have HBox : Hid (w1.heap[w.heap.size]? = some (.cells #[Value.slice A1 xs.length c1] 130 (0,0))):=by
   rw [hw1]; exact dc ((Below.refl _ _).alloc (Nat.le_refl _) _)
 have HRes : Hid (w1.heap[w.heap.size + 1]? = some (.cells #[Value.slice none 0 0] 130 (0,0))):=by
   rw [hw1]; have:=heap_alloc_new (w.alloc (Obj.cells #[Value.slice A1 xs.length c1] 130)) (Obj.cells #[Value.slice none 0 0] 130); rw [show (w.alloc (Obj.cells #[Value.slice A1 xs.length c1] 130)).heap.size = w.heap.size + 1 from by simp] at this; exact this
 rw [← hw1]
 have HS1:=Lib.hid hs1
 clear hw1 hs1
 go_loopw [11] (fun i wr => ∃ (k : Nat) (A' : Option Addr) (c' : Nat) (rs : List Nat), k ≤ L.length ∧ i = .int .i64 k ∧ Hid (wr.heap[w.heap.size]? = some (.cells #[Value.slice A' rs.length c'] 130 (0, 0))) ∧ Hid (wr.heap[w.heap.size + 1]? = some (.cells #[Value.slice none 0 0] 130 (0, 0))) ∧
     right rs ∧ Hid (val rs = ((vals L).take k).foldl (fun a b=>a + b) (val xs)) ∧ Own wr B0 81 (.slice A' rs.length c') (u32s rs) ∧ Below w.heap.size w wr ∧ w1.heap.size ≤ wr.heap.size)
   (fun i _=>L.length - (intOf i).toNat)
 case atStart=>exact ⟨0,A1,c1,xs,Nat.zero_le _,rfl,HBox,HRes,hx,by simp [Hid],ho1.below hb1,hb1,Nat.le_refl _⟩
 case round =>
   obtain ⟨k,A',c',rs,hk,rfl,HB,HR,hrs,HV,hown,hb,hsz⟩:=hrel
   by_cases hlt : k < L.length
   · have hcb:=cell_of_one HB.out; have hfb:=free_of_one HB.out; obtain ⟨ad,rfl,hce⟩:=(hL.1.below hb).at_ (k:=k) (by simpa using hlt); rw [List.getElem_map] at hce
     obtain ⟨r,hr⟩ : ∃ r,r = L[k]:=⟨_,rfl⟩
     rw [← hr] at hce; have hrm : r ∈ L:=by rw [hr]; exact List.getElem_mem _
     obtain ⟨Ar,cr,ds⟩:=r; have hce' : wr.cell? (ad.add k) = some (.slice Ar ds.length cr):=hce; obtain ⟨hrd0,hdsm,hdsl⟩:=hL.2 _ hrm; have hrd : Row wr Ar (u32s ds):=Row.below hrd0 hb; have hdsm' : small 4294967296 ds:=hdsm; have hdsl' : ds.length ≤ 10000:=hdsl
     have HVs : Hid ((vals L).take (k + 1) = (vals L).take k ++ [val ds]):=by
       show _ = _
       rw [List.take_add_one,List.getElem?_eq_getElem (by simpa [vals] using hlt)]; simp only [vals,List.getElem_map,← hr,Option.toList_some]
     have hrl : rs.length ≤ 100000:=Nat.le_trans (right_length_le hrs (by rw [HV.out]; exact HAcc.out k hk)) hN; have hrr : Row wr.drew A' (u32s rs):=hown.row32; have hlw : w.heap.size + 2 ≤ wr.heap.size:=by rw [← HS1.out]; exact hsz
     clear hr hce hrm hrd0 hdsm hdsl
     go_wp2
     go_region_with (first
       | (go_at_call 132; refine (of_any (w:=wr.drew) hrd hdsm' (by omega)).mono ?_; rintro e w2 ⟨v2,rfl,⟨ys,hy,hyv,hyo⟩,hb2⟩; obtain ⟨A2,c2,rfl,hry,_⟩:=hyo.slice32; have hcb2 : w2.cell? ⟨w.heap.size,0,none⟩ = some (.slice A' rs.length c'):=(hb2.cell (p:=⟨w.heap.size,0,none⟩) (show w.heap.size < wr.heap.size by omega)).trans hcb)
       | (go_at_call 161; refine (plus_any (Row.below hrr hb2) hry hrs.1 hy.1 hrl (Nat.le_trans (right_length_le hy (by rw [hyv]; exact val_lt32 hdsm')) (by omega))).mono ?_; rintro e w3 ⟨v3,rfl,⟨zs,hz,hzv,hzo⟩,hb3⟩; obtain ⟨A3,c3,rfl,_⟩:=hzo.slice32; have hsz2 : wr.heap.size ≤ w2.heap.size:=hb2.size; have hB3:=(hb3.block w.heap.size (by omega)).trans ((hb2.block w.heap.size (show w.heap.size < wr.heap.size by omega)).trans HB.out); have hcb3:=cell_of_one hB3; have hfb3:=free_of_one hB3; have HB3:=Lib.hid hB3; clear hB3))
     all_goals
       go_wp2
       go_roundw
       case rel =>
         refine ⟨k + 1,A3,c3,zs,by omega,by go_num,one_setCell HB3.out,?_,hz,?_,?_,?_,?_⟩
         · exact (Below.heap_setCell _ _ _ _ (by simp)).trans ((hb3.block _ (by omega)).trans ((hb2.block (w.heap.size + 1) (show w.heap.size + 1 < wr.heap.size by omega)).trans HR.out))
         · show _ = _
           rw [HVs.out,List.foldl_append,← HV.out,hzv,hyv]; rfl
         · exact (hzo.setBelow (show w.heap.size < w2.heap.size by omega) _).mono (by omega)
         · exact (((Below.drew hb).trans (hb2.mono (show w.heap.size ≤ wr.heap.size by omega))).trans (hb3.mono (by omega))).setCell (Nat.le_refl _) _
         · have:=hb3.size; simp; omega
       case measure=>simp [intOf]; omega
   · have hcb:=cell_of_one HB.out; have hcr:=cell_of_one HR.out; have hfr:=free_of_one HR.out; have hcs:=cell_of_one (one_setCell (u:=.slice A' rs.length c') HR.out); have hk' : k = L.length:=by omega
     have HK:=Lib.hid hk'; clear hk'
     go_wp2
     refine bodyPost_ret (v:=.agg #[.slice A' rs.length c']) (by simp [results,Tryz.results160,go_sem,hcs]) rfl ?_; refine ⟨_,rfl,⟨rs,hrs,?_,hown.setOther HR.out (by decide) _⟩,hb.setCell (Nat.le_succ _) _⟩; rw [HV.out,HK.out]; congr 1; rw [List.take_of_length_le (by simp [vals])]
theorem add_any {w : World} {N : Nat} {A : Option Addr} {c : Nat} {L : List Arow} (hL : kj w A L) (hacc : ∀ k,k ≤ L.length → ((vals L).take k).foldl (fun a b=>a + b) 0 < 1000000000 ^ N) (hN : N ≤ 100000) (hlen : L.length ≤ 100000) :
   Calls Tryz.prog 146 #[.slice A L.length c] w (RetNat w ((vals L).foldl (fun a b=>a + b) 0)):=by
 have hf:=fold_plus (w:=w) (B0:=w.heap.size) (N:=N) (A1:=none) (c1:=0) (c:=c) (xs:=[]) kz (Own.nil _ _ _) (Nat.le_refl _) hL hacc hN hlen
 have HF:=Lib.hid hf
 have hfield:=fy
 clear hf hacc
 go_enter Tryz.func146,Tryz.ntmps146
 go_wp2_with fail
 refine HF.out.mono ?_
 rintro e w2 ⟨v,rfl,hv,hb⟩
 obtain ⟨rs,h1,h2,h3⟩:=hv
 obtain ⟨A2,c2,rfl,_⟩:=h3.slice32
 go_wp2
 go_ret
 exact ⟨_,rfl,⟨rs,h1,h2,h3⟩,hb⟩
theorem fq (ds : List Nat) (k : Nat) : val (ds.take (k + 1)) = val (ds.take k) + 1000000000 ^ k * ds.getD k 0:=by
 rcases Nat.lt_or_ge k ds.length with h | h
 · exact ei ds k h
 · rw [List.take_of_length_le h,List.take_of_length_le (by omega),List.getD_eq_getElem?_getD,List.getElem?_eq_none h]; simp
theorem diff_step {out xs ys : List Nat} {k bo x : Nat} (hlen : out.length = k) (hx : x + ys.getD k 0 + bo = xs.getD k 0 + 1000000000) (hlt : x < 2000000000) (hval : val out + val (ys.take k) = val (xs.take k) + 1000000000 ^ k * bo) :
   val (out ++ [x % 1000000000]) + val (ys.take (k + 1)) = val (xs.take (k + 1)) + 1000000000 ^ (k + 1) * (1 - x / 1000000000):=by
 rw [eh,fq,fq,hlen,Nat.pow_succ,Nat.mul_assoc]
 have h1 : x % 1000000000 + ys.getD k 0 + bo = xs.getD k 0 + 1000000000 * (1 - x / 1000000000):=by omega
 have h2 : 1000000000 ^ k * (x % 1000000000 + ys.getD k 0 + bo) = 1000000000 ^ k * (xs.getD k 0 + 1000000000 * (1 - x / 1000000000)):=by rw [h1]
 rw [Nat.mul_add,Nat.mul_add,Nat.mul_add] at h2
 omega
theorem minus_any {w : World} {A1 A2 : Option Addr} {c1 c2 : Nat} {xs ys : List Nat} (hr1 : Row w A1 (u32s xs)) (hr2 : Row w A2 (u32s ys)) (hx : small 1000000000 xs) (hy : small 1000000000 ys) (hl1 : xs.length ≤ 100000) (hl2 : ys.length ≤ xs.length) (hle : val ys ≤ val xs) :
   Calls Tryz.prog 162 #[.agg #[.slice A1 xs.length c1],.agg #[.slice A2 ys.length c2]] w (RetNum w (val xs - val ys)):=by
 obtain ⟨i0,hi,hz0,hz1,hz2⟩:=info_parts ep
 obtain ⟨n,hn⟩ : ∃ n : Nat,n = xs.length:=⟨_,rfl⟩
 obtain ⟨m,hm⟩ : ∃ m : Nat,m = ys.length:=⟨_,rfl⟩
 have hn1 : n ≤ 100000:=by omega
 have hmn : m ≤ n:=by omega
 have HLE:=Lib.hid hle
 rw [← hn,← hm]
 have HN:=Lib.hid hn
 have HM:=Lib.hid hm
 clear hn hm hle hl1 hl2
 go_enter Tryz.func162,Tryz.ntmps162
 go_wp2_with (at_make; refine wpList_make_own _ rfl _ _ 128 rfl (w.heap.size + 3) 81 i0 (.int .u32 0) 1 Tryz.underlying128 hi hz0 hz1 .i64 .i64 (n : Int) n rfl rfl (by omega) ?b2 ?b3 ?b4 ?_)
 case b2=>rw [hz2]; omega
 case b3=>unfold maxLen; omega
 case b4=>simp
 intro w1 hown hgrow
 have ho1 : Own w1 (w.heap.size + 3) 81 _ (u32s []):=Own.mk_ hown
 obtain ⟨hb1,hs1,hA,hB,hC⟩:=jh hgrow
 have HA:=Lib.hid hA
 have HB:=Lib.hid hB
 have HC:=Lib.hid hC
 clear hown hgrow
 have hcA0:=cell_of_one hA
 clear hA hB hC
 have hx':=small_mono hx (show 1000000000 ≤ 4294967296 by decide)
 have hy':=small_mono hy (show 1000000000 ≤ 4294967296 by decide)
 go_wp2_with fail
 clear hcA0
 go_loopw [5, 6, 16] (fun v cv i wr => ∃ (k bo : Nat) (out : List Nat), k ≤ n ∧ i = .int .i64 k ∧ cv = .int .u64 bo ∧ bo ≤ 1 ∧ Own wr (w.heap.size + 3) 81 v (u32s out) ∧ Hid (out.length = k ∧ small 1000000000 out ∧ val out + val (ys.take k) = val (xs.take k) + 1000000000 ^ k * bo) ∧ Below (w.heap.size + 3) w1 wr)
   (fun _ _ i _=>n - (intOf i).toNat)
 case atStart=>exact ⟨0,0,[],Nat.zero_le _,rfl,rfl,by omega,ho1,⟨rfl,br _,by simp [val]⟩,Below.refl _ _⟩
 case round =>
   obtain ⟨k,bo,out,hk,rfl,rfl,hbo,hout,HO,hb⟩:=hrel; have hsz:=hb.size
   by_cases hlt : k < n
   · have bW:=below_trans hb1 hb (by omega); have hcA:=cell_of_one ((hb.block w.heap.size (by omega)).trans HA.out); have hcB:=cell_of_one ((hb.block (w.heap.size + 1) (by omega)).trans HB.out)
     obtain ⟨d1,hd1⟩ : ∃ d,d = xs.getD k 0:=⟨_,rfl⟩
     obtain ⟨d2,hd2⟩ : ∃ d,d = ys.getD k 0:=⟨_,rfl⟩
     have l1 : d1 < 1000000000:=by rw [hd1]; exact bl hx (by decide) k
     have l2 : d2 < 1000000000:=by rw [hd2]; exact bl hy (by decide) k
     have q1 : ∀ j,Calls Tryz.prog 165 #[.slice A1 n c1,.int .i64 k] (wr.drewN j) (fun e w'=>e = .returned (.int .u64 (d1 : Int)) ∧ w' = wr.drewN j):=fun j=>by
       have:=at_q (c:=c1) ((hr1.below bW).drewN j) hx' k (by omega); rw [Int.toNat_natCast,← hd1,← HN.out] at this; exact this
     have q2 : ∀ j,Calls Tryz.prog 165 #[.slice A2 m c2,.int .i64 k] (wr.drewN j) (fun e w'=>e = .returned (.int .u64 (d2 : Int)) ∧ w' = wr.drewN j):=fun j=>by
       have:=at_q (c:=c2) ((hr2.below bW).drewN j) hy' k (by omega); rw [Int.toNat_natCast,← hd2,← HM.out] at this; exact this
     have Q1:=Lib.hid q1; have Q2:=Lib.hid q2; have D1:=Lib.hid hd1; have D2:=Lib.hid hd2; clear q1 q2 hd1 hd2 bW
     obtain ⟨x,hxe⟩ : ∃ x : Nat,x = d1 + 1000000000 - d2 - bo:=⟨_,rfl⟩
     have hx1 : x + d2 + bo = d1 + 1000000000:=by omega
     have hx2 : x < 2000000000:=by omega
     have s1 : IntKind.u64.wrap ((d1 : Int) + 1000000000) = (d1 : Int) + 1000000000:=IntWalk.u64_in _ (by omega); have s2 : IntKind.u64.wrap ((d1 : Int) + 1000000000 - (d2 : Int)) = (d1 : Int) + 1000000000 - (d2 : Int):=IntWalk.u64_in _ (by omega); have s3 : IntKind.u64.wrap ((d1 : Int) + 1000000000 - (d2 : Int) - (bo : Int)) = (x : Int):=(IntWalk.u64_in _ (by omega)).trans (by omega); clear hxe
     go_wp2
     go_quiet ((go_at_call 165; first | (with_reducible exact Calls.quiet_of_same (Q1.out _)) | (with_reducible exact Calls.quiet_of_same (Q2.out _))))
     clear s1 s2 s3; have hout' : Own (wr.drewN nq) (w.heap.size + 3) 81 u5 (u32s out):=hout; have hb':=gt hb nq; have hsz' : w1.heap.size ≤ (wr.drewN nq).heap.size:=hsz; clear hout hb hsz hcA hcB Q1 Q2
     generalize wr.drewN nq = wd at *
     go_wp2_with (at_builtin; refine wpList_append_own _ rfl _ _ 128 rfl (w.heap.size + 3) 81 i0 (.int .u32 0) 1 4 Tryz.underlying128 hi hz0 hz1 hz2 rfl (by decide) _ _ _ rfl (hout'.alloc _) ⟨wd.heap.size,0,none⟩ 1 1 [.int .u32 (((x % 1000000000 : Nat)) : Int)] rfl rfl ?c1 ?c2 ?c3 ?c4 ?c5 ?_)
     case c1=>exact one_news (int_eq (by omega))
     case c2=>exact cx
     case c3=>rw [an,HO.out.1]; unfold maxLen; omega
     case c4=>rw [an,HO.out.1]; omega
     case c5=>simp; omega
     intro v' w2 hown' hgrow' _; have ho2:=dp hown'; have hb2:=fb hb' hout' hs1 hgrow'; clear hown' hgrow' hout' hb'
     go_wp2
     go_roundw
     case rel=>exact ⟨k + 1,1 - x / 1000000000,_,by omega,by go_num,int_eq (by omega),by omega,ho2,by
       have h:=HO.out
       exact ⟨by rw [List.length_append,h.1]; rfl,small_snoc h.2.1 (Nat.mod_lt _ (by decide)),diff_step h.1 (by rw [← D1.out,← D2.out]; exact hx1) hx2 h.2.2⟩,hb2⟩
     case measure=>simp [intOf]; omega
   · have hk' : k = n:=by omega
     have HK:=Lib.hid hk'; clear hk'; obtain ⟨A2',c2',rfl,_⟩:=hout.slice32; have hl : out.length ≤ 1000000:=by rw [HO.out.1]; omega
     go_wp2_with fail
     refine (stripped_any hout hl).mono ?_; rintro e w3 ⟨⟨v,rfl,hv⟩,rfl⟩; have hcell:=(hb.block (w.heap.size + 1 + 1) (by omega)).trans HC.out; have hc:=cell_of_one hcell; have hf:=free_of_one hcell; obtain ⟨A3,c3,rfl,_⟩:=hv.slice32; have hcs:=cell_of_one (one_setCell (u:=.slice A3 (strip out).length c3) hcell); clear hcell
     go_wp2
     refine bodyPost_ret (v:=.agg #[.slice A3 (strip out).length c3]) (by simp [results,Tryz.results162,go_sem,hcs]) rfl ?_; have h:=HO.out; refine ⟨_,rfl,⟨_,df h.2.1,?_,(hv.setBelow (show w.heap.size + 1 + 1 < w.heap.size + 3 by omega) _).mono (by omega)⟩,(below_trans hb1 hb (by omega)).setCell (Nat.le_succ_of_le (Nat.le_succ _)) _⟩; have hv2:=h.2.2; rw [HK.out,HN.out,List.take_length,List.take_of_length_le (by rw [← HM.out,← HN.out]; exact hmn)] at hv2
     have hlt2 : val out < 1000000000 ^ xs.length:=by
       have:=val_lt h.2.1; rw [h.1,HK.out,HN.out] at this; exact this
     have hle:=HLE.out; rw [ek]; have h01 : bo = 0 ∨ bo = 1:=by omega
     rcases h01 with h0 | h0
     · rw [h0,Nat.mul_zero,Nat.add_zero] at hv2; omega
     · rw [h0,Nat.mul_one] at hv2; omega
theorem trimRow_any {w : World} {A : Option Addr} {c : Nat} {ds : List Nat} (hr : Row w A (u32s ds)) (hd : small 4294967296 ds) (hlen : ds.length ≤ 10000) :
   Calls Tryz.prog 109 #[.slice A ds.length c] w (RetNat w (val ds)):=by
 have hf:=of_any (c:=c) hr hd (by omega)
 have HF:=Lib.hid hf
 have hfield:=fy
 clear hf
 go_enter Tryz.func109,Tryz.ntmps109
 go_wp2_with fail
 refine HF.out.mono ?_
 rintro e w2 ⟨v,rfl,hv,hb⟩
 obtain ⟨rs,h1,h2,h3⟩:=hv
 obtain ⟨A2,c2,rfl,_⟩:=h3.slice32
 go_wp2
 go_ret
 exact ⟨_,rfl,⟨rs,h1,h2,h3⟩,hb⟩
theorem cmp_any {w : World} {A1 A2 : Option Addr} {c1 c2 : Nat} {xs ys : List Nat} (hr1 : Row w A1 (u32s xs)) (hr2 : Row w A2 (u32s ys)) (hx : small 4294967296 xs) (hy : small 4294967296 ys) (hl1 : xs.length ≤ 10000) (hl2 : ys.length ≤ 10000) :
   Calls Tryz.prog 139 #[.slice A1 xs.length c1,.slice A2 ys.length c2] w fun e w'=>e = .returned (.int .i64 (ordI (val xs : Int) (val ys : Int))) ∧ Below w.heap.size w w':=by
 have hf:=of_any (c:=c1) hr1 hx (by omega)
 have hg:=fun (W : World) (hW : Below w.heap.size w W)=>of_any (c:=c2) (hr2.below hW) hy (by omega)
 have HF:=Lib.hid hf
 have HG:=Lib.hid hg
 have HX:=Lib.hid hx
 have hfield:=fy
 clear hf hg
 go_enter Tryz.func139,Tryz.ntmps139
 go_wp2_with fail
 refine HF.out.mono ?_
 rintro e w2 ⟨v,rfl,⟨rs,h1,h2,h3⟩,hb⟩
 obtain ⟨A3,c3,rfl,hr3,_⟩:=h3.slice32
 go_wp2_with fail
 refine (HG.out _ hb).mono ?_
 rintro e w3 ⟨v,rfl,⟨ts,k1,k2,k3⟩,hb2⟩
 obtain ⟨A4,c4,rfl,hr4,_⟩:=k3.slice32
 have s1:=hb.size
 have b3:=hb.trans (hb2.mono s1)
 have hl : rs.length ≤ 1000000:=Nat.le_trans (right_length_le h1 (by rw [h2]; exact val_lt32 HX.out)) (by omega)
 have hcp:=gw (c1:=c3) (c2:=c4) (hr3.below hb2) hr4 h1 k1 hl
 rw [h2,k2] at hcp
 have HC:=Lib.hid hcp
 clear hcp hb hb2 h3 k3 hr3 hr4
 go_wp2_with fail
 refine HC.out.mono ?_
 rintro e w4 ⟨rfl,hd4⟩
 have b4 : Below w.heap.size w w4:=b3.trans (hd4.below.mono b3.size)
 clear hd4 b3
 go_wp2
 go_ret
 exact ⟨rfl,b4⟩
theorem sub_yes {w : World} {A1 A2 : Option Addr} {c1 c2 : Nat} {xs ys : List Nat} (hr1 : Row w A1 (u32s xs)) (hr2 : Row w A2 (u32s ys)) (hx : small 4294967296 xs) (hy : small 4294967296 ys) (hl1 : xs.length ≤ 10000) (hl2 : ys.length ≤ 10000) (hle : val ys ≤ val xs) :
   Calls Tryz.prog 147 #[.slice A1 xs.length c1,.slice A2 ys.length c2] w fun e w'=>∃ v,e = .returned (.tuple #[v,.bool true]) ∧ IsNat w' w.heap.size v (val xs - val ys) ∧ Below w.heap.size w w':=by
 have hf:=of_any (c:=c1) hr1 hx (by omega)
 have hg:=fun (W : World) (hW : Below w.heap.size w W)=>of_any (c:=c2) (hr2.below hW) hy (by omega)
 have HF:=Lib.hid hf
 have HG:=Lib.hid hg
 have HX:=Lib.hid hx
 have HLE:=Lib.hid hle
 have hfield:=fy
 clear hf hg hle
 go_enter Tryz.func147,Tryz.ntmps147
 go_wp2_with fail
 refine HF.out.mono ?_
 rintro e w2 ⟨v,rfl,⟨rs,h1,h2,h3⟩,hb⟩
 obtain ⟨A3,c3,rfl,hr3,_⟩:=h3.slice32
 go_wp2_with fail
 refine (HG.out _ hb).mono ?_
 rintro e w3 ⟨v,rfl,⟨ts,k1,k2,k3⟩,hb2⟩
 obtain ⟨A4,c4,rfl,hr4,_⟩:=k3.slice32
 have s1:=hb.size
 have b3:=hb.trans (hb2.mono s1)
 obtain ⟨M,hM1,hM2⟩ : ∃ M,M ≤ 10001 ∧ 10001 ≤ M:=⟨10001,Nat.le_refl _,Nat.le_refl _⟩
 have hl : rs.length ≤ M:=right_length_le h1 (by rw [h2]; exact Nat.lt_of_lt_of_le (val_lt32 HX.out) (Nat.pow_le_pow_right (by decide) (by omega)))
 have hlt : ts.length ≤ rs.length:=by
   rcases Nat.lt_or_ge rs.length ts.length with h | h
   · exfalso
     have q1:=val_lt h1.1; have q2:=right_length_le k1 (k:=rs.length) (by rw [k2]; have:=HLE.out; rw [h2] at q1; omega); omega
   · exact h
 have hr3':=hr3.below hb2
 clear hb hb2 h3 k3 hr3
 go_wp2_with fail
 obtain ⟨W,hW⟩ : ∃ W,W = (w3.alloc (Obj.cells #[Value.slice A3 rs.length c3] 130)).alloc (Obj.cells #[Value.slice A4 ts.length c4] 130):=⟨_,rfl⟩
 have hbW : Below w3.heap.size w3 W:=by rw [hW]; exact below_first ((Below.refl _ _).alloc (Nat.le_refl _) _)
 have hbox : W.heap[w3.heap.size]? = some (.cells #[Value.slice A3 rs.length c3] 130 (0,0)):=by
   rw [hW]; exact dc ((Below.refl _ _).alloc (Nat.le_refl _) _)
 have hbox2 : W.heap[w3.heap.size + 1]? = some (.cells #[Value.slice A4 ts.length c4] 130 (0,0)):=by
   rw [hW]; exact new_at (by simp)
 rw [← hW]
 clear hW
 obtain ⟨o,ho⟩ : ∃ o,o = ordI (val rs : Int) (val ts : Int):=⟨_,rfl⟩
 have ho0 : 0 ≤ o:=by
   rw [ho,h2,k2]; have:=HLE.out; unfold ordI; rw [if_neg (by omega)]; split <;> omega
 have hcp:=gw (c1:=c3) (c2:=c4) (hr3'.below hbW) (hr4.below hbW) h1 k1 (by omega)
 rw [← ho] at hcp
 have HC:=Lib.hid hcp
 clear hcp ho
 refine HC.out.mono ?_
 rintro e w4 ⟨rfl,hd⟩
 have hb4 : Below W.heap.size W w4:=hd.below
 have sW:=hbW.size
 have hW2 : w3.heap.size + 1 < W.heap.size:=lt_block hbox2
 have hc1:=cell_of_one ((hb4.block w3.heap.size (by omega)).trans hbox)
 have hc2:=cell_of_one ((hb4.block (w3.heap.size + 1) (by omega)).trans hbox2)
 have b4:=(b3.trans (hbW.mono b3.size)).trans (hb4.mono (Nat.le_trans b3.size sW))
 have hmi:=minus_any (w:=w4) (c1:=c3) (c2:=c4) ((hr3'.below hbW).below hb4) ((hr4.below hbW).below hb4) h1.1 k1.1 (by omega) hlt (by rw [h2,k2]; exact HLE.out)
 rw [h2,k2] at hmi
 have HMI:=Lib.hid hmi
 clear hmi hbW hb4 hd HC hbox hbox2 hr3' hr4 b3
 go_wp2_with fail
 refine HMI.out.mono ?_
 rintro e w5 ⟨v,rfl,hv,hb5⟩
 have b5:=b4.trans (hb5.mono b4.size)
 obtain ⟨us,g1,g2,g3⟩:=hv
 obtain ⟨A5,c5,rfl,_⟩:=g3.slice32
 clear hb5
 go_wp2
 go_returns
 exact ⟨_,rfl,⟨us,g1,g2,g3.mono b4.size⟩,b5⟩
theorem sub_no {w : World} {A1 A2 : Option Addr} {c1 c2 : Nat} {xs ys : List Nat} (hr1 : Row w A1 (u32s xs)) (hr2 : Row w A2 (u32s ys)) (hx : small 4294967296 xs) (hy : small 4294967296 ys) (hl1 : xs.length ≤ 10000) (hl2 : ys.length ≤ 10000) (hle : val xs < val ys) :
   Calls Tryz.prog 147 #[.slice A1 xs.length c1,.slice A2 ys.length c2] w fun e w'=>e = .returned (.tuple #[.slice none 0 0,.bool false]) ∧ Below w.heap.size w w':=by
 have hf:=of_any (c:=c1) hr1 hx (by omega)
 have hg:=fun (W : World) (hW : Below w.heap.size w W)=>of_any (c:=c2) (hr2.below hW) hy (by omega)
 have HF:=Lib.hid hf
 have HG:=Lib.hid hg
 have HX:=Lib.hid hx
 have HLE:=Lib.hid hle
 have hfield:=fy
 clear hf hg hle
 go_enter Tryz.func147,Tryz.ntmps147
 go_wp2_with fail
 refine HF.out.mono ?_
 rintro e w2 ⟨v,rfl,⟨rs,h1,h2,h3⟩,hb⟩
 obtain ⟨A3,c3,rfl,hr3,_⟩:=h3.slice32
 go_wp2_with fail
 refine (HG.out _ hb).mono ?_
 rintro e w3 ⟨v,rfl,⟨ts,k1,k2,k3⟩,hb2⟩
 obtain ⟨A4,c4,rfl,hr4,_⟩:=k3.slice32
 have s1:=hb.size
 have b3:=hb.trans (hb2.mono s1)
 obtain ⟨M,hM1,hM2⟩ : ∃ M,M ≤ 10001 ∧ 10001 ≤ M:=⟨10001,Nat.le_refl _,Nat.le_refl _⟩
 have hl : rs.length ≤ M:=right_length_le h1 (by rw [h2]; exact Nat.lt_of_lt_of_le (val_lt32 HX.out) (Nat.pow_le_pow_right (by decide) (by omega)))
 have hr3':=hr3.below hb2
 clear hb hb2 h3 k3 hr3
 go_wp2_with fail
 obtain ⟨W,hW⟩ : ∃ W,W = (w3.alloc (Obj.cells #[Value.slice A3 rs.length c3] 130)).alloc (Obj.cells #[Value.slice A4 ts.length c4] 130):=⟨_,rfl⟩
 have hbW : Below w3.heap.size w3 W:=by rw [hW]; exact below_first ((Below.refl _ _).alloc (Nat.le_refl _) _)
 have hbox : W.heap[w3.heap.size]? = some (.cells #[Value.slice A3 rs.length c3] 130 (0,0)):=by
   rw [hW]; exact dc ((Below.refl _ _).alloc (Nat.le_refl _) _)
 have hbox2 : W.heap[w3.heap.size + 1]? = some (.cells #[Value.slice A4 ts.length c4] 130 (0,0)):=by
   rw [hW]; exact new_at (by simp)
 rw [← hW]
 clear hW
 obtain ⟨o,ho⟩ : ∃ o,o = ordI (val rs : Int) (val ts : Int):=⟨_,rfl⟩
 have ho0 : o < 0:=by
   rw [ho,h2,k2]; have:=HLE.out; unfold ordI; rw [if_pos (by omega)]; omega
 have hcp:=gw (c1:=c3) (c2:=c4) (hr3'.below hbW) (hr4.below hbW) h1 k1 (by omega)
 rw [← ho] at hcp
 have HC:=Lib.hid hcp
 clear hcp ho
 refine HC.out.mono ?_
 rintro e w4 ⟨rfl,hd⟩
 have hb4 : Below W.heap.size W w4:=hd.below
 have sW:=hbW.size
 have b4:=(b3.trans (hbW.mono b3.size)).trans (hb4.mono (Nat.le_trans b3.size sW))
 clear hbW hb4 hd HC hbox hbox2 hr3' hr4 b3
 go_wp2
 go_returns
 exact ⟨rfl,b4⟩
end Go.Proofs.YtnbhihhjgpddcaaGreatDoor
namespace Go.Proofs
open Go.Shelf
def Tryz.lays169_ren : Go.Shelf.Ren:=⟨fun | 169=>167 | n=>n,fun | 70=>150 | 9=>9 | 0=>0 | 72=>152 | 37=>117 | 127=>168 | 3=>3 | 5=>5 | n=>n,fun | n=>n⟩
theorem Tryz.lays169 : Go.Proofs.Lays.n169 Tryz.prog Tryz.lays169_ren := {
 mixed:=by kernel_rfl
 f169:=Tryz.func167.trans (congrArg some (by kernel_rfl))
 t0:=Tryz.underlying0
 a0:=Tryz.isAgg0
 z0:=Tryz.sizeOf0
 v0:=Tryz.zeroValue0
 t3:=Tryz.underlying3
 a3:=Tryz.isAgg3
 z3:=Tryz.sizeOf3
 v3:=Tryz.zeroValue3
 t9:=Tryz.underlying9
 a9:=Tryz.isAgg9
 z9:=Tryz.sizeOf9
 v9:=Tryz.zeroValue9
 t37:=Tryz.underlying117
 a37:=Tryz.isAgg117
 z37:=Tryz.sizeOf117
 v37:=Tryz.zeroValue117
 t70:=Tryz.underlying150
 a70:=Tryz.isAgg150
 z70:=Tryz.sizeOf150
 v70:=Tryz.zeroValue150
 t72:=Tryz.underlying152
 a72:=Tryz.isAgg152
 z72:=Tryz.sizeOf152
 v72:=Tryz.zeroValue152
 t127:=Tryz.underlying168
 a127:=Tryz.isAgg168
 z127:=Tryz.sizeOf168
 v127:=Tryz.zeroValue168 }
theorem Tryz.Builder_Extra_169 : Builder.Extra Tryz.prog Tryz.lays169_ren := {
 sizeBuilder:=by kernel_rfl
 liesBuilder:=by kernel_rfl
 t5:=Tryz.underlying5
 a5:=Tryz.isAgg5
 z5:=Tryz.sizeOf5
 v5:=Tryz.zeroValue5
 infoByte:=by kernel_rfl
 cellsByte:=by kernel_rfl
 sizeByte:=by kernel_rfl
 neB5:=by decide }
def Tryz.lays134_ren : Go.Shelf.Ren:=⟨fun | 134=>203 | 129=>198 | n=>n,fun | 53=>80 | 3=>3 | 4=>4 | 46=>140 | 5=>5 | 9=>9 | n=>n,fun | n=>n⟩
theorem Tryz.lays134 : Go.Proofs.Lays.n134 Tryz.prog Tryz.lays134_ren := {
 mixed:=by kernel_rfl
 f129:=Tryz.func198.trans (congrArg some (by kernel_rfl))
 f134:=Tryz.func203.trans (congrArg some (by kernel_rfl))
 t3:=Tryz.underlying3
 a3:=Tryz.isAgg3
 z3:=Tryz.sizeOf3
 v3:=Tryz.zeroValue3
 t4:=Tryz.underlying4
 a4:=Tryz.isAgg4
 z4:=Tryz.sizeOf4
 v4:=Tryz.zeroValue4
 t5:=Tryz.underlying5
 a5:=Tryz.isAgg5
 z5:=Tryz.sizeOf5
 v5:=Tryz.zeroValue5
 t9:=Tryz.underlying9
 a9:=Tryz.isAgg9
 z9:=Tryz.sizeOf9
 v9:=Tryz.zeroValue9
 t46:=Tryz.underlying140
 a46:=Tryz.isAgg140
 z46:=Tryz.sizeOf140
 v46:=Tryz.zeroValue140
 t53:=Tryz.underlying80
 a53:=Tryz.isAgg80
 z53:=Tryz.sizeOf80
 v53:=Tryz.zeroValue80 }
theorem Tryz.bits_LeadingZeros64 (x : Int) (w : World) (h0 : 0 ≤ x) (h1 : x ≤ 18446744073709551615) :
   Calls Tryz.prog 203 #[.int .u64 x] w fun e w'=>e = .returned (.int .i64 (64 - (Lib.bitLen x.toNat : Int))) ∧ w' = w:=Any.bits_LeadingZeros64 Tryz.lays134 x w h0 h1
def Tryz.lays103_ren : Go.Shelf.Ren:=⟨fun | 103=>113 | 210=>136 | 206=>154 | n=>n,fun | 9=>9 | 4=>4 | 24=>105 | 3=>3 | n=>n,fun | n=>n⟩
theorem Tryz.lays103 : Go.Proofs.Lays.n103 Tryz.prog Tryz.lays103_ren := {
 mixed:=by kernel_rfl
 f103:=Tryz.func113.trans (congrArg some (by kernel_rfl))
 f206:=Tryz.func154.trans (congrArg some (by kernel_rfl))
 f210:=Tryz.func136.trans (congrArg some (by kernel_rfl))
 t3:=Tryz.underlying3
 a3:=Tryz.isAgg3
 z3:=Tryz.sizeOf3
 v3:=Tryz.zeroValue3
 t4:=Tryz.underlying4
 a4:=Tryz.isAgg4
 z4:=Tryz.sizeOf4
 v4:=Tryz.zeroValue4
 t9:=Tryz.underlying9
 a9:=Tryz.isAgg9
 z9:=Tryz.sizeOf9
 v9:=Tryz.zeroValue9
 t24:=Tryz.underlying105
 a24:=Tryz.isAgg105
 z24:=Tryz.sizeOf105
 v24:=Tryz.zeroValue105 }
open Go.RowKit in
theorem Tryz.strings_CutPrefix (s p : ByteArray) (w : World) :
   Calls Tryz.prog 113 #[.string s,.string p] w fun e w'=>e = .returned (.tuple #[.string ⟨(Lib.trimPrefix s.data.toList p.data.toList).toArray⟩,.bool (Lib.hasPrefix s.data.toList p.data.toList)]) ∧ w' = w:=Any.strings_CutPrefix Tryz.lays103 s p w
open Go.RowKit in
theorem Tryz.Builder_String_any_k (B b : Nat) (l : List UInt8) (w : World) (h : Lib.IsBuilderF 152 5 B b (Lib.byteCells l) w) (hBw : B ≤ w.heap.size) :
   Calls Tryz.prog 167 #[.pointer (some ⟨b,0,none⟩)] w fun e w'=>e = .returned (.string ⟨l.toArray⟩) ∧ (Lib.IsBuilderF 152 5 B b (Lib.byteCells l) w' ∧ Below B w w' ∧ Lib.OthersKept 5 (some b) w w'):=Any.Builder_String_any_k Tryz.lays169 Tryz.Builder_Extra_169 B b l w h hBw
def Tryz.lays283_ren : Go.Shelf.Ren:=⟨fun | 283=>188 | n=>n,fun | 3=>3 | 9=>9 | 4=>4 | n=>n,fun | n=>n⟩
theorem Tryz.lays283 : Go.Proofs.Lays.n283 Tryz.prog Tryz.lays283_ren := {
 mixed:=by kernel_rfl
 f283:=Tryz.func188.trans (congrArg some (by kernel_rfl))
 t3:=Tryz.underlying3
 a3:=Tryz.isAgg3
 z3:=Tryz.sizeOf3
 v3:=Tryz.zeroValue3
 t4:=Tryz.underlying4
 a4:=Tryz.isAgg4
 z4:=Tryz.sizeOf4
 v4:=Tryz.zeroValue4
 t9:=Tryz.underlying9
 a9:=Tryz.isAgg9
 z9:=Tryz.sizeOf9
 v9:=Tryz.zeroValue9 }
open Go.Lib in
theorem Tryz.internal_strconv_small (i : Nat) (h : i < 100) (w : World) :
   Calls Tryz.prog 188 #[.int .i64 i] w fun e w'=>e = .returned (.string ⟨(Lib.decDigits i).toArray⟩) ∧ w' = w:=Any.internal_strconv_small Tryz.lays283 i h w
def Tryz.laysM284_ren : Go.Shelf.Ren:=⟨fun | 284=>189 | 129=>198 | 317=>197 | 318=>199 | n=>n,fun | 53=>80 | 3=>3 | 212=>188 | 0=>0 | 4=>4 | 46=>140 | 5=>5 | 9=>9 | n=>n,fun | 17=>1 | n=>n⟩
theorem Tryz.laysM284 : Go.Proofs.LaysM.n284 Tryz.prog Tryz.laysM284_ren := {
 mixed:=by kernel_rfl
 f129:=Tryz.func198.trans (congrArg some (by kernel_rfl))
 f284:=Tryz.func189.trans (congrArg some (by kernel_rfl))
 f317:=Tryz.func197.trans (congrArg some (by kernel_rfl))
 f318:=Tryz.func199.trans (congrArg some (by kernel_rfl))
 t0:=Tryz.underlying0
 a0:=Tryz.isAgg0
 z0:=Tryz.sizeOf0
 v0:=Tryz.zeroValue0
 t3:=Tryz.underlying3
 a3:=Tryz.isAgg3
 z3:=Tryz.sizeOf3
 v3:=Tryz.zeroValue3
 t4:=Tryz.underlying4
 a4:=Tryz.isAgg4
 z4:=Tryz.sizeOf4
 v4:=Tryz.zeroValue4
 t5:=Tryz.underlying5
 a5:=Tryz.isAgg5
 z5:=Tryz.sizeOf5
 v5:=Tryz.zeroValue5
 t9:=Tryz.underlying9
 a9:=Tryz.isAgg9
 z9:=Tryz.sizeOf9
 v9:=Tryz.zeroValue9
 t46:=Tryz.underlying140
 a46:=Tryz.isAgg140
 z46:=Tryz.sizeOf140
 v46:=Tryz.zeroValue140
 t53:=Tryz.underlying80
 a53:=Tryz.isAgg80
 z53:=Tryz.sizeOf80
 v53:=Tryz.zeroValue80
 t212:=Tryz.underlying188
 a212:=Tryz.isAgg188
 z212:=Tryz.sizeOf188
 v212:=Tryz.zeroValue188
 g17:=by kernel_rfl
 i0:=by kernel_rfl
 i3:=by kernel_rfl
 i4:=by kernel_rfl
 i5:=by kernel_rfl
 i9:=by kernel_rfl
 i46:=by kernel_rfl
 i53:=by kernel_rfl
 i212:=by kernel_rfl
 m17:=by kernel_rfl }
open Go.Lib in
theorem Tryz.internal_strconv_numDigits (u : Nat) (h1 : 1 ≤ u) (h2 : u < 18446744073709551616) (w : World) (htab : Lib.TabIs Tryz.prog w "internal/strconv.uint64pow10" .u64 Lib.pow10Tab) :
   Calls Tryz.prog 189 #[.int .u64 u] w fun e w'=>e = .returned (.int .i64 (Lib.nDigits u)) ∧ w' = w:=Any.internal_strconv_numDigits Tryz.laysM284 u h1 h2 w htab
def Tryz.lays285_ren : Go.Shelf.Ren:=⟨fun | 285=>190 | n=>n,fun | 37=>117 | 53=>80 | 3=>3 | 4=>4 | 51=>81 | 9=>9 | 5=>5 | 0=>0 | n=>n,fun | n=>n⟩
theorem Tryz.lays285 : Go.Proofs.Lays.n285 Tryz.prog Tryz.lays285_ren := {
 mixed:=by kernel_rfl
 f285:=Tryz.func190.trans (congrArg some (by kernel_rfl))
 t0:=Tryz.underlying0
 a0:=Tryz.isAgg0
 z0:=Tryz.sizeOf0
 v0:=Tryz.zeroValue0
 t3:=Tryz.underlying3
 a3:=Tryz.isAgg3
 z3:=Tryz.sizeOf3
 v3:=Tryz.zeroValue3
 t4:=Tryz.underlying4
 a4:=Tryz.isAgg4
 z4:=Tryz.sizeOf4
 v4:=Tryz.zeroValue4
 t5:=Tryz.underlying5
 a5:=Tryz.isAgg5
 z5:=Tryz.sizeOf5
 v5:=Tryz.zeroValue5
 t9:=Tryz.underlying9
 a9:=Tryz.isAgg9
 z9:=Tryz.sizeOf9
 v9:=Tryz.zeroValue9
 t37:=Tryz.underlying117
 a37:=Tryz.isAgg117
 z37:=Tryz.sizeOf117
 v37:=Tryz.zeroValue117
 t51:=Tryz.underlying81
 a51:=Tryz.isAgg81
 z51:=Tryz.sizeOf81
 v51:=Tryz.zeroValue81
 t53:=Tryz.underlying80
 a53:=Tryz.isAgg80
 z53:=Tryz.sizeOf80
 v53:=Tryz.zeroValue80 }
open Go.RowKit Go.Sort Go.Lib in
theorem Tryz.internal_strconv_formatBase10 (blk off cap : Nat) (u : Nat) (d : Array UInt8) (w : World) (hH : Holds (fun (b : UInt8)=>Value.int .u8 (b.toNat : Int)) w blk off d) (hu : u < 10 ^ d.size) (hu64 : u < 18446744073709551616) (hsz : d.size < 4611686018427387904) :
   Calls Tryz.prog 190 #[.slice (some ⟨blk,off,none⟩) d.size cap,.int .u64 u] w fun e w' =>
     e = .returned (.tuple #[]) ∧ ∃ (n v' : Nat) (dk : Array UInt8),w' = (putRow (fun (b : UInt8)=>Value.int .u8 (b.toNat : Int)) w blk off dk).drewN n ∧ FmtInv d.size u 0 v' dk:=Any.internal_strconv_formatBase10 Tryz.lays285 blk off cap u d w hH hu hu64 hsz
def Tryz.lays145_ren : Go.Shelf.Ren:=⟨fun | 145=>81 | 220=>112 | 219=>135 | 217=>150 | 225=>151 | 224=>152 | 267=>153 | 266=>168 | 314=>169 | n=>n,fun | 9=>9 | 4=>4 | 59=>86 | 3=>3 | 5=>5 | 46=>140 | 146=>160 | 51=>81 | n=>n,fun | 1=>0 | n=>n⟩
theorem Tryz.lays145 : Go.Proofs.Lays.n145 Tryz.prog Tryz.lays145_ren := {
 mixed:=by kernel_rfl
 f145:=Tryz.func81.trans (congrArg some (by kernel_rfl))
 f217:=Tryz.func150.trans (congrArg some (by kernel_rfl))
 f219:=Tryz.func135.trans (congrArg some (by kernel_rfl))
 f220:=Tryz.func112.trans (congrArg some (by kernel_rfl))
 f224:=Tryz.func152.trans (congrArg some (by kernel_rfl))
 f225:=Tryz.func151.trans (congrArg some (by kernel_rfl))
 f266:=Tryz.func168.trans (congrArg some (by kernel_rfl))
 f267:=Tryz.func153.trans (congrArg some (by kernel_rfl))
 f314:=Tryz.func169.trans (congrArg some (by kernel_rfl))
 t3:=Tryz.underlying3
 a3:=Tryz.isAgg3
 z3:=Tryz.sizeOf3
 v3:=Tryz.zeroValue3
 t4:=Tryz.underlying4
 a4:=Tryz.isAgg4
 z4:=Tryz.sizeOf4
 v4:=Tryz.zeroValue4
 t5:=Tryz.underlying5
 a5:=Tryz.isAgg5
 z5:=Tryz.sizeOf5
 v5:=Tryz.zeroValue5
 t9:=Tryz.underlying9
 a9:=Tryz.isAgg9
 z9:=Tryz.sizeOf9
 v9:=Tryz.zeroValue9
 t46:=Tryz.underlying140
 a46:=Tryz.isAgg140
 z46:=Tryz.sizeOf140
 v46:=Tryz.zeroValue140
 t51:=Tryz.underlying81
 a51:=Tryz.isAgg81
 z51:=Tryz.sizeOf81
 v51:=Tryz.zeroValue81
 t59:=Tryz.underlying86
 a59:=Tryz.isAgg86
 z59:=Tryz.sizeOf86
 v59:=Tryz.zeroValue86
 t146:=Tryz.underlying160
 a146:=Tryz.isAgg160
 z146:=Tryz.sizeOf160
 v146:=Tryz.zeroValue160
 g1:=by kernel_rfl }
open Go.RowKit Go.Lib in
theorem Tryz.strings_Cut (s sep : ByteArray) (m : Int) (w : World) (hs : s.size < 4294967281) (hm : w.cell? ⟨0,0,none⟩ = some (.int .i64 m)) :
   Calls Tryz.prog 81 #[.string s,.string sep] w fun e w'=>e = .returned (.tuple #[.string ⟨(Lib.cut s.data.toList sep.data.toList).1.toArray⟩,.string ⟨(Lib.cut s.data.toList sep.data.toList).2.1.toArray⟩,.bool (Lib.cut s.data.toList sep.data.toList).2.2]) ∧ ∃ n,w' = w.drewN n:=Any.strings_Cut Tryz.lays145 s sep m w hs hm
def Tryz.lays264_ren : Go.Shelf.Ren:=⟨fun | 264=>193 | n=>n,fun | 53=>80 | 46=>140 | n=>n,fun | n=>n⟩
theorem Tryz.lays264 : Go.Proofs.Lays.n264 Tryz.prog Tryz.lays264_ren := {
 mixed:=by kernel_rfl
 f264:=Tryz.func193.trans (congrArg some (by kernel_rfl))
 t46:=Tryz.underlying140
 a46:=Tryz.isAgg140
 z46:=Tryz.sizeOf140
 v46:=Tryz.zeroValue140
 t53:=Tryz.underlying80
 a53:=Tryz.isAgg80
 z53:=Tryz.sizeOf80
 v53:=Tryz.zeroValue80 }
open Go.RowKit Go.Lib in
theorem Tryz.bits_Mul64 (x y : Nat) (hx : x < 18446744073709551616) (hy : y < 18446744073709551616) (w : World) :
   Calls Tryz.prog 193 #[.int .u64 x,.int .u64 y] w fun e w'=>e = .returned (.tuple #[.int .u64 ((x * y / 18446744073709551616 : Nat) : Int),.int .u64 ((x * y % 18446744073709551616 : Nat) : Int)]) ∧ w' = w:=Any.bits_Mul64 Tryz.lays264 x y hx hy w
def Tryz.lays105_ren : Go.Shelf.Ren:=⟨fun | 105=>166 | 212=>177 | 99=>178 | 165=>179 | 166=>163 | 170=>180 | 169=>167 | 263=>192 | 264=>193 | 206=>154 | 240=>175 | 241=>194 | 276=>187 | 277=>202 | n=>n,fun | 9=>9 | 3=>3 | 4=>4 | 20=>20 | 0=>0 | 46=>140 | 109=>164 | 5=>5 | 72=>152 | 76=>155 | 51=>81 | 146=>160 | 53=>80 | 148=>184 | 70=>150 | 37=>117 | 75=>154 | 127=>168 | 164=>175 | 80=>74 | n=>n,fun | n=>n⟩
theorem Tryz.lays105 : Go.Proofs.Lays.n105 Tryz.prog Tryz.lays105_ren := {
 mixed:=by kernel_rfl
 f99:=Tryz.func178.trans (congrArg some (by kernel_rfl))
 f105:=Tryz.func166.trans (congrArg some (by kernel_rfl))
 f165:=Tryz.func179.trans (congrArg some (by kernel_rfl))
 f166:=Tryz.func163.trans (congrArg some (by kernel_rfl))
 f169:=Tryz.func167.trans (congrArg some (by kernel_rfl))
 f170:=Tryz.func180.trans (congrArg some (by kernel_rfl))
 f206:=Tryz.func154.trans (congrArg some (by kernel_rfl))
 f212:=Tryz.func177.trans (congrArg some (by kernel_rfl))
 f240:=Tryz.func175.trans (congrArg some (by kernel_rfl))
 f241:=Tryz.func194.trans (congrArg some (by kernel_rfl))
 f263:=Tryz.func192.trans (congrArg some (by kernel_rfl))
 f264:=Tryz.func193.trans (congrArg some (by kernel_rfl))
 f276:=Tryz.func187.trans (congrArg some (by kernel_rfl))
 f277:=Tryz.func202.trans (congrArg some (by kernel_rfl))
 t0:=Tryz.underlying0
 a0:=Tryz.isAgg0
 z0:=Tryz.sizeOf0
 v0:=Tryz.zeroValue0
 t3:=Tryz.underlying3
 a3:=Tryz.isAgg3
 z3:=Tryz.sizeOf3
 v3:=Tryz.zeroValue3
 t4:=Tryz.underlying4
 a4:=Tryz.isAgg4
 z4:=Tryz.sizeOf4
 v4:=Tryz.zeroValue4
 t5:=Tryz.underlying5
 a5:=Tryz.isAgg5
 z5:=Tryz.sizeOf5
 v5:=Tryz.zeroValue5
 t9:=Tryz.underlying9
 a9:=Tryz.isAgg9
 z9:=Tryz.sizeOf9
 v9:=Tryz.zeroValue9
 t20:=Tryz.underlying20
 a20:=Tryz.isAgg20
 z20:=Tryz.sizeOf20
 v20:=Tryz.zeroValue20
 t37:=Tryz.underlying117
 a37:=Tryz.isAgg117
 z37:=Tryz.sizeOf117
 v37:=Tryz.zeroValue117
 t46:=Tryz.underlying140
 a46:=Tryz.isAgg140
 z46:=Tryz.sizeOf140
 v46:=Tryz.zeroValue140
 t51:=Tryz.underlying81
 a51:=Tryz.isAgg81
 z51:=Tryz.sizeOf81
 v51:=Tryz.zeroValue81
 t53:=Tryz.underlying80
 a53:=Tryz.isAgg80
 z53:=Tryz.sizeOf80
 v53:=Tryz.zeroValue80
 t70:=Tryz.underlying150
 a70:=Tryz.isAgg150
 z70:=Tryz.sizeOf150
 v70:=Tryz.zeroValue150
 t72:=Tryz.underlying152
 a72:=Tryz.isAgg152
 z72:=Tryz.sizeOf152
 v72:=Tryz.zeroValue152
 t75:=Tryz.underlying154
 a75:=Tryz.isAgg154
 z75:=Tryz.sizeOf154
 v75:=Tryz.zeroValue154
 t76:=Tryz.underlying155
 a76:=Tryz.isAgg155
 z76:=Tryz.sizeOf155
 v76:=Tryz.zeroValue155
 t109:=Tryz.underlying164
 a109:=Tryz.isAgg164
 z109:=Tryz.sizeOf164
 v109:=Tryz.zeroValue164
 t127:=Tryz.underlying168
 a127:=Tryz.isAgg168
 z127:=Tryz.sizeOf168
 v127:=Tryz.zeroValue168
 t146:=Tryz.underlying160
 a146:=Tryz.isAgg160
 z146:=Tryz.sizeOf160
 v146:=Tryz.zeroValue160
 t148:=Tryz.underlying184
 a148:=Tryz.isAgg184
 z148:=Tryz.sizeOf184
 v148:=Tryz.zeroValue184
 t164:=Tryz.underlying175
 a164:=Tryz.isAgg175
 z164:=Tryz.sizeOf175
 v164:=Tryz.zeroValue175 }
theorem Tryz.Builder_Extra_105 : Builder.Extra Tryz.prog Tryz.lays105_ren := {
 sizeBuilder:=by kernel_rfl
 liesBuilder:=by kernel_rfl
 t5:=Tryz.underlying5
 a5:=Tryz.isAgg5
 z5:=Tryz.sizeOf5
 v5:=Tryz.zeroValue5
 infoByte:=by kernel_rfl
 cellsByte:=by kernel_rfl
 sizeByte:=by kernel_rfl
 neB5:=by decide }
open Go.RowKit Go.Lib in
theorem Tryz.strings_Repeat (s : ByteArray) (c : Nat) (w : World) (hc : c ≤ 9223372036854775807) (hlen : s.size * c ≤ 140737488355328) :
   Calls Tryz.prog 166 #[.string s,.int .i64 c] w fun e w'=>e = .returned (.string ⟨(Lib.repeatL s.data.toList c).toArray⟩) ∧ Below w.heap.size w w':=Any.strings_Repeat Tryz.lays105 Tryz.Builder_Extra_105 s c w hc hlen
end Go.Proofs
namespace Go.Proofs.YtnbhihhjgpddcaaGreatDoor
open Go.RowKit Go.Lib Go.Sort
def Tab (w : World) : Prop:=Lib.TabIs Tryz.prog w "internal/strconv.uint64pow10" .u64 Lib.pow10Tab
theorem Tab.below {w w' : World} {B : Nat} (h : Tab w) (hb : Below B w w') (hB : 2 ≤ B) : Tab w' :=
 Go.var?_below hb (g:=1) (by kernel_rfl) (by omega) h
theorem holds0 (w : World) (T : TypeId) (nd : Nat) (hs : nd ≤ 24) : Holds (fun (b : UInt8)=>Value.int .u8 (b.toNat : Int)) (w.alloc (.cells zeros24 T)) w.heap.size 0 (Array.replicate nd (0 : UInt8)):=fun j hj=>by
 have hj' : j < nd:=by simpa using hj
 refine ⟨?_,World.frozen?_alloc_new _ _ _ _⟩
 rw [World.cell?_alloc_new,zeros24_at _ (by omega),getElem!_pos _ j hj]
 simp
theorem below0 (w : World) (o : Obj) (dk : Array UInt8) (k : Nat) : Below w.heap.size w ((putRow (fun (b : UInt8)=>Value.int .u8 (b.toNat : Int)) (w.alloc o) w.heap.size 0 dk).drewN k):=by
 rw [alloc_eq_grow]
 obtain ⟨os',_,e⟩:=putRow_grow_new (fun (b : UInt8)=>Value.int .u8 (b.toNat : Int)) w #[o] w.heap.size 0 dk (Nat.le_refl _)
 rw [e]
 exact Lib.below_grow w.heap.size w (Nat.le_refl _) k os'
theorem formatUint0 (u : Nat) (hu64 : u < 18446744073709551616) (w : World) (htab : Tab w) :
   Calls Tryz.prog 176 #[.int .u64 u,.int .i64 10] w fun e w'=>e = .returned (.string ⟨(Lib.decDigits u).toArray⟩) ∧ Below w.heap.size w w':=by
 by_cases hs : u < 100
 · go_enter Tryz.func176,Tryz.ntmps176
   go_wp2_with (go_at_call 188; refine (Tryz.internal_strconv_small u hs _).mono ?_; rintro e w' ⟨rfl,hw⟩)
   go_ret
   exact ⟨rfl,hw ▸ Below.refl _ _⟩
 · have hu1 : 1 ≤ u:=by omega
   have hnd20 : Lib.nDigits u ≤ 20:=by have:=Lib.numDigits_eq u hu1 hu64; split at this <;> omega
   have hb3 : Lib.nDigits u ≤ 24:=by omega
   have hal : Tryz.prog.arrayLen 178 = 24:=by kernel_rfl
   have hsl1 : ∀ W,(Instr.sliceAt 178 (.pointer (some ⟨w.heap.size,0,none⟩)) none (some (.int .i64 (Lib.nDigits u : Int))) none).run Tryz.prog W = .ok (.slice (some ⟨w.heap.size,0,none⟩) (Lib.nDigits u) 24) W:=fun W=>by
     rw [run_sliceAt_array_h W 178 ⟨w.heap.size,0,none⟩ (by kernel_rfl) .i64 (Lib.nDigits u : Int) (by omega) (by rw [hal]; omega)]
     go_simp
   have hH0:=holds0 w 178 (Lib.nDigits u) (by omega); have hfmt:=Tryz.internal_strconv_formatBase10 w.heap.size 0 24 u (Array.replicate (Lib.nDigits u) 0) (w.alloc (.cells Lib.zeros24 178)) hH0 (by rw [Array.size_replicate]; exact Lib.lt_pow_nDigits u) hu64 (by rw [Array.size_replicate]; omega); rw [Array.size_replicate] at hfmt; have HH0:=Lib.hid hH0; have HT:=Lib.hid htab; have HF:=Lib.hid hfmt; clear hH0 hal htab hfmt
   go_enter Tryz.func176,Tryz.ntmps176
   go_wp2_with (first
     | (go_at_call 189; refine (Tryz.internal_strconv_numDigits u hu1 hu64 _ (Lib.tabIs_alloc HT.out _)).mono ?_; rintro e w' ⟨rfl,rfl⟩))
   go_at_call 190
   refine HF.out.mono ?_; rintro e w' ⟨rfl,k,v',dk,rfl,hF⟩
   have hcv : (convert 117 9 (.slice (some ⟨w.heap.size,0,none⟩) (Lib.nDigits u) 24)).run Tryz.prog ((putRow (fun (b : UInt8)=>Value.int .u8 (b.toNat : Int)) (w.alloc (.cells Lib.zeros24 178)) w.heap.size 0 dk).drewN k) = .ok (.string ⟨(Lib.decDigits u).toArray⟩) ((putRow (fun (b : UInt8)=>Value.int .u8 (b.toNat : Int)) (w.alloc (.cells Lib.zeros24 178)) w.heap.size 0 dk).drewN k):=by
     have h:=run_convert_bytes_back (P:=Tryz.prog) ((putRow (fun (b : UInt8)=>Value.int .u8 (b.toNat : Int)) (w.alloc (.cells Lib.zeros24 178)) w.heap.size 0 dk).drewN k) 117 9 5 ⟨w.heap.size,0,none⟩ 24 (Lib.decDigits u) Tryz.underlying117 Tryz.underlying5 Tryz.underlying9 (fun j hj=>by
       rw [Lib.row_is_numeral hF j hj,Lib.add_plain,World.cell?_drewN]
       exact cell?_putRow (fun (b : UInt8)=>Value.int .u8 (b.toNat : Int)) _ w.heap.size 0 _ dk HH0.out (by rw [hF.size,Array.size_replicate]) j (by rw [hF.size]; rw [Lib.decDigits_length] at hj; exact hj))
     rw [Lib.decDigits_length] at h; exact h
   go_wp2
   go_ret
   exact ⟨rfl,below0 w _ dk k⟩
end Go.Proofs.YtnbhihhjgpddcaaGreatDoor
namespace Go.Proofs.YtnbhihhjgpddcaaGreatDoor
open Go.Lib
def pad : Nat → Nat → List UInt8
 | 0,_=>[]
 | k + 1,v=>pad k (v / 10) ++ [UInt8.ofNat (48 + v % 10)]
theorem bn {u : Nat} (h : u < 10) : decDigits u = [UInt8.ofNat (48 + u)]:=by rw [decDigits,dif_pos h]
theorem dh {u : Nat} (h : ¬ u < 10) : decDigits u = decDigits (u / 10) ++ [UInt8.ofNat (48 + u % 10)]:=by rw [decDigits,dif_neg h]
theorem decDigits_pad (k : Nat) : ∀ u v : Nat,0 < u → v < 10 ^ k → decDigits (u * 10 ^ k + v) = decDigits u ++ pad k v:=by
 induction k with
 | zero =>
   intro u v hu hv; have : v = 0:=by simpa using hv
   subst this; simp [pad]
 | succ k ih =>
   intro u v hu hv; have hp : 0 < 10 ^ k:=Nat.pow_pos (by decide); have h1 : u * 10 ^ (k + 1) = 10 * (u * 10 ^ k):=by rw [Nat.pow_succ,Nat.mul_comm 10,Nat.mul_assoc]
   have h2 : 1 ≤ u * 10 ^ k:=Nat.mul_pos hu hp; rw [h1]
   have h3 : v / 10 < 10 ^ k:=by
     rw [Nat.pow_succ] at hv; omega
   rw [dh (by omega)]; have e1 : (10 * (u * 10 ^ k) + v) / 10 = u * 10 ^ k + v / 10:=by omega
   have e2 : (10 * (u * 10 ^ k) + v) % 10 = v % 10:=by omega
   rw [e1,e2,ih u (v / 10) hu h3,List.append_assoc]; rfl
theorem pad_zero (k : Nat) : pad k 0 = List.replicate k 48:=by
 induction k with
 | zero=>rfl
 | succ k ih=>rw [pad,Nat.zero_div,ih,List.replicate_succ']; rfl
theorem pad_eq (k : Nat) : ∀ v : Nat,v < 10 ^ (k + 1) → pad (k + 1) v = List.replicate (k + 1 - nDigits v) 48 ++ decDigits v:=by
 induction k with
 | zero =>
   intro v hv; have hv' : v < 10:=by simpa using hv
   rw [pad,nDigits_small hv',bn hv',Nat.mod_eq_of_lt hv']; rfl
 | succ k ih =>
   intro v hv; rcases Nat.lt_or_ge v 10 with h | h
   · rw [pad,Nat.div_eq_of_lt h,pad_zero,nDigits_small h,bn h,Nat.mod_eq_of_lt h]; rfl
   · have h1 : v / 10 < 10 ^ (k + 1):=Nat.div_lt_of_lt_mul (by rw [Nat.mul_comm,← Nat.pow_succ]; exact hv); have h2 : nDigits v = nDigits (v / 10) + 1:=nDigits_big (by omega); have h3 : decDigits v = decDigits (v / 10) ++ [UInt8.ofNat (48 + v % 10)]:=dh (by omega); have h4 : pad (k + 1 + 1) v = pad (k + 1) (v / 10) ++ [UInt8.ofNat (48 + v % 10)]:=rfl; rw [h4,ih (v / 10) h1,h2,h3,List.append_assoc,show k + 1 + 1 - (nDigits (v / 10) + 1) = k + 1 - nDigits (v / 10) from by omega]
theorem nDigits_le (k : Nat) : ∀ v : Nat,v < 10 ^ (k + 1) → nDigits v ≤ k + 1:=by
 induction k with
 | zero =>
   intro v hv; rw [nDigits_small (by simpa using hv)]; exact Nat.le_refl _
 | succ k ih =>
   intro v hv; rcases Nat.lt_or_ge v 10 with h | h
   · rw [nDigits_small h]; omega
   · have h1 : v / 10 < 10 ^ (k + 1):=Nat.div_lt_of_lt_mul (by rw [Nat.mul_comm,← Nat.pow_succ]; exact hv); rw [nDigits_big (by omega)]; have:=ih _ h1; omega
theorem nDigits_le9 {v : Nat} (h : v < 1000000000) : nDigits v ≤ 9:=nDigits_le 8 v h
theorem repeat48 (k : Nat) : repeatL [48] k = List.replicate k 48:=by
 induction k with
 | zero=>rfl
 | succ k ih=>rw [repeatL,ih]; rfl
theorem decDigits_base {u v : Nat} (hu : 0 < u) (hv : v < 1000000000) : decDigits (v + 1000000000 * u) = decDigits u ++ (repeatL [48] (9 - nDigits v) ++ decDigits v):=by
 have h:=decDigits_pad 9 u v hu hv
 rw [show u * 10 ^ 9 + v = v + 1000000000 * u from by omega] at h
 rw [h,repeat48,pad_eq 8 v hv]
end Go.Proofs.YtnbhihhjgpddcaaGreatDoor
namespace Go.Proofs.YtnbhihhjgpddcaaGreatDoor
open Go.RowKit Go.Lib
theorem formatUint (u : Nat) (hu64 : u < 18446744073709551616) (w : World) (htab : Tab w) :
   Calls Tryz.prog 164 #[.int .u64 u,.int .i64 10] w fun e w'=>e = .returned (.string ⟨(Lib.decDigits u).toArray⟩) ∧ Below w.heap.size w w':=by
 go_enter Tryz.func164,Tryz.ntmps164
 go_wp2_with (go_at_call 176; refine (formatUint0 u hu64 _ htab).mono ?_; rintro e w' ⟨rfl,hb⟩)
 go_ret
 exact ⟨rfl,hb⟩
def Bld (b : Nat) (l : List UInt8) (w : World) : Prop:=Lib.IsBuilderF 152 5 b b (Lib.byteCells l) w
theorem Bld.below {b : Nat} {l : List UInt8} {w w' : World} (h : Bld b l w) (hb : Below w.heap.size w w') : Bld b l w':=by
 have key : ∀ p,Lib.BuilderAtF 152 5 b b p (Lib.byteCells l) w → Lib.BuilderAtF 152 5 b b p (Lib.byteCells l) w':=by
   intro p hp; obtain ⟨h1,v,h2,⟨h3,h4⟩,h5⟩:=hp; refine ⟨h1,v,(hb.block b (lt_block h2)).trans h2,⟨h3,?_⟩,h5⟩; rcases h4 with h4 | ⟨g,cap,cur,fz,e,hB,hg,r⟩
   · exact .inl h4
   · exact .inr ⟨g,cap,cur,fz,e,hB,(hb.block g (lt_block hg)).trans hg,r⟩
 rcases h with h | h
 · exact .inl (key _ h)
 · exact .inr (key _ h)
theorem writeString (b : Nat) (l m : List UInt8) (w : World) (h : Bld b l w) (hlen : l.length + m.length ≤ 140737488355328) (hb : b < w.heap.size) :
   Calls Tryz.prog 163 #[.pointer (some ⟨b,0,none⟩),.string ⟨m.toArray⟩] w fun e w'=>e = .returned (.tuple #[.int .i64 (m.length : Int),.nilIface]) ∧ Bld b (l ++ m) w' ∧ Below b w w':=by
 have:=Any.Builder_WriteString_k (P:=Tryz.prog) (ρ:=Tryz.lays105_ren) { Tryz.lays105 with } Tryz.Builder_Extra_105 b b (Lib.byteCells l) ⟨m.toArray⟩ w h (by rw [Lib.byteCells_length]; exact hlen) (by omega)
 refine this.mono fun e w' hh=>⟨hh.1,?_,hh.2.2.1⟩
 have h2:=hh.2.1
 rw [Lib.strCells_toArray,← Lib.byteCells_append] at h2
 exact .inr h2
theorem val_drop_pos {ds : List Nat} (h : right ds) {k : Nat} (hk : k < ds.length) : 0 < val (ds.drop k):=by
 induction ds generalizing k with
 | nil=>simp at hk
 | cons d ds ih =>
   cases k with
   | zero =>
     have:=fx h (by simp); have h2 : 0 < 1000000000 ^ ((d :: ds).length - 1):=Nat.pow_pos (by omega); simp only [List.drop_zero]; omega
   | succ k=>exact ih (right_tail h) (by simpa using hk)
theorem decDigits_len {n k : Nat} (h : n < 1000000000 ^ k) (hk : 0 < k) : (decDigits n).length ≤ 9 * k:=by
 rw [Lib.decDigits_length]
 have : nDigits n ≤ (9 * k - 1) + 1:=nDigits_le _ _ (by
   rw [show 9 * k - 1 + 1 = 9 * k from by omega,Nat.pow_mul]; exact h)
 omega
theorem decimal_any {w : World} {A : Option Addr} {c : Nat} {xs : List Nat} (hr : Row w A (u32s xs)) (hx : right xs) (hlen : xs.length ≤ 100000) (htab : Tab w) (hw : 2 ≤ w.heap.size) :
   Calls Tryz.prog 149 #[.slice A xs.length c] w fun e w'=>e = .returned (.string ⟨(decDigits (val xs)).toArray⟩) ∧ Below w.heap.size w w':=by
 have HT:=Lib.hid htab
 clear htab
 rcases Nat.eq_zero_or_pos xs.length with h0 | hpos
 · obtain rfl : xs = []:=List.eq_nil_of_length_eq_zero h0
   go_enter Tryz.func149,Tryz.ntmps149
   go_wp2_with (go_at_call 158; refine (none_any _ _ _ _).mono ?_; rintro e w' ⟨rfl,rfl⟩)
   go_ret
   exact ⟨by rw [bn (by decide)]; rfl,Below.refl _ _⟩
 · have hne : ((xs.length : Int) == 0) = false:=by rw [beq_eq_false_iff_ne]; omega
   have hx':=small_mono hx.1 (show 1000000000 ≤ 4294967296 by decide)
   have q1 : ∀ (p : Nat) (W : World),Below w.heap.size w W → Calls Tryz.prog 165 #[.slice A xs.length c,.int .i64 p] W (fun e w'=>e = .returned (.int .u64 ((xs.getD p 0 : Nat) : Int)) ∧ W = w'):=fun p W hW=>by
     have:=at_any (c:=c) (hr.below hW) hx' p (by omega); rw [Int.toNat_natCast] at this; exact this
   have Q1:=Lib.hid q1; clear q1
   obtain ⟨x0,hx0⟩ : ∃ x,x = xs.getD (xs.length - 1) 0:=⟨_,rfl⟩
   have hb0 : x0 < 1000000000:=by rw [hx0]; exact bl hx.1 (by decide) _
   have HX0:=Lib.hid hx0; clear hx0
   go_enter Tryz.func149,Tryz.ntmps149
   go_wp2_with (go_at_call 158; refine (none_any _ _ _ _).mono ?_; rintro e w' ⟨rfl,rfl⟩)
   have bA : Below w.heap.size w (w.alloc (Obj.cells #[Value.pointer none,Value.slice none 0 0] 152)):=(Below.refl _ _).alloc (Nat.le_refl _) _; have hB0 : Bld w.heap.size [] (w.alloc (Obj.cells #[Value.pointer none,Value.slice none 0 0] 152)):=Lib.IsBuilderF.of (Lib.fresh_isBuilder 152 5 w); have hS0 : w.heap.size < (w.alloc (Obj.cells #[Value.pointer none,Value.slice none 0 0] 152)).heap.size:=by simp
   rw [show ((xs.length : Int) - 1) = ((xs.length - 1 : Nat) : Int) from by omega]
   generalize w.alloc (Obj.cells #[Value.pointer none,Value.slice none 0 0] 152) = w1 at *
   refine (Q1.out _ _ bA).mono ?_; rintro e w' ⟨rfl,rfl⟩; rw [← HX0.out]
   go_wp2_with fail
   refine (formatUint x0 (by omega) w1 (HT.out.below bA hw)).mono ?_; rintro e w2 ⟨rfl,hb2⟩; have hB2:=hB0.below hb2; have hS2:=hb2.size; have bA2 : Below w.heap.size w w2:=bA.trans (hb2.mono (by omega)); clear hB0 hb2 bA; have hl0 : (decDigits x0).length ≤ 9:=by rw [Lib.decDigits_length]; exact nDigits_le9 hb0
   go_wp2_with fail
   refine (writeString w.heap.size [] (decDigits x0) w2 hB2 (by simp; omega) (by omega)).mono ?_; rintro e w3 ⟨rfl,hB3,hb3⟩; have hS3:=hb3.size; have bA3 : Below w.heap.size w w3:=bA2.trans hb3; clear hB2 bA2 hb3
   have hend : decDigits x0 = decDigits (val (xs.drop (xs.length - 1))):=by
     rw [ec xs _ (by omega),List.drop_of_length_le (by omega),HX0.out]; simp [val]
   have HE:=Lib.hid hend; clear hend
   have hpw : ∀ k,(decDigits (val (xs.drop k))).length ≤ 900000:=fun k=>by
     refine Nat.le_trans (decDigits_len (k:=xs.length) (Nat.lt_of_lt_of_le (val_lt (small_drop hx.1 k)) (Nat.pow_le_pow_right (by omega) (by simp))) hpos) (by omega)
   have HP:=Lib.hid hpw; clear hpw
   go_wp2_with fail
   go_loopw [5] (fun i wr => ∃ (k : Nat) (l : List UInt8), k ≤ xs.length - 1 ∧ i = .int .i64 ((k : Int) - 1) ∧ Hid (l = decDigits (val (xs.drop k))) ∧ Bld w.heap.size l wr ∧ Below w.heap.size w wr ∧ w.heap.size < wr.heap.size)
     (fun i _=>(RowKit.intOf i + 1).toNat)
   case atStart=>exact ⟨xs.length - 1,decDigits x0,Nat.le_refl _,rfl,HE,hB3,bA3,by omega⟩
   case round =>
     obtain ⟨k,l,hk,rfl,HL,hBr,hbr,hsr⟩:=hrel; rcases Nat.eq_zero_or_pos k with rfl | hkp
     · go_wp2_with fail
       refine (Tryz.Builder_String_any_k w.heap.size w.heap.size l wr hBr (by omega)).mono ?_; rintro e w4 ⟨rfl,_,hb4,_⟩
       go_wp2
       go_ret
       exact ⟨by rw [HL.out]; rfl,hbr.trans hb4⟩
     · obtain ⟨p,rfl⟩ : ∃ p,k = p + 1:=⟨k - 1,by omega⟩
       rw [show ((p + 1 : Nat) : Int) - 1 = (p : Int) from by omega]
       obtain ⟨x,hxe⟩ : ∃ x,x = xs.getD p 0:=⟨_,rfl⟩
       have hxb : x < 1000000000:=by rw [hxe]; exact bl hx.1 (by decide) _
       have HXE:=Lib.hid hxe; clear hxe; have hl1 : (decDigits x).length ≤ 9:=by rw [Lib.decDigits_length]; exact nDigits_le9 hxb
       obtain ⟨dx,hdx⟩ : ∃ d,d = decDigits x:=⟨_,rfl⟩
       rw [← hdx] at hl1; have HDX:=Lib.hid hdx; clear hdx; have hll : l.length ≤ 900000:=by rw [HL.out]; exact HP.out _
       go_wp2_with fail
       refine (Q1.out _ _ hbr).mono ?_; rintro e w' ⟨rfl,rfl⟩; rw [← HXE.out]
       go_wp2_with fail
       refine (formatUint x (by omega) wr (HT.out.below hbr hw)).mono ?_; rintro e w4 ⟨rfl,hb4⟩; rw [← HDX.out]; have hB4:=hBr.below hb4; have hS4:=hb4.size; have bA4 : Below w.heap.size w w4:=hbr.trans (hb4.mono (by omega)); clear hb4 hBr hbr
       go_wp2_with fail
       rw [show (9 : Int) - (dx.length : Int) = ((9 - dx.length : Nat) : Int) from by omega]; refine (Tryz.strings_Repeat ⟨#[48]⟩ (9 - dx.length) w4 (by omega) (show 1 * (9 - dx.length) ≤ _ by omega)).mono ?_; rintro e w5 ⟨rfl,hb5⟩; have hB5:=hB4.below hb5; have hS5:=hb5.size; have bA5 : Below w.heap.size w w5:=bA4.trans (hb5.mono (by omega)); clear hb5 hB4 bA4
       go_wp2_with fail
       refine (writeString w.heap.size l (repeatL [48] (9 - dx.length)) w5 hB5 (by rw [repeatL_length]; simp; omega) (by omega)).mono ?_; rintro e w6 ⟨rfl,hB6,hb6⟩; have hS6:=hb6.size; have bA6 : Below w.heap.size w w6:=bA5.trans hb6; clear hb6 hB5 bA5
       go_wp2_with fail
       refine (writeString w.heap.size _ dx w6 hB6 (by rw [List.length_append,repeatL_length]; simp; omega) (by omega)).mono ?_; rintro e w7 ⟨rfl,hB7,hb7⟩; have hS7:=hb7.size; have bA7 : Below w.heap.size w w7:=bA6.trans hb7; clear hb7 hB6 bA6
       go_wp2
       go_roundw
       case rel=>exact ⟨p,_,by omega,by go_num,by
         show _ = _
         rw [HL.out,ec xs p (by omega),← HXE.out,decDigits_base (val_drop_pos hx (by omega)) hxb,HDX.out,Lib.decDigits_length,List.append_assoc],hB7,bA7,by omega⟩
       case measure=>first | (simp [RowKit.intOf]; done) | (simp [RowKit.intOf]; omega)
theorem text_any {w : World} {A : Option Addr} {c : Nat} {ds : List Nat} (hr : Row w A (u32s ds)) (hd : small 4294967296 ds) (hlen : ds.length ≤ 10000) (htab : Tab w) (hw : 2 ≤ w.heap.size) :
   Calls Tryz.prog 134 #[.slice A ds.length c] w fun e w'=>e = .returned (.string ⟨(decDigits (val ds)).toArray⟩) ∧ Below w.heap.size w w':=by
 have HT:=Lib.hid htab
 clear htab
 have hfield:=fy
 go_enter Tryz.func134,Tryz.ntmps134
 go_wp2_with fail
 refine (of_any hr hd (by omega)).mono ?_
 rintro e w2 ⟨v2,rfl,⟨ys,hy,hyv,hyo⟩,hb2⟩
 obtain ⟨A2,c2,rfl,hry,_⟩:=hyo.slice32
 have hyl : ys.length ≤ 100000:=Nat.le_trans (right_length_le hy (by rw [hyv]; exact val_lt32 hd)) (by omega)
 have hs2:=hb2.size
 go_wp2_with fail
 refine (decimal_any hry hy hyl (HT.out.below hb2 hw) (by omega)).mono ?_
 rintro e w3 ⟨rfl,hb3⟩
 go_wp2
 go_ret
 exact ⟨rfl,hb2.trans (hb3.mono hs2)⟩
end Go.Proofs.YtnbhihhjgpddcaaGreatDoor
namespace Go.Proofs.YtnbhihhjgpddcaaGreatDoor
open Go.RowKit
theorem same_yes0 {w : World} {A1 A2 : Option Addr} {c1 c2 : Nat} {xs : List Nat} (hr1 : Row w A1 (u32s xs)) (hr2 : Row w A2 (u32s xs)) (hlen : xs.length ≤ 1000000) :
   Calls Tryz.prog 70 #[.slice A1 xs.length c1,.slice A2 xs.length c2] w fun e w'=>e = .returned (.bool true) ∧ Drawn w w':=by
 go_enter Tryz.func70,Tryz.ntmps70
 go_wp2
 go_loopw [5] (fun i wr=>∃ k : Nat,k ≤ xs.length ∧ i = .int .i64 k ∧ Hid (Drawn w wr)) (fun i _=>xs.length - (intOf i).toNat)
 case atStart=>exact ⟨0,Nat.zero_le _,rfl,Drawn.refl _⟩
 case round =>
   obtain ⟨k,hk,rfl,HW⟩:=hrel
   by_cases hlt : k < xs.length
   · obtain ⟨ad1,x,rfl,hc1,hx1,_⟩:=(hr1.drawn HW.out).dig hlt; obtain ⟨ad2,y,rfl,hc2,hy1,_⟩:=(hr2.drawn HW.out).dig hlt; obtain rfl : x = y:=hx1.out.symm.trans hy1.out; have hi1 : (k : Int) < xs.length:=by omega
     have hi0 : 0 ≤ (k : Int):=by omega
     go_wp2
     go_quiet (fail)
     go_wp2
     go_roundw
     case rel=>exact ⟨k + 1,by omega,by go_num,HW.out.more nq⟩
     case measure=>first | (simp [intOf]; done) | (simp [intOf]; omega)
   · go_wp2
     go_ret
     exact ⟨rfl,HW.out⟩
theorem row_vals (w : World) (T : TypeId) (cs : Array Value) : Row (w.alloc (.cells cs T)) (some ⟨w.heap.size,0,none⟩) cs.toList:=by
 intro j v hv
 refine ⟨_,rfl,?_⟩
 have : ((⟨w.heap.size,0,none⟩ : Addr).add j) = ⟨w.heap.size,j,none⟩:=by
   unfold Addr.add; split
   · rename_i h; subst h; rfl
   · simp
 rw [this,World.cell?_alloc_new]
 simpa using hv
theorem row_lit (w : World) (T : TypeId) (cs : Array Value) (ds : List Nat) (h : cs.toList = u32s ds) : Row (w.alloc (.cells cs T)) (some ⟨w.heap.size,0,none⟩) (u32s ds):=h ▸ row_vals w T cs
theorem right_one {d : Nat} (h0 : d ≠ 0) (h : d < 1000000000) : right [d]:=⟨fun x hx=>by rw [List.mem_singleton.1 hx]; exact h,.inr (by simpa using h0)⟩
theorem ef {ds : List Nat} {p k : Nat} (v : Nat) (h : p ≠ k) : (ds.set p v).getD k 0 = ds.getD k 0:=by
 rw [List.getD_eq_getElem?_getD,List.getD_eq_getElem?_getD,List.getElem?_set_ne h]
theorem ga {b : Nat} {ds : List Nat} (h : small b ds) (k : Nat) {d : Nat} (hd : d < b) : small b (ds.set k d):=by
 intro x hx
 rcases List.mem_or_eq_of_mem_set hx with h1 | h1
 · exact h x h1
 · rw [h1]; exact hd
theorem dq (b n : Nat) (hb : 0 < b) : small b (List.replicate n 0):=fun d hd=>by rw [(List.mem_replicate.1 hd).2]; exact hb
theorem div_step {xs qs : List Nat} {p d left : Nat} (hp : p < xs.length) (hq : qs.length = xs.length) (h : val (qs.drop (p + 1)) * d + left = val (xs.drop (p + 1))) :
   val ((qs.set p ((left * 1000000000 + xs.getD p 0) / d)).drop p) * d + (left * 1000000000 + xs.getD p 0) % d = val (xs.drop p):=by
 have e1 : (qs.set p ((left * 1000000000 + xs.getD p 0) / d)).drop p = ((left * 1000000000 + xs.getD p 0) / d) :: qs.drop (p + 1):=by
   have hl : p < (qs.set p ((left * 1000000000 + xs.getD p 0) / d)).length:=by rw [List.length_set]; omega
   rw [List.drop_eq_getElem_cons hl]; congr 1
   · simp
   · rw [List.drop_set_of_lt (by omega)]
 rw [e1,ec xs p hp,← h,val]
 have h2:=Nat.mod_add_div (left * 1000000000 + xs.getD p 0) d
 rw [Nat.add_mul,Nat.mul_add,Nat.mul_comm _ d,Nat.mul_assoc]
 omega
theorem div_lt {left d x : Nat} (h : left < d) (hx : x < 1000000000) : (left * 1000000000 + x) / d < 1000000000:=by
 rw [Nat.div_lt_iff_lt_mul (by omega)]
 have:=Nat.mul_le_mul_right 1000000000 (show left + 1 ≤ d from h)
 rw [Nat.mul_comm 1000000000 d]
 omega
def RetTwo (w : World) (B q r : Nat) (e : Ending) (w' : World) : Prop:=∃ v u,e = .returned (.tuple #[.agg #[v],.agg #[u]]) ∧ IsNat w' B v q ∧ IsNat w' B u r ∧ Below w.heap.size w w'
theorem divideShort_any {w : World} {A1 : Option Addr} {c1 d : Nat} {xs : List Nat} (hr1 : Row w A1 (u32s xs)) (hx : small 1000000000 xs) (hl1 : xs.length ≤ 100000) (hd0 : 0 < d) (hd : d < 1000000000) :
   Calls Tryz.prog 173 #[.agg #[.slice A1 xs.length c1],.int .u64 d] w (RetTwo w w.heap.size (val xs / d) (val xs % d)):=by
 obtain ⟨i0,hi,hz0,hz1,hz2⟩:=info_parts ep
 obtain ⟨n,hn⟩ : ∃ n : Nat,n = xs.length:=⟨_,rfl⟩
 have hn1 : n ≤ 100000:=by omega
 rw [← hn]
 have HN:=Lib.hid hn
 clear hn
 go_enter Tryz.func173,Tryz.ntmps173
 go_wp2_with (at_make; refine wpList_make_full _ rfl _ _ 128 rfl (w.heap.size + 3) 81 i0 (.int .u32 0) 1 Tryz.underlying128 hi hz0 hz1 .i64 .i64 (n : Int) (n : Int) n rfl rfl rfl rfl ?b2 ?b3 ?b4 ?_)
 case b2=>rw [hz2]; omega
 case b3=>unfold maxLen; omega
 case b4=>simp
 intro w1 hown hgrow
 have ho1:=kx hown
 obtain ⟨hb1,hs1,hA,hB,hC⟩:=jh hgrow
 have HA:=Lib.hid hA
 have HB:=Lib.hid hB
 have HC:=Lib.hid hC
 clear hown hgrow hA hB hC
 have hx':=small_mono hx (show 1000000000 ≤ 4294967296 by decide)
 go_wp2_with fail
 go_loopw [7, 8] (fun cv i wr => ∃ (k left : Nat) (qs : List Nat), k ≤ n ∧ i = .int .i64 ((k : Int) - 1) ∧ cv = .int .u64 left ∧ left < d ∧ Own wr (w.heap.size + 3) 81 (.slice (some ⟨w.heap.size + 1 + 1 + 1, 0, none⟩) n n) (u32s qs) ∧ Hid (qs.length = n ∧ small 1000000000 qs ∧ val (qs.drop k) * d + left = val (xs.drop k)) ∧ Below (w.heap.size + 3) w1 wr)
   (fun _ i _=>(intOf i + 1).toNat)
 case atStart =>
   refine ⟨n,0,List.replicate n 0,Nat.le_refl _,rfl,rfl,hd0,ho1,⟨by simp,dq _ _ (by decide),?_⟩,Below.refl _ _⟩; rw [List.drop_of_length_le (by simp),List.drop_of_length_le (by rw [HN.out]; exact Nat.le_refl _)]; simp [val]
 case round =>
   obtain ⟨k,left,qs,hk,rfl,rfl,hleft,hq,HO,hb⟩:=hrel; have hsz:=hb.size; rcases Nat.eq_zero_or_pos k with rfl | hpos
   · have hl : qs.length ≤ 1000000:=by rw [HO.out.1]; omega
     go_wp2_with fail
     refine (stripped_any hq hl).mono ?_; rintro e w3 ⟨⟨v,rfl,hv⟩,rfl⟩; obtain ⟨A3,c3,rfl,_⟩:=hv.slice32
     go_wp2_with fail
     refine (stripped_any (own_lit32 wr (B:=w.heap.size + 3) left (by omega)) (by simp)).mono ?_; rintro e w4 ⟨⟨v2,rfl,hv2⟩,hw4⟩; obtain ⟨A4,c4,rfl,_⟩:=hv2.slice32; have hb4 : Below (w.heap.size + 3) w1 w4:=by rw [← hw4]; exact hb.alloc (by omega) _
     have hv' : Own w4 (w.heap.size + 3) 81 (.slice A3 (strip qs).length c3) (u32s (strip qs)):=by rw [← hw4]; exact hv.below ((Below.refl _ _).alloc (Nat.le_refl _) _)
     have hv2' : Own w4 (w.heap.size + 3) 81 (.slice A4 (strip [left]).length c4) (u32s (strip [left])):=by rw [← hw4]; exact hv2
     clear hv hv2 hw4; have hB4:=(hb4.block (w.heap.size + 1) (by omega)).trans HB.out; have hC4:=(hb4.block (w.heap.size + 1 + 1) (by omega)).trans HC.out; obtain ⟨t1,t2,t3⟩:=ky (u1:=.slice A3 (strip qs).length c3) (u2:=.slice A4 (strip [left]).length c4) hB4 hC4 (by omega); have k1:=cell_of_one hB4; have k2:=free_of_one hB4; have k3:=cell_of_one t1; have k4:=free_of_one t1; have k5:=cell_of_one t2; have k6:=cell_of_one t3; clear hB4 hC4 t1 t2 t3
     go_wp2
     refine bodyPost_ret (v:=.tuple #[.agg #[.slice A3 (strip qs).length c3],.agg #[.slice A4 (strip [left]).length c4]]) (by simp [results,Tryz.results173,go_sem,k5,k6]) rfl ?_; have h:=HO.out; have hv3 : val qs * d + left = val xs:=by simpa using h.2.2
     refine ⟨_,_,rfl,⟨_,df h.2.1,?_,((hv'.setBelow (show w.heap.size + 1 < w.heap.size + 3 by omega) _).setBelow (show w.heap.size + 1 + 1 < w.heap.size + 3 by omega) _).mono (by omega)⟩,⟨_,df (ds:=[left]) (fun y hy=>by rw [List.mem_singleton.1 hy]; omega),?_,((hv2'.setBelow (show w.heap.size + 1 < w.heap.size + 3 by omega) _).setBelow (show w.heap.size + 1 + 1 < w.heap.size + 3 by omega) _).mono (by omega)⟩,((below_trans hb1 hb4 (by omega)).setCell (Nat.le_succ _) _).setCell (Nat.le_succ_of_le (Nat.le_succ _)) _⟩
     · rw [ek,← hv3,Nat.mul_comm,Nat.mul_add_div hd0,Nat.div_eq_of_lt hleft,Nat.add_zero]
     · rw [ek,← hv3,Nat.mul_comm,Nat.mul_add_mod,Nat.mod_eq_of_lt hleft]; simp [val]
   · obtain ⟨p,rfl⟩ : ∃ p,k = p + 1:=⟨k - 1,by omega⟩
     rw [show ((p + 1 : Nat) : Int) - 1 = (p : Int) from by omega]; have bW:=below_trans hb1 hb (by omega); have hcA:=cell_of_one ((hb.block w.heap.size (by omega)).trans HA.out)
     obtain ⟨x,hxe⟩ : ∃ x,x = xs.getD p 0:=⟨_,rfl⟩
     have hxb : x < 1000000000:=by rw [hxe]; exact bl hx (by decide) p
     have q1 : ∀ W,Below w.heap.size w W → Calls Tryz.prog 165 #[.slice A1 n c1,.int .i64 p] W (fun e w'=>e = .returned (.int .u64 (x : Int)) ∧ W = w'):=fun W hW=>by
       have:=at_any (c:=c1) (hr1.below hW) hx' p (by omega); rw [Int.toNat_natCast,← hxe,← HN.out] at this; exact this
     have HX:=Lib.hid hxe; have Q1:=Lib.hid q1; clear hxe q1; obtain ⟨hqc,hqf⟩:=own_cell hq (k:=p) (by rw [an,HO.out.1]; omega)
     obtain ⟨q,hqe⟩ : ∃ q,q = (left * 1000000000 + x) / d:=⟨_,rfl⟩
     obtain ⟨r,hre⟩ : ∃ r,r = (left * 1000000000 + x) % d:=⟨_,rfl⟩
     have hql : q < 1000000000:=by rw [hqe]; exact div_lt hleft hxb
     have hrl : r < d:=by rw [hre]; exact Nat.mod_lt _ hd0
     have hdq : ((left : Int) * 1000000000 + (x : Int)) / (d : Int) = (q : Int):=by rw [hqe]; simp
     have hdr : ((left : Int) * 1000000000 + (x : Int)) % (d : Int) = (r : Int):=by rw [hre]; simp
     have HQ:=Lib.hid hqe; have HR:=Lib.hid hre; clear hqe hre; have hi1 : (p : Int) < n:=by omega
     go_wp2_with (go_at_call 165; refine (Q1.out _ bW).mono ?_; rintro e w' ⟨rfl,rfl⟩)
     have HDR:=Lib.hid hdr; clear hdq hdr
     go_roundw
     case rel =>
       refine ⟨p,r,qs.set p q,by omega,by go_num,int_eq HDR.out,hrl,gk hq p q,?_,hb.setCell (show w.heap.size + 3 ≤ w.heap.size + 1 + 1 + 1 by omega) _⟩; have h:=HO.out; refine ⟨by rw [List.length_set]; exact h.1,ga h.2.1 p hql,?_⟩; rw [HQ.out,HR.out,HX.out]; exact div_step (by rw [← HN.out]; omega) (by rw [h.1,HN.out]) h.2.2
     case measure=>first | (simp [intOf]; done) | (simp [intOf]; omega)
theorem IsNat.setOther {w : World} {B n : Nat} {v u0 : Value} (h : IsNat w B v n) {g : Nat} (hg : w.heap[g]? = some (.cells #[u0] 130 (0,0))) (u : Value) : IsNat (w.setCell ⟨g,0,none⟩ u) B v n:=by
 obtain ⟨rs,h1,h2,h3⟩:=h
 exact ⟨rs,h1,h2,h3.setOther hg (by decide) u⟩
theorem IsNat.below {w w' : World} {B n : Nat} {v : Value} (h : IsNat w B v n) (hb : Below w.heap.size w w') : IsNat w' B v n:=by
 obtain ⟨rs,h1,h2,h3⟩:=h
 exact ⟨rs,h1,h2,h3.below hb⟩
theorem IsNat.alloc {w : World} {B n : Nat} {v : Value} (h : IsNat w B v n) (o : Obj) : IsNat (w.alloc o) B v n:=h.below ((Below.refl _ _).alloc (Nat.le_refl _) _)
theorem Own.alloc {w : World} {B T : Nat} {v : Value} {xs : List Value} (h : Own w B T v xs) (o : Obj) : Own (w.alloc o) B T v xs:=h.below ((Below.refl _ _).alloc (Nat.le_refl _) _)
theorem IsNat.mono {w : World} {B B' n : Nat} {v : Value} (h : IsNat w B v n) (hB : B' ≤ B) : IsNat w B' v n:=by
 obtain ⟨rs,h1,h2,h3⟩:=h
 exact ⟨rs,h1,h2,h3.mono hB⟩
theorem ji {w W : World} {B0 q r g3 g4 : Nat} {v u v0 u0 : Value} (h3 : W.heap[g3]? = some (.cells #[v0] 130 (0, 0))) (h4 : W.heap[g4]? = some (.cells #[u0] 130 (0, 0))) (hne : g3 ≠ g4) (hg3 : w.heap.size ≤ g3) (hg4 : w.heap.size ≤ g4)
   (hv : IsNat W B0 v q) (hu : IsNat W B0 u r) (hb : Below w.heap.size w W) :
   (IsNat ((W.setCell ⟨g3,0,none⟩ v).setCell ⟨g4,0,none⟩ u) B0 v q ∧ IsNat ((W.setCell ⟨g3,0,none⟩ v).setCell ⟨g4,0,none⟩ u) B0 u r ∧ Below w.heap.size w ((W.setCell ⟨g3,0,none⟩ v).setCell ⟨g4,0,none⟩ u)) ∧
   ((W.setCell ⟨g3,0,none⟩ v).setCell ⟨g4,0,none⟩ u).cell? ⟨g3,0,none⟩ = some v ∧ ((W.setCell ⟨g3,0,none⟩ v).setCell ⟨g4,0,none⟩ u).cell? ⟨g4,0,none⟩ = some u:=by
 obtain ⟨t1,t2,t3⟩:=ky (u1:=v) (u2:=u) h3 h4 hne
 exact ⟨⟨(hv.setOther h3 v).setOther t1 u,(hu.setOther h3 v).setOther t1 u,(hb.setCell hg3 _).setCell hg4 _⟩,cell_of_one t2,cell_of_one t3⟩
theorem IsNat.shape {w : World} {B n : Nat} {v : Value} (h : IsNat w B v n) : ∃ A m c,v = .slice A m c:=by
 obtain ⟨rs,_,_,h3⟩:=h
 obtain ⟨A,c,rfl,_⟩:=h3.slice
 exact ⟨A,_,c,rfl⟩
def LongSpec : Prop := ∀ (w : World) (A1 A2 : Option Addr) (c1 c2 : Nat) (xs ys : List Nat), Row w A1 (u32s xs) → Row w A2 (u32s ys) → right xs → right ys → 2 ≤ ys.length → val ys ≤ val xs → xs.length ≤ 100000 →
 Calls Tryz.prog 174 #[.agg #[.slice A1 xs.length c1],.agg #[.slice A2 ys.length c2]] w (RetTwo w w.heap.size (val xs / val ys) (val xs % val ys))
theorem divide_any {w : World} {B0 : Nat} {A1 A2 : Option Addr} {c1 c2 : Nat} {xs ys : List Nat} (ho1 : Own w B0 81 (.slice A1 xs.length c1) (u32s xs)) (hB0 : B0 ≤ w.heap.size) (hr2 : Row w A2 (u32s ys)) (hx : right xs) (hy : right ys) (hne : ys ≠ []) (hl1 : xs.length ≤ 100000) (hL : ys.length = 1 ∨ LongSpec) :
   Calls Tryz.prog 159 #[.agg #[.slice A1 xs.length c1],.agg #[.slice A2 ys.length c2]] w (RetTwo w B0 (val xs / val ys) (val xs % val ys)):=by
 have hr1:=ho1.row32
 have HL:=Lib.hid hL
 have HNE:=Lib.hid hne
 clear hL hne
 obtain ⟨W,hW⟩ : ∃ W,W = (((w.alloc (Obj.cells #[Value.slice A1 xs.length c1] 130)).alloc (Obj.cells #[Value.slice A2 ys.length c2] 130)).alloc (Obj.cells #[Value.slice none 0 0] 130)).alloc (Obj.cells #[Value.slice none 0 0] 130):=⟨_,rfl⟩
 obtain ⟨hbW,hsW,b1,b2,b3,b4⟩:=kk hW
 have bB1:=Lib.hid b1
 have bB2:=Lib.hid b2
 have bB3:=Lib.hid b3
 have bB4:=Lib.hid b4
 have HSW:=Lib.hid hsW
 have HW:=Lib.hid hW
 have hs4 : w.heap.size + 4 ≤ W.heap.size:=by omega
 have hcmp:=gw (c1:=c1) (c2:=c2) (hr1.below hbW) (hr2.below hbW) hx hy (by omega)
 have HC:=Lib.hid hcmp
 clear b1 b2 b3 b4 hsW hW hcmp
 by_cases hlt : val xs < val ys
 · have ht : decide (ordI (val xs : Int) (val ys : Int) < 0) = true:=by unfold ordI; rw [if_pos (by omega)]; rfl
   have HLT:=Lib.hid hlt; clear hlt
   go_enter Tryz.func159,Tryz.ntmps159
   go_wp2_with fail
   rw [← HW.out]; refine HC.out.mono ?_; rintro e W2 ⟨rfl,hd2⟩; have hb2:=hd2.below; have k1:=(hb2.block _ (by omega)).trans bB1.out; have k3:=(hb2.block _ (by omega)).trans bB3.out; have k4:=(hb2.block _ (by omega)).trans bB4.out; have c1':=cell_of_one k1; have c3':=cell_of_one k3; have c4':=cell_of_one k4; have f3':=free_of_one k3; have f4':=free_of_one k4; have K3:=Lib.hid k3; have K4:=Lib.hid k4; clear k1 k3 k4
   go_wp2
   go_region
   obtain ⟨⟨n1,n2,n3⟩,n4,n5⟩:=ji (w:=w) (v:=.slice none 0 0) (u:=.slice A1 xs.length c1) K3.out K4.out (by omega) (by omega) (by omega) ⟨[],kz,rfl,Own.nil _ B0 _⟩ ⟨xs,hx,rfl,(ho1.below hbW).below hb2⟩ (hbW.trans (hb2.mono (by omega)))
   go_wp2
   refine bodyPost_ret (v:=.tuple #[.agg #[.slice none 0 0],.agg #[.slice A1 xs.length c1]]) (by simp [results,Tryz.results159,go_sem,n4,n5]) rfl ?_; rw [Nat.div_eq_of_lt HLT.out,Nat.mod_eq_of_lt HLT.out]; exact ⟨_,_,rfl,n1,n2,n3.drew⟩
 · have ht : decide (ordI (val xs : Int) (val ys : Int) < 0) = false:=by
     unfold ordI; rw [if_neg (by omega)]; split <;> rfl
   have HGE:=Lib.hid (Nat.le_of_not_lt hlt); clear hlt
   by_cases h1 : ys.length = 1
   · have hl : ((ys.length : Int) == 1) = true:=by rw [h1]; rfl
     obtain ⟨d,hyd⟩ : ∃ d,ys = [d]:=by
       match ys,h1 with
       | [d],_=>exact ⟨d,rfl⟩
     have hd : d < 1000000000:=hy.1 d (by rw [hyd]; simp)
     have hd0 : 0 < d:=by
       rcases hy.2 with h | h
       · rw [hyd] at h; cases h
       · rw [hyd] at h; simp at h; omega
     have hq : ∀ W2,Below w.heap.size w W2 → Calls Tryz.prog 165 #[.slice A2 ys.length c2,.int .i64 0] W2 fun e w'=>e = .returned (.int .u64 (d : Int)) ∧ W2 = w':=fun W2 hb=>by
       have:=at_any (c:=c2) (hr2.below hb) (small_mono hy.1 (by decide)) 0 (by omega); rw [show ys.getD (Int.toNat 0) 0 = d from by rw [hyd]; rfl] at this; exact this
     have HQ:=Lib.hid hq; have HYD : Hid (val ys = d):=by show _ = _; rw [hyd]; simp [val]
     have hw2 : ∀ W2,Below W.heap.size W W2 → W2.heap[w.heap.size]? = some (Obj.cells #[Value.slice A1 xs.length c1] 130) ∧ W2.heap[w.heap.size + 1]? = some (Obj.cells #[Value.slice A2 ys.length c2] 130) ∧ W2.heap[w.heap.size + 1 + 1]? = some (Obj.cells #[Value.slice none 0 0] 130) ∧ W2.heap[w.heap.size + 1 + 1 + 1]? = some (Obj.cells #[Value.slice none 0 0] 130):=fun W2 hb=>⟨(hb.block _ (by omega)).trans bB1.out,(hb.block _ (by omega)).trans bB2.out,(hb.block _ (by omega)).trans bB3.out,(hb.block _ (by omega)).trans bB4.out⟩
     have HW2:=Lib.hid hw2; clear hw2 hyd h1 hq
     go_enter Tryz.func159,Tryz.ntmps159
     go_wp2_with fail
     rw [← HW.out]; refine HC.out.mono ?_; rintro e W2 ⟨rfl,hd2⟩; have hb2:=hd2.below; obtain ⟨k1,k2,k3,k4⟩:=HW2.out W2 hb2; have c1':=cell_of_one k1; have c2':=cell_of_one k2; have bA2 : Below w.heap.size w W2.drew:=(hbW.trans (hb2.mono (by omega))).drew; have hs2 : w.heap.size + 4 ≤ W2.heap.size:=Nat.le_trans hs4 hb2.size; clear k1 k2 k3 k4
     go_wp2
     go_region_with (first
       | (go_at_call 165; refine (HQ.out _ bA2).mono ?_; rintro e w' ⟨rfl,rfl⟩)
       | (go_at_call 173; refine (divideShort_any (w:=W2.drew) (hr1.below bA2) hx.1 hl1 hd0 hd).mono ?_; rintro e W3 ⟨v,u,rfl,hv,hu,hb3⟩; obtain ⟨Av,nv,cv,rfl⟩:=hv.shape; obtain ⟨Au,nu,cu,rfl⟩:=hu.shape; have hk:=HW2.out W3 (hb2.drew.trans (hb3.mono hb2.size)); have j3:=cell_of_one hk.2.2.1; have j4:=free_of_one hk.2.2.1; have j5:=cell_of_one hk.2.2.2; have j6:=free_of_one hk.2.2.2; have HK:=Lib.hid hk; clear hk))
     all_goals
       obtain ⟨⟨n1,n2,n3⟩,n4,n5⟩:=ji (w:=w) HK.out.2.2.1 HK.out.2.2.2 (by omega) (by omega) (by omega) (hv.mono (Nat.le_trans hB0 (show w.heap.size ≤ W2.heap.size by omega))) (hu.mono (Nat.le_trans hB0 (show w.heap.size ≤ W2.heap.size by omega))) (bA2.trans (hb3.mono (show w.heap.size ≤ W2.heap.size by omega)))
       go_wp2
       refine bodyPost_ret (v:=.tuple #[.agg #[.slice Av nv cv],.agg #[.slice Au nu cu]]) (by simp [results,Tryz.results159,go_sem,n4,n5]) rfl ?_; rw [HYD.out]; exact ⟨_,_,rfl,n1,n2,n3⟩
   · have hl : ((ys.length : Int) == 1) = false:=by rw [beq_eq_false_iff_ne]; omega
     have hl2 : 2 ≤ ys.length:=by
       rcases Nat.lt_or_ge ys.length 1 with h | h
       · exact absurd (List.eq_nil_of_length_eq_zero (by omega)) HNE.out
       · omega
     have HS : Hid LongSpec:=HL.out.resolve_left h1
     have hw2 : ∀ W2,Below W.heap.size W W2 → W2.heap[w.heap.size]? = some (Obj.cells #[Value.slice A1 xs.length c1] 130) ∧ W2.heap[w.heap.size + 1]? = some (Obj.cells #[Value.slice A2 ys.length c2] 130) ∧ W2.heap[w.heap.size + 1 + 1]? = some (Obj.cells #[Value.slice none 0 0] 130) ∧ W2.heap[w.heap.size + 1 + 1 + 1]? = some (Obj.cells #[Value.slice none 0 0] 130):=fun W2 hb=>⟨(hb.block _ (by omega)).trans bB1.out,(hb.block _ (by omega)).trans bB2.out,(hb.block _ (by omega)).trans bB3.out,(hb.block _ (by omega)).trans bB4.out⟩
     have HW2:=Lib.hid hw2; clear hw2 h1
     go_enter Tryz.func159,Tryz.ntmps159
     go_wp2_with fail
     rw [← HW.out]; refine HC.out.mono ?_; rintro e W2 ⟨rfl,hd2⟩; have hb2:=hd2.below; obtain ⟨k1,k2,k3,k4⟩:=HW2.out W2 hb2; have c1':=cell_of_one k1; have c2':=cell_of_one k2; have bA2 : Below w.heap.size w W2:=hbW.trans (hb2.mono (by omega)); have hs2 : w.heap.size + 4 ≤ W2.heap.size:=Nat.le_trans hs4 hb2.size; clear k1 k2 k3 k4
     go_wp2_with fail
     refine (HS.out W2 A1 A2 c1 c2 xs ys (hr1.below bA2) (hr2.below bA2) hx hy hl2 HGE.out hl1).mono ?_; rintro e W3 ⟨v,u,rfl,hv,hu,hb3⟩; obtain ⟨Av,nv,cv,rfl⟩:=hv.shape; obtain ⟨Au,nu,cu,rfl⟩:=hu.shape; have hk:=HW2.out W3 (hb2.trans (hb3.mono hb2.size)); have j3:=cell_of_one hk.2.2.1; have j4:=free_of_one hk.2.2.1; have j5:=cell_of_one hk.2.2.2; have j6:=free_of_one hk.2.2.2; obtain ⟨⟨n1,n2,n3⟩,n4,n5⟩:=ji (w:=w) hk.2.2.1 hk.2.2.2 (by omega) (by omega) (by omega) (hv.mono (Nat.le_trans hB0 (show w.heap.size ≤ W2.heap.size by omega))) (hu.mono (Nat.le_trans hB0 (show w.heap.size ≤ W2.heap.size by omega))) (bA2.trans (hb3.mono (show w.heap.size ≤ W2.heap.size by omega))); clear hk; have N4:=Lib.hid n4; have N5:=Lib.hid n5; clear n4 n5
     go_wp2
     refine bodyPost_ret (v:=.tuple #[.agg #[.slice Av nv cv],.agg #[.slice Au nu cu]]) (by simp [results,Tryz.results159,go_sem,N4.out,N5.out]) rfl ?_; exact ⟨_,_,rfl,n1,n2,n3⟩
end Go.Proofs.YtnbhihhjgpddcaaGreatDoor

/- strings.Builder's writing, by hand, where the Builder stands at the head of a longer block: copyCheck, WriteByte, WriteString. -/
import Derived.Test.YtbccknhinmgibaaDoorLPast
import Derived.Tactics
import Derived.Deep.AppendLies
import Derived.Lib.Builder
set_option linter.unusedVariables false
set_option linter.unusedSimpArgs false
namespace Go.Proofs.YtbccknhinmgibaaDoor
open Go.RowKit

/-- A teller: its Builder's own address (or none, as long as nothing is written), its bytes, whether a word stands last. -/
def TelAt (W : World) (g : Nat) (A : Option Addr) (v : Value) (b : Bool) : Prop := W.heap[g]? = some (.cells #[.pointer A, v, .bool b] 66 (0, 0)) ∧ (A = none ∨ A = some ⟨g, 0, none⟩)
theorem set_self {W : World} {g : Nat} {a v b : Value} {T : TypeId} (h : W.heap[g]? = some (.cells #[a, v, b] T (0, 0))) : W.setCell ⟨g, 0, none⟩ a = W := by
  obtain ⟨hlt, hk⟩ := Array.getElem?_eq_some_iff.1 h
  have : W.heap.modify g (fun | .cells c elem frozen => .cells (c.setIfInBounds 0 a) elem frozen | o => o) = W.heap := by
    apply Array.ext
    · simp
    · intro i h1 h2
      rw [Array.getElem_modify]
      split
      · next e => subst e; rw [hk]; rfl
      · rfl
  show ({ W with heap := _ } : World) = W
  exact congrArg (fun h => ({ W with heap := h } : World)) this
set_option maxRecDepth 100000 in
set_option maxHeartbeats 3200000 in
theorem copy_ok {w : World} {g : Nat} {A : Option Addr} {v : Value} {b : Bool} (h : TelAt w g A v b) : Calls Tryd.prog 42 #[.pointer (some ⟨g, 0, none⟩)] w fun e w' => e = .returned (.tuple #[]) ∧ w' = w.setCell ⟨g, 0, none⟩ (.pointer (some ⟨g, 0, none⟩)) := by
  have m0 : w.cell? ⟨g, 0, none⟩ = some (.pointer A) := (cell_of_row _ _ 0 _ _ _ h.1).trans rfl
  have f0 : w.frozen? ⟨g, 0, none⟩ = false := by simp [World.frozen?, h.1]
  have hsh : w.shape? g = some (66, 3) := by simp [World.shape?, h.1]
  obtain ⟨j, hj, hjs⟩ := Option.map_eq_some_iff.1 (show (Tryd.prog.info? 44).map (·.size) = some 2 by kernel_rfl)
  have hs : A = some ⟨g, 0, none⟩ → w.setCell ⟨g, 0, none⟩ (.pointer (some ⟨g, 0, none⟩)) = w := fun e => by
    subst e
    exact set_self h.1
  rcases h.2 with rfl | rfl
  · clear h hs
    go_enter Tryd.func42, Tryd.ntmps42
    go_wp2_with fail
    rw [Lib.run_to_unsafe w ⟨g, 0, none⟩ (show Tryd.prog.underlying 42 = some (.pointer 44) by kernel_rfl) (show Tryd.prog.underlying 98 = some .unsafePointer by kernel_rfl) hj (by rw [hjs]; decide) hsh (show 0 < 3 by decide)]
    simp only [Result.andThen]
    rw [Oper.upon_value]
    go_wp2_with fail
    rw [run_callFunc_extern Tryd.func57 (by kernel_rfl) (by kernel_rfl) (by kernel_rfl) (e := Extern.AbiNoEscape.same) (by kernel_rfl)]
    rw [Lib.run_noEscape]
    simp only [Result.andThen]
    rw [Oper.upon_value]
    go_wp2_with fail
    rw [Lib.run_from_unsafe w ⟨g, 0, none⟩ (show Tryd.prog.underlying 98 = some .unsafePointer by kernel_rfl) (show Tryd.prog.underlying 42 = some (.pointer 44) by kernel_rfl) hj hsh (show liesAt Tryd.prog Tryd.prog.depth 66 (3 / Tryd.prog.cellsOf 66) 0 44 1 = true by kernel_rfl)]
    simp only [Result.andThen]
    rw [Oper.upon_value]
    go_wp2_with fail
    go_returns
    exact ⟨rfl, rfl⟩
  · rw [hs rfl]
    clear h hs
    go_enter Tryd.func42, Tryd.ntmps42
    go_wp2_with fail
    rw [Lib.run_neq_ptr_same w _ (show Tryd.prog.underlying 42 = some (.pointer 44) by kernel_rfl) hj]
    simp only [Result.andThen]
    rw [Oper.upon_value]
    go_wp2_with fail
    go_returns
    exact ⟨rfl, rfl⟩
/-- A teller's bytes, in a row of the call's own. -/
structure Tel (B : Nat) (W : World) (g : Nat) (v : Value) (n : Nat) (C : List Value) (b : Bool) : Prop where
  tel : ∃ A, TelAt W g A v b
  own : W.ownsRow B 5 1 v n C
  off : v.ownBlock ≠ some g
  low : B ≤ g
theorem info_u8 : (Tryd.prog.info? 5).map (fun i => (i.zero, i.size, i.bytes)) = some (some (.int .u8 0), 1, 1) := by kernel_rfl
theorem tel_set0 {W : World} {g : Nat} {a v b u : Value} {T : TypeId} (h : W.heap[g]? = some (.cells #[a, v, b] T (0, 0))) : (W.setCell ⟨g, 0, none⟩ u).heap[g]? = some (.cells #[u, v, b] T (0, 0)) := by simp [World.setCell, Array.getElem?_modify, h]
theorem tel_set1 {W : World} {g : Nat} {a v b u : Value} {T : TypeId} (h : W.heap[g]? = some (.cells #[a, v, b] T (0, 0))) : (W.setCell ⟨g, 1, none⟩ u).heap[g]? = some (.cells #[a, u, b] T (0, 0)) := by simp [World.setCell, Array.getElem?_modify, h]
/-- What a write changes: the teller's block, its row's, what is new. -/
def TelW (w w' : World) (g : Nat) (v v' : Value) : Prop := (∀ m, m < w.heap.size → m ≠ g → v.ownBlock ≠ some m → w'.heap[m]? = w.heap[m]?) ∧ w.heap.size ≤ w'.heap.size ∧ (w'.os = w.os ∧ w'.tape = w.tape ∧ w'.output = w.output) ∧ ∀ m, v'.ownBlock = some m → v.ownBlock = some m ∨ w.heap.size ≤ m
theorem tel_end {B g n n' g4 c4 : Nat} {w w1 w4 : World} {v : Value} {C C' : List Value} {b : Bool} (h : Tel B w g v n C b) (hw : ∀ m, m < w.heap.size → w1.heap[m]? = (w.setCell ⟨g, 0, none⟩ (.pointer (some ⟨g, 0, none⟩))).heap[m]?) (hs : w.heap.size ≤ w1.heap.size) (ho : w1.os = w.os ∧ w1.tape = w.tape ∧ w1.output = w.output)
    (hr : w4.ownsRow B 5 1 (.slice (some ⟨g4, 0, none⟩) n' c4) n' C') (hg : w1.grownBy w4 v.ownBlock) (ha : v.ownBlock = some g4 ∨ g4 = w1.heap.size) :
    Tel B (w4.setCell ⟨g, 1, none⟩ (.slice (some ⟨g4, 0, none⟩) n' c4)) g (.slice (some ⟨g4, 0, none⟩) n' c4) n' C' b ∧ TelW w (w4.setCell ⟨g, 1, none⟩ (.slice (some ⟨g4, 0, none⟩) n' c4)) g v (.slice (some ⟨g4, 0, none⟩) n' c4) := by
  obtain ⟨A, ht, hA⟩ := h.tel
  have hgl := blk_lt ht
  have hne : g4 ≠ g := by
    rcases ha with e | e
    · intro e2; exact h.off (by rw [e, e2])
    · omega
  have h4 : w4.heap[g]? = some (.cells #[.pointer (some ⟨g, 0, none⟩), v, .bool b] 66 (0, 0)) := (hg.block g (by omega) fun e => h.off e.symm).trans ((hw g hgl).trans (tel_set0 ht))
  have hsz := hg.size
  refine ⟨⟨⟨_, tel_set1 h4, .inr rfl⟩, ownsRow_same hr fun m hm => ?_, fun e => hne (by injection e), h.low⟩, fun m hm h1 h2 => ?_, by simp; omega, ⟨hg.os.trans ho.1, hg.tape.trans ho.2.1, hg.output.trans ho.2.2⟩, fun m hm => ?_⟩
  · obtain rfl : g4 = m := by injection hm
    exact Below.heap_setCell _ _ _ _ hne
  · exact (Below.heap_setCell _ _ _ _ h1).trans ((hg.block m (by omega) fun e => h2 e.symm).trans ((hw m hm).trans (Below.heap_setCell _ _ _ _ h1)))
  · obtain rfl : g4 = m := by injection hm
    exact ha.imp_right fun e => by omega
set_option maxRecDepth 100000 in
set_option maxHeartbeats 3200000 in
theorem wbyte_ok {B g n : Nat} {w : World} {v : Value} {C : List Value} {b : Bool} {x : Int} (h : Tel B w g v n C b) (hB : B ≤ w.heap.size) (hn : n ≤ 1000000) : Calls Tryd.prog 56 #[.pointer (some ⟨g, 0, none⟩), .int .u8 x] w fun e w' => e = .returned .nilIface ∧ ∃ v', Tel B w' g v' (n + 1) (C ++ [.int .u8 x]) b ∧ TelW w w' g v v' := by
  obtain ⟨A, ht, hA⟩ := h.tel
  have HC := Lib.hid (copy_ok ⟨ht, hA⟩)
  have hgl := blk_lt ht
  have hs0 := tel_set0 (u := .pointer (some ⟨g, 0, none⟩)) ht
  have hsz : (w.setCell ⟨g, 0, none⟩ (.pointer (some ⟨g, 0, none⟩))).heap.size = w.heap.size := by simp
  obtain ⟨w1, hw1⟩ : ∃ w1, w1 = w.setCell ⟨g, 0, none⟩ (.pointer (some ⟨g, 0, none⟩)) := ⟨_, rfl⟩
  rw [← hw1] at HC hs0 hsz
  have m1 : w1.cell? ⟨g, 1, none⟩ = some v := (cell_of_row _ _ 1 _ _ _ hs0).trans rfl
  have own1 : w1.ownsRow B 5 1 v n C := ownsRow_same h.own fun m hm => by rw [hw1]; exact Below.heap_setCell _ _ _ _ fun e => h.off (by rw [hm, show m = g from e])
  have HO := Lib.hid (show (w1.alloc (.cells #[.int .u8 x] 5)).ownsRow B 5 1 v n C from own1.alloc _)
  have m1a : (w1.alloc (.cells #[.int .u8 x] 5)).cell? ⟨g, 1, none⟩ = some v := (cell_congr (Below.heap_alloc _ _ _ (show g < w1.heap.size by omega))).trans m1
  have HE := Lib.hid (fun g4 c4 w4 hr hg ha => tel_end (n' := n + 1) (C' := C ++ [.int .u8 x]) (g4 := g4) (c4 := c4) (w4 := w4) (w1 := w1.alloc (.cells #[.int .u8 x] 5)) h (fun m hm => (Below.heap_alloc _ _ _ (by omega)).trans (by rw [hw1])) (by rw [World.size_alloc]; omega) (by rw [hw1]; exact ⟨rfl, rfl, rfl⟩) hr hg ha)
  have HF := Lib.hid (show ∀ w4, (w1.alloc (.cells #[.int .u8 x] 5)).grownBy w4 v.ownBlock → w4.cell? ⟨g, 1, none⟩ = some v ∧ w4.frozen? ⟨g, 1, none⟩ = false from fun w4 hg => by
    have e : w4.heap[g]? = some _ := (hg.block g (by rw [World.size_alloc]; omega) fun e => h.off e.symm).trans ((Below.heap_alloc _ _ _ (by omega)).trans hs0)
    exact ⟨(cell_of_row _ _ 1 _ _ _ e).trans rfl, by simp [World.frozen?, e]⟩)
  obtain ⟨i0, hi, hz0, hz1, hz2⟩ := info_parts info_u8
  have HZ := Lib.hid (show _ ∧ _ from ⟨hB, hsz⟩)
  clear h ht hA hgl hs0 hsz own1 hw1 hB
  go_enter Tryd.func56, Tryd.ntmps56
  go_wp2_with fail
  refine HC.out.mono ?_
  rintro e w2 ⟨rfl, rfl⟩
  go_wp2_with (at_builtin; refine wpList_append_lies _ rfl _ _ 25 rfl B 5 i0 _ 1 1 Tryd.underlying25 hi hz0 hz1 hz2 rfl (by decide) v n C rfl HO.out ⟨w2.heap.size, 0, none⟩ 1 1 [.int .u8 x] rfl rfl ?c1 ?c2 (by decide) ?c3 ?c4 ?c5 _ rfl ?_)
  case c1 =>
    intro j u hu
    rw [add_eq0]
    exact (cell_of_row _ _ j _ _ _ (heap_alloc_new _ _)).trans (by simpa using hu)
  case c2 => intro u hu; simp at hu; subst hu; rfl
  case c3 => unfold maxLen; omega
  case c4 => omega
  case c5 => rw [World.size_alloc]; have := HZ.out; omega
  intro g4 c4 w4 r4 q4 o4 l4
  obtain ⟨m4, f4⟩ := HF.out w4 q4
  have HE4 := Lib.hid (HE.out g4 c4 w4 r4 q4 (by rw [World.size_alloc]; exact o4))
  clear r4 q4 o4 l4 HE HF HO HZ
  go_wp2
  go_ret
  exact ⟨rfl, _, HE4.out⟩
end Go.Proofs.YtbccknhinmgibaaDoor

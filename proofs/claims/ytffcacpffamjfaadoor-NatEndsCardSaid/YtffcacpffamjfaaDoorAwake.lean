/- Contract of the laws' awake: the document's examples hold. The premise on DivMod comes in as a hypothesis (at its one example). -/
import Derived.Test.YtffcacpffamjfaaDoorFold
import Derived.Test.YtffcacpffamjfaaDoorDecimal
import Derived.Test.YtffcacpffamjfaaDoorSame
namespace Go.Proofs.YtffcacpffamjfaaDoor
open Go.RowKit

theorem row_vals (w : World) (T : TypeId) (cs : Array Value) : Row (w.alloc (.cells cs T)) (some ⟨w.heap.size, 0, none⟩) cs.toList := by
  intro j v hv
  refine ⟨_, rfl, ?_⟩
  have : ((⟨w.heap.size, 0, none⟩ : Addr).add j) = ⟨w.heap.size, j, none⟩ := by
    unfold Addr.add; split
    · rename_i h; subst h; rfl
    · simp
  rw [this, World.cell?_alloc_new]
  simpa using hv
theorem row_lit (w : World) (T : TypeId) (cs : Array Value) (ds : List Nat) (h : cs.toList = u32s ds) : Row (w.alloc (.cells cs T)) (some ⟨w.heap.size, 0, none⟩) (u32s ds) := h ▸ row_vals w T cs

theorem text51 : Lib.decDigits (val [5, 1]) = [49, 48, 48, 48, 48, 48, 48, 48, 48, 53] := by
  have h := decDigits_base (u := 1) (v := 5) (by decide) (by decide)
  rw [show val [5, 1] = 5 + 1000000000 * 1 from by simp [val], h, decDigits_small (by decide), decDigits_small (by decide), Lib.nDigits_small (by decide)]
  rfl
/-- What DivMod tells at the example. -/
def DmEx : Prop := ∀ (w : World) (A1 A2 : Option Addr) (c1 c2 : Nat), Row w A1 (u32s [0, 1]) → Row w A2 (u32s [7]) →
  Calls Tryd.prog 7 #[.slice A1 2 c1, .slice A2 1 c2] w fun e w' => ∃ v u, e = .returned (.tuple #[v, u, .bool true]) ∧ IsNat w' w.heap.size v 142857142 ∧ IsNat w' w.heap.size u 6 ∧ Below w.heap.size w w'

theorem isNat_row {w : World} {B n : Nat} {v : Value} (h : IsNat w B v n) (rs : List Nat) (hr : right rs) (hv : val rs = n) : ∃ A c, v = .slice A rs.length c ∧ Row w A (u32s rs) := by
  obtain ⟨ts, h1, h2, h3⟩ := h
  obtain rfl : ts = rs := right_unique h1 hr (by rw [h2, hv])
  obtain ⟨A, c, e, hro, _⟩ := h3.slice32
  exact ⟨A, c, e, hro⟩
theorem right_one {d : Nat} (h0 : d ≠ 0) (h : d < 1000000000) : right [d] := ⟨fun x hx => by rw [List.mem_singleton.1 hx]; exact h, .inr (by simpa using h0)⟩
theorem right_two {d e : Nat} (h0 : e ≠ 0) (h : d < 1000000000) (h' : e < 1000000000) : right [d, e] := ⟨fun x hx => by
  rcases List.mem_cons.1 hx with rfl | hx
  · exact h
  · rw [List.mem_singleton.1 hx]; exact h', .inr (by simpa using h0)⟩

set_option maxRecDepth 100000 in
set_option maxHeartbeats 4000000 in
theorem awake_any (hdm : DmEx) (w : World) (htab : Tab w) (hw : 3 ≤ w.heap.size) :
    Calls Tryd.prog 4 #[] w fun e w' => e = .returned (.bool true) ∧ Below w.heap.size w w' := by
  have HD := Lib.hid hdm
  have HT := Lib.hid htab
  clear hdm htab
  go_enter Tryd.func4, Tryd.ntmps4
  go_wp2_with fail
  refine (HD.out _ _ _ _ _ ((row_lit w 23 #[.int .u32 0, .int .u32 1] [0, 1] rfl).alloc _) (by have := row_lit (w.alloc (.cells #[.int .u32 0, .int .u32 1] 23)) 23 #[.int .u32 7] [7] rfl; simpa using this)).mono ?_
  rintro e w2 ⟨vq, vr, rfl, hq, hr, hb⟩
  have b2 : Below w.heap.size w w2 := below_first (below_first hb)
  clear hb
  obtain ⟨Aq, cq, rfl, rq⟩ := isNat_row hq [142857142] (right_one (by decide) (by decide)) (by simp [val])
  obtain ⟨Ar, cr, rfl, rr⟩ := isNat_row hr [6] (right_one (by decide) (by decide)) (by simp [val])
  clear hq hr
  have s2 := b2.size
  go_wp2_with fail
  obtain ⟨W3, hW3⟩ : ∃ W3, W3 = ((w2.alloc (Obj.cells #[Value.int IntKind.u32 999999999] 23)).alloc (Obj.cells #[Value.int IntKind.u32 1] 23)).alloc (Obj.cells #[Value.slice (some { block := w2.heap.size, off := 0 }) 1 1, Value.slice (some { block := w2.heap.size + 1, off := 0 }) 1 1] 24) := ⟨_, rfl⟩
  have b3 : Below w2.heap.size w2 W3 := by rw [hW3]; exact below_first (below_first ((Below.refl _ _).alloc (Nat.le_refl _) _))
  have hrows : Rows_ W3 (some ⟨w2.heap.size + 1 + 1, 0, none⟩) [(some ⟨w2.heap.size, 0, none⟩, 1, [999999999]), (some ⟨w2.heap.size + 1, 0, none⟩, 1, [1])] := by
    rw [hW3]
    refine ⟨?_, ?_⟩
    · have := row_vals ((w2.alloc (Obj.cells #[Value.int IntKind.u32 999999999] 23)).alloc (Obj.cells #[Value.int IntKind.u32 1] 23)) 24 #[Value.slice (some { block := w2.heap.size, off := 0 }) 1 1, Value.slice (some { block := w2.heap.size + 1, off := 0 }) 1 1]
      simpa [sl] using this
    · intro r hr
      rcases List.mem_cons.1 hr with rfl | hr
      · exact ⟨((row_lit w2 23 #[.int .u32 999999999] [999999999] rfl).alloc _).alloc _, fun d hd => by rw [List.mem_singleton.1 hd]; decide, by simp⟩
      · rw [List.mem_singleton.1 hr]
        refine ⟨?_, fun d hd => by rw [List.mem_singleton.1 hd]; decide, by simp⟩
        have := row_lit (w2.alloc (Obj.cells #[Value.int IntKind.u32 999999999] 23)) 23 #[.int .u32 1] [1] rfl
        have h2 : Row ((w2.alloc (Obj.cells #[Value.int IntKind.u32 999999999] 23)).alloc (Obj.cells #[Value.int IntKind.u32 1] 23)) (some ⟨w2.heap.size + 1, 0, none⟩) (u32s [1]) := by simpa using this
        exact h2.alloc _
  rw [← hW3]
  clear hW3
  have hadd := add_any (N := 2) (c := 2) hrows (by
    intro k hk
    match k, hk with
    | 0, _ => simp [vals, val]
    | 1, _ => simp [vals, val]
    | 2, _ => simp [vals, val]) (by decide) (by simp)
  refine hadd.mono ?_
  rintro e w4 ⟨vs, rfl, hs, hb4⟩
  obtain ⟨As, cs, rfl, rs⟩ := isNat_row hs [0, 1] (right_two (by decide) (by decide) (by decide)) (by simp [vals, val])
  have b4 : Below w.heap.size w w4 := (b2.trans (b3.mono s2)).trans (hb4.mono (Nat.le_trans s2 b3.size))
  have q4 : Row w4 Aq (u32s [142857142]) := Row.below (rq.below b3) hb4
  have r4 : Row w4 Ar (u32s [6]) := Row.below (rr.below b3) hb4
  clear hs hadd hrows b2 b3 hb4 rq rr
  have s4 := b4.size
  go_wp2_with fail
  refine (same_yes (xs := [0, 1]) (rs.alloc _) (row_lit w4 23 #[.int .u32 0, .int .u32 1] [0, 1] rfl) (by simp)).mono ?_
  rintro e w5 ⟨rfl, hd5⟩
  have b5 : Below w.heap.size w w5 := (b4.alloc s4 _).trans (hd5.below.mono (by simp; omega))
  have q5 := (q4.alloc (Obj.cells #[Value.int IntKind.u32 0, Value.int IntKind.u32 1] 23)).drawn hd5
  have r5 := (r4.alloc (Obj.cells #[Value.int IntKind.u32 0, Value.int IntKind.u32 1] 23)).drawn hd5
  clear b4 q4 r4 hd5 rs
  have s5 := b5.size
  go_wp2_with fail
  refine (same_yes (xs := [142857142]) (q5.alloc _) (row_lit w5 23 #[.int .u32 142857142] [142857142] rfl) (by simp)).mono ?_
  rintro e w6 ⟨rfl, hd6⟩
  have b6 : Below w.heap.size w w6 := (b5.alloc s5 _).trans (hd6.below.mono (by simp; omega))
  have r6 := (r5.alloc (Obj.cells #[Value.int IntKind.u32 142857142] 23)).drawn hd6
  clear b5 q5 r5 hd6
  have s6 := b6.size
  go_wp2_with fail
  refine (same_yes (xs := [6]) (r6.alloc _) (row_lit w6 23 #[.int .u32 6] [6] rfl) (by simp)).mono ?_
  rintro e w7 ⟨rfl, hd7⟩
  have b7 : Below w.heap.size w w7 := (b6.alloc s6 _).trans (hd7.below.mono (by simp; omega))
  clear b6 r6 hd7
  have s7 := b7.size
  go_wp2_with fail
  have ht : Tab (w7.alloc (Obj.cells #[Value.int IntKind.u32 5, Value.int IntKind.u32 1] 23)) := HT.out.below (b7.alloc s7 _) hw
  refine (text_any (ds := [5, 1]) (row_lit w7 23 #[.int .u32 5, .int .u32 1] [5, 1] rfl) (fun d hd => by
    rcases List.mem_cons.1 hd with rfl | hd
    · decide
    · rw [List.mem_singleton.1 hd]; decide) (by simp) ht (by simp; omega)).mono ?_
  rintro e w8 ⟨rfl, hb8⟩
  have b8 : Below w.heap.size w w8 := (b7.alloc s7 _).trans (hb8.mono (by simp; omega))
  have hdd := text51
  clear hb8 b7
  go_wp2
  go_returns
  exact ⟨by simp, b8⟩
end Go.Proofs.YtffcacpffamjfaaDoor

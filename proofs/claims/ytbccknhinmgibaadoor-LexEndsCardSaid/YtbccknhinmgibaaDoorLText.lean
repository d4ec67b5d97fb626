/- Package lex's Text: the text of trees. Premises: trees in memory, at most 10^9 of them; their text has at most 900000 bytes. -/
import Derived.Test.YtbccknhinmgibaaDoorLTel
import Derived.WalkSpells
set_option linter.unusedVariables false
set_option linter.unusedSimpArgs false
namespace Go.Proofs.YtbccknhinmgibaaDoor
open Go.RowKit

/-- What a teller has told, in its block and its row's alone. -/
def TellR (B g : Nat) (d : List Ev) (X : Nat → Prop) (W : World) : Prop := ∃ v, Tel B W g v (stT d).1.length (Lib.byteCells (stT d).1) (stT d).2 ∧ ∀ m, X m ↔ m = g ∨ v.ownBlock = some m
theorem Tel.lt {B g n : Nat} {w : World} {v : Value} {C : List Value} {b : Bool} (h : Tel B w g v n C b) : g < w.heap.size ∧ ∀ m, v.ownBlock = some m → B ≤ m ∧ m < w.heap.size := by
  obtain ⟨A, ht, hA⟩ := h.tel
  exact ⟨blk_lt ht, World.ownsRow.lt h.own⟩
theorem Tel.same {B g n : Nat} {w w' : World} {v : Value} {C : List Value} {b : Bool} (h : Tel B w g v n C b) (hk : ∀ m, m = g ∨ v.ownBlock = some m → w'.heap[m]? = w.heap[m]?) : Tel B w' g v n C b := by
  obtain ⟨A, ht, hA⟩ := h.tel
  exact ⟨⟨A, (hk g (.inl rfl)).trans ht, hA⟩, ownsRow_same h.own fun m hm => hk m (.inr hm), h.off, h.low⟩
/-- A teller's closures. -/
def tellFun (g : Nat) : Ev → Fun
  | .opens => ⟨30, #[.pointer (some ⟨g, 0, none⟩)], #[]⟩
  | .word _ => ⟨31, #[.pointer (some ⟨g, 0, none⟩)], #[]⟩
  | .closes => ⟨32, #[.pointer (some ⟨g, 0, none⟩)], #[]⟩
theorem tell_step {B g : Nat} {d : List Ev} {X : Nat → Prop} {W : World} {v : Value} (ev : Ev) (h : Tel B W g v (stT d).1.length (Lib.byteCells (stT d).1) (stT d).2) (hX : ∀ m, X m ↔ m = g ∨ v.ownBlock = some m) {e : Ending} {w' : World} (hu : ∃ u, e = .returned u) (hw : WordT B g (stT (d ++ [ev])).1.length (Lib.byteCells (stT (d ++ [ev])).1) W v (stT (d ++ [ev])).2 w') :
    (∃ u, e = .returned u) ∧ ∃ X', TellR B g (d ++ [ev]) X' w' ∧ (∀ m, X' m → X m ∨ W.heap.size ≤ m) ∧ (∀ m, m < W.heap.size → ¬ X m → w'.heap[m]? = W.heap[m]?) ∧ W.heap.size ≤ w'.heap.size ∧ (w'.os = W.os ∧ w'.tape = W.tape ∧ w'.output = W.output) := by
  obtain ⟨v', h1, k1, k2, k3, k4⟩ := hw
  refine ⟨hu, fun m => m = g ∨ v'.ownBlock = some m, ⟨v', h1, fun m => Iff.rfl⟩, fun m hm => ?_, fun m hm hx => k1 m hm (fun e => hx ((hX m).2 (.inl e))) fun e => hx ((hX m).2 (.inr e)), k2, k3⟩
  rcases hm with e | e
  · exact .inl ((hX m).2 (.inl e))
  · rcases k4 m e with h | h
    · exact .inl ((hX m).2 (.inr h))
    · exact .inr h
theorem byte_app (C : List UInt8) (b : Bool) (s : List UInt8) : Lib.byteCells (C ++ ((if b then [32] else []) ++ s)) = (if b then Lib.byteCells C ++ [.int .u8 32] else Lib.byteCells C) ++ Lib.byteCells s := by
  cases b with
  | false => simp [Lib.byteCells]
  | true => simp only [if_true, Lib.byteCells, List.map_append, List.append_assoc]; rfl
theorem tell_acts (B g : Nat) : Acts Tryd.prog (tellFun g) (fun d => (stT d).1.length ≤ 999000) (TellR B g) where
  enters := fun ev args w => by
    cases ev
    · exact enters_of Tryd.func30 (by kernel_rfl) rfl args w
    · exact enters_of Tryd.func31 (by kernel_rfl) rfl args w
    · exact enters_of Tryd.func32 (by kernel_rfl) rfl args w
  low := fun {d X W} ⟨v, h, hX⟩ m hm => by
    rcases (hX m).1 hm with rfl | e
    · exact h.lt.1
    · exact (h.lt.2 m e).2
  stay := fun {d X W W'} ⟨v, h, hX⟩ hk => ⟨v, h.same fun m hm => hk m ((hX m).2 hm), hX⟩
  step := fun {d X W ev} ⟨v, h, hX⟩ hok => by
    have hle := stT_le d [ev]
    have hok : (stT (d ++ [ev])).1.length ≤ 999000 := hok
    cases ev with
    | opens =>
      have e : stT (d ++ [.opens]) = _ := stT_snoc d .opens
      refine (tbegin_ok h (by omega) (n' := (stT (d ++ [.opens])).1.length) (C' := Lib.byteCells (stT (d ++ [.opens])).1) ?_ ?_).mono fun e1 w' ⟨hu, hw⟩ => tell_step .opens h hX hu ?_
      · rw [e]; simp only [stepT, List.length_append]; cases (stT d).2 <;> simp
      · rw [e]; exact byte_app _ _ _
      · rw [show (stT (d ++ [.opens])).2 = false by rw [e]; rfl]; exact hw
    | word s =>
      have e : stT (d ++ [.word s]) = _ := stT_snoc d (.word s)
      have hsz : s.data.toList.length = s.size := by simp
      have hl : (stT (d ++ [.word s])).1.length = (if (stT d).2 then (stT d).1.length + 1 else (stT d).1.length) + s.size := by
        rw [e]; simp only [stepT, List.length_append, hsz]; cases (stT d).2 <;> simp; omega
      have hlo : (stT d).1.length + s.size ≤ 999999 := by
        rw [hl] at hok
        split at hok <;> omega
      refine (tword_ok h hlo (n' := (stT (d ++ [.word s])).1.length) (C' := Lib.byteCells (stT (d ++ [.word s])).1) hl ?_).mono fun e1 w' ⟨hu, hw⟩ => tell_step (.word s) h hX hu ?_
      · rw [e]; exact byte_app _ _ _
      · rw [show (stT (d ++ [.word s])).2 = true by rw [e]; rfl]; exact hw
    | closes =>
      have e : stT (d ++ [.closes]) = _ := stT_snoc d .closes
      refine (tend_ok h (by omega)).mono fun e1 w' ⟨hu, hw⟩ => tell_step .closes h hX hu ?_
      rw [show (stT (d ++ [.closes])).2 = true by rw [e]; rfl, show (stT (d ++ [.closes])).1.length = (stT d).1.length + 1 by rw [e]; simp [stepT], show Lib.byteCells (stT (d ++ [.closes])).1 = Lib.byteCells (stT d).1 ++ [.int .u8 41] by rw [e]; simp [stepT, Lib.byteCells]]
      exact hw
set_option maxRecDepth 100000 in
set_option maxHeartbeats 3200000 in
theorem string_ok1 {B g : Nat} {w : World} {v : Value} {l : List UInt8} {b : Bool} (h : Tel B w g v l.length (Lib.byteCells l) b) (h0 : l ≠ []) (hl : l.length ≤ 1000000) : Calls Tryd.prog 19 #[.pointer (some ⟨g, 0, none⟩)] w fun e w' => e = .returned (.string ⟨l.toArray⟩) ∧ Below B w w' := by
  obtain ⟨A, ht, hA⟩ := h.tel
  have hl0 : l.length ≠ 0 := by simpa using h0
  obtain ⟨g4, cap, rfl, hB4, hlt⟩ := h.own.form (by omega)
  have hcap : l.length ≤ cap ∧ cap ≤ maxLen ∧ ∃ cur, w.heap[g4]? = some (.cells cur 5 (0, 0)) ∧ cur.size = cap := by
    rcases h.own.2 with ⟨e, _⟩ | ⟨g', cap', cur, e, _, hg, h5, h6, h7, _⟩
    · cases e
    · injection e with e1 e2 e3
      injection e1 with e1
      injection e1 with e1
      subst e1; subst e3
      exact ⟨h5, h6, cur, hg, by simpa using h7⟩
  obtain ⟨hc1, hc2, cur, hcur, hcs⟩ := hcap
  have c1 : w.drew.cell? ⟨g, 1, none⟩ = some (.slice (some ⟨g4, 0, none⟩) l.length cap) := (cell_of_row _ _ 1 _ _ _ ht).trans rfl
  have hSD : (Builtin.unsafeSliceData_ #[ 25 ] 82 #[.slice (some ⟨g4, 0, none⟩) l.length cap]).run Tryd.prog w.drew = .ok (.pointer (some ⟨g4, 0, none⟩)) w.drew :=
    Lib.run_unsafeSliceData_row _ _ _ _ _ _ (by omega)
  have hUS : (Builtin.unsafeString_ #[ 82, 3 ] 9 #[.pointer (some ⟨g4, 0, none⟩), .int .i64 l.length]).run Tryd.prog w.drew = .ok (.string ⟨l.toArray⟩) (w.drew.freeze ⟨g4, 0, none⟩ l.length) := by
    refine Lib.run_unsafeString_row w.drew 82 3 9 5 Tryd.underlying82 (show Tryd.prog.cellsOf 5 = 1 by kernel_rfl) g4 cur.size (by have hg' : w.drew.heap[g4]? = some (.cells cur 5 (0, 0)) := hcur; simp [World.shape?, hg']) l h0 (by omega) (by omega) ?_
    intro j x hx
    have := h.own.cells (g := g4) rfl j (.int .u8 x.toNat) (by simp [Lib.byteCells, hx])
    exact this
  have HE := Lib.hid (show Below B w (w.drew.freeze ⟨g4, 0, none⟩ l.length) from Lib.below_freeze (Below.drew (Below.refl B w)) (p := ⟨g4, 0, none⟩) hB4 _)
  have mixed : Tryd.prog.follows Departure.mixedOrders = true := by kernel_rfl
  clear h ht hA hl0 hB4 hlt hc1 hc2 hcur hcs h0
  go_enter Tryd.func19, Tryd.ntmps19
  go_wp2
  go_region_o
  all_goals (go_wp2; go_ret; exact ⟨rfl, HE.out⟩)
set_option maxRecDepth 100000 in
set_option maxHeartbeats 3200000 in
theorem string_ok0 {B g : Nat} {w : World} {v : Value} {b : Bool} (h : Tel B w g v 0 [] b) : Calls Tryd.prog 19 #[.pointer (some ⟨g, 0, none⟩)] w fun e w' => e = .returned (.string ⟨#[]⟩) ∧ Below B w w' := by
  obtain ⟨A, ht, hA⟩ := h.tel
  have hB := (tel_cell h).2.2
  have hgl := blk_lt ht
  have mixed : Tryd.prog.follows Departure.mixedOrders = true := by kernel_rfl
  have hUS : ∀ (W : World) (q : Option Addr), (Builtin.unsafeString_ #[ 82, 3 ] 9 #[.pointer q, .int .i64 0]).run Tryd.prog W = .ok (.string .empty) W := fun W q => Lib.run_unsafeString_none W _ _ _ q
  rcases h.own.2 with ⟨rfl, _⟩ | ⟨g4, cap, cur, rfl, hb4, hg4, _, _, hcs, _⟩
  · have c1 : w.drew.cell? ⟨g, 1, none⟩ = some (.slice none 0 0) := (cell_of_row _ _ 1 _ _ _ ht).trans rfl
    have hSD : (Builtin.unsafeSliceData_ #[ 25 ] 82 #[.slice none 0 0]).run Tryd.prog w.drew = .ok (.pointer none) w.drew := rfl
    clear h ht hA hB hgl
    go_enter Tryd.func19, Tryd.ntmps19
    go_wp2
    go_region_o
    all_goals (go_wp2; go_ret; exact ⟨rfl, Below.drew (Below.refl B w)⟩)
  · by_cases hc0 : cap = 0
    · subst hc0
      have c1 : w.drew.cell? ⟨g, 1, none⟩ = some (.slice (some ⟨g4, 0, none⟩) 0 0) := (cell_of_row _ _ 1 _ _ _ ht).trans rfl
      have hSD : (Builtin.unsafeSliceData_ #[ 25 ] 82 #[.slice (some ⟨g4, 0, none⟩) 0 0]).run Tryd.prog w.drew = .ok (.pointer (some ⟨w.drew.heap.size, 0, none⟩)) (w.drew.alloc (.view ⟨g4, 0, none⟩ 5)) :=
        Lib.run_unsafeSliceData_zero w.drew _ _ 5 Tryd.underlying82 ⟨g4, 0, none⟩ 0 (5, cur.size) (by have hg' : w.drew.heap[g4]? = some (.cells cur 5 (0, 0)) := hg4; simp [World.shape?, hg'])
      have c2 : (w.drew.alloc (.view ⟨g4, 0, none⟩ 5)).cell? ⟨g, 1, none⟩ = some (.slice (some ⟨g4, 0, none⟩) 0 0) := (cell_of_row _ _ 1 _ _ _ ((Below.heap_alloc w.drew _ _ hgl).trans ht)).trans rfl
      have c3 : (w.alloc (.view ⟨g4, 0, none⟩ 5)).drew.cell? ⟨g, 1, none⟩ = some (.slice (some ⟨g4, 0, none⟩) 0 0) := c2
      have c0 : w.cell? ⟨g, 1, none⟩ = some (.slice (some ⟨g4, 0, none⟩) 0 0) := c1
      have HE := Lib.hid (fun o => (Below.drew (Below.refl B w)).alloc hB o)
      clear h ht hA hB hgl hb4 hg4 hcs
      go_enter Tryd.func19, Tryd.ntmps19
      go_wp2
      go_region_o
      all_goals (go_wp2; go_ret; exact ⟨rfl, HE.out _⟩)
    · have c1 : w.drew.cell? ⟨g, 1, none⟩ = some (.slice (some ⟨g4, 0, none⟩) 0 cap) := (cell_of_row _ _ 1 _ _ _ ht).trans rfl
      have hSD : (Builtin.unsafeSliceData_ #[ 25 ] 82 #[.slice (some ⟨g4, 0, none⟩) 0 cap]).run Tryd.prog w.drew = .ok (.pointer (some ⟨g4, 0, none⟩)) w.drew :=
        Lib.run_unsafeSliceData_row _ _ _ _ _ _ hc0
      clear h ht hA hB hgl hb4 hg4 hcs hc0
      go_enter Tryd.func19, Tryd.ntmps19
      go_wp2
      go_region_o
      all_goals (go_wp2; go_ret; exact ⟨rfl, Below.drew (Below.refl B w)⟩)
theorem tstring_ok {B g : Nat} {w : World} {v : Value} {l : List UInt8} {b : Bool} (h : Tel B w g v l.length (Lib.byteCells l) b) (hl : l.length ≤ 1000000) : Calls Tryd.prog 19 #[.pointer (some ⟨g, 0, none⟩)] w fun e w' => e = .returned (.string ⟨l.toArray⟩) ∧ Below B w w' := by
  cases l with
  | nil => exact string_ok0 h
  | cons c l => exact string_ok1 h (by simp) hl
set_option maxRecDepth 100000 in
set_option maxHeartbeats 3200000 in
theorem Text_ok {w : World} {K : Option Addr} {c : Nat} {f : Fo} (hf : IsFo w (.slice K f.len c) f) (hn : f.nodes ≤ 1000000000) (ht : (txt false f).length ≤ 900000) :
    Calls Tryd.prog 9 #[.slice K f.len c] w fun e w' => e = .returned (.string ⟨(txt false f).toArray⟩) ∧ Below w.heap.size w w' := by
  have hmf : ∀ (fn : Fn) (first cap : Array Value) (w : World), (Instr.makeFunc fn first cap).run Tryd.prog w = .ok (.func fn first cap) w := fun _ _ _ _ => rfl
  obtain ⟨o, ho⟩ : ∃ o, o = Obj.cells #[.pointer none, .slice none 0 0, .bool false] 66 (0, 0) := ⟨_, rfl⟩
  have hb1 : Below w.heap.size w (w.alloc o) := (Below.refl _ _).alloc (Nat.le_refl _) _
  have hT := through_ok (tell_acts w.heap.size w.heap.size) rfl (fun _ => rfl) rfl hf hb1 (X := fun m => m = w.heap.size ∨ (Value.slice none 0 0).ownBlock = some m) ⟨.slice none 0 0, ⟨⟨none, by rw [ho]; exact heap_alloc_new _ _, .inl rfl⟩, World.ownsRow_nil _ _ _ _, by simp [Value.ownBlock], Nat.le_refl _⟩, fun m => Iff.rfl⟩ (fun m hm => by
    rcases hm with rfl | e
    · exact Nat.le_refl _
    · simp [Value.ownBlock] at e) (fun d r h => by
      have := stT_le d r
      rw [h, textT] at this
      show (stT d).1.length ≤ 999000
      omega) hn
  rw [ho] at hT
  have HT := Lib.hid hT
  have HL := Lib.hid ht
  clear hT hb1 hf ho ht
  go_enter Tryd.func9, Tryd.ntmps9
  go_wp2_with fail
  refine HT.out.mono ?_
  rintro e w2 ⟨⟨u, rfl⟩, hb2, X', ⟨v, htel, _⟩, _⟩
  rw [textT] at htel
  have HS := Lib.hid (tstring_ok htel (by have := HL.out; omega))
  have HB := Lib.hid hb2
  clear htel hb2 HT
  go_wp2_with fail
  refine HS.out.mono ?_
  rintro e w3 ⟨rfl, hb3⟩
  have HB3 := Lib.hid (HB.out.trans hb3)
  clear hb3 HS HB
  go_wp2
  go_ret
  exact ⟨rfl, HB3.out⟩
end Go.Proofs.YtbccknhinmgibaaDoor

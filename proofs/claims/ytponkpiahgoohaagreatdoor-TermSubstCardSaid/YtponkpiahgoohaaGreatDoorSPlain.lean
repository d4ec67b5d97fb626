/- What Free tells: a name is told just if it stands in the term. No condition. Layer 4's plain: has each name of a term nothing but its name? Condition: of sizes. Layer 4's sorts: it finds nothing amiss. Conditions: of sizes; of what Subst leaves. -/
import Derived.Test.YtponkpiahgoohaaGreatDoorTFreeS
import Derived.Test.YtponkpiahgoohaaGreatDoorSSort
set_option linter.unusedVariables false
set_option linter.unusedSimpArgs false
namespace Go.Proofs.YtponkpiahgoohaaGreatDoor
open Go.RowKit

theorem mem_compactUpTo {α : Type} [Inhabited α] [DecidableEq α] (d : Array α) : ∀ (m j : Nat), j < m → d[j]! ∈ Lib.compactUpTo d m
  | 0, j, h => absurd h (Nat.not_lt_zero _)
  | m + 1, j, h => by
    rw [Lib.compactUpTo_succ]
    rcases Nat.lt_or_ge j m with h1 | h1
    · exact List.mem_append_left _ (mem_compactUpTo d m j h1)
    · have e : j = m := by omega
      subst e
      by_cases hk : Lib.keeps d j = true
      · rw [if_pos hk]
        exact List.mem_append_right _ (List.mem_singleton.2 rfl)
      · have h2 : ¬ (j = 0 ∨ d[j]! ≠ d[j - 1]!) := by
          intro h
          exact hk (by unfold Lib.keeps; exact decide_eq_true h)
        have h3 : j ≠ 0 := fun e => h2 (.inl e)
        have h4 : d[j]! = d[j - 1]! := Classical.byContradiction fun e => h2 (.inr e)
        rw [h4]
        exact List.mem_append_left _ (mem_compactUpTo d j (j - 1) (by omega))
theorem compact_iff {α : Type} [Inhabited α] [DecidableEq α] {zs : List α} {x : α} : x ∈ Lib.compact zs ↔ x ∈ zs := by
  constructor
  · intro h
    unfold Lib.compact Lib.compactUpTo at h
    obtain ⟨i, hi, rfl⟩ := List.mem_map.1 h
    have hi' : i < zs.length := List.mem_range.1 (List.mem_filter.1 hi).1
    simp [getElem!_pos, hi']
  · intro h
    obtain ⟨i, hi, rfl⟩ := List.getElem_of_mem h
    have := mem_compactUpTo zs.toArray zs.length i hi
    unfold Lib.compact
    rw [getElem!_pos zs.toArray i hi] at this
    simpa using this
theorem bytes_eq {a b : ByteArray} : a.data.toList = b.data.toList ↔ a = b := by
  constructor
  · intro h
    have : a.data = b.data := Array.ext' h
    cases a; cases b; simp_all
  · rintro rfl; rfl
theorem freeK_iff {t : Tm} {x : ByteArray} : x.data.toList ∈ freeK t ↔ Stands x [t] := by
  unfold freeK
  rw [compact_iff, List.mem_mergeSort]
  unfold namesOf Stands
  rw [preL_cons, preL_nil, List.append_nil, ← preT_eq]
  constructor
  · intro h
    obtain ⟨p, hp, e⟩ := List.mem_map.1 h
    obtain ⟨h1, h2⟩ := List.mem_filter.1 hp
    exact ⟨p, h1, by simpa using h2, bytes_eq.1 e⟩
  · rintro ⟨p, hp, h1, h2⟩
    exact List.mem_map.2 ⟨p, List.mem_filter.2 ⟨hp, by simpa using h1⟩, by rw [h2]⟩
theorem freeK_stands {t : Tm} {s : List UInt8} (h : s ∈ freeK t) : Stands ⟨s.toArray⟩ [t] := freeK_iff.1 (by simpa using h)
end Go.Proofs.YtponkpiahgoohaaGreatDoor

namespace Go.Proofs.YtponkpiahgoohaaGreatDoor
open Go.RowKit

theorem plainL_iff : ∀ l : List Tm, plainL l = true ↔ ∀ t ∈ l, plainT t = true
  | [] => by
    rw [plainL]
    exact ⟨fun _ _ h => (by cases h), fun _ => rfl⟩
  | t :: l => by
    rw [plainL, Bool.and_eq_true, plainL_iff l]
    constructor
    · rintro ⟨h1, h2⟩ u hu
      rcases List.mem_cons.1 hu with rfl | hu
      · exact h1
      · exact h2 u hu
    · intro h
      exact ⟨h t (.head _), fun u hu => h u (.tail _ hu)⟩
/-- Behind the look at the part itself. -/
def headP (k : Int) (neg : Bool) (ds : List Nat) (l : List Tm) : Bool := decide (k = 1) && (decide (l.length ≠ 0) || decide (ds.length ≠ 0) || neg)
set_option maxRecDepth 100000 in
set_option maxHeartbeats 3200000 in
theorem plain_bad {w : World} {k : Int} {s : ByteArray} {neg : Bool} {A K : Option Addr} {n m c c' : Nat} (hk : k = 1) (h : m ≠ 0 ∨ (m = 0 ∧ n ≠ 0) ∨ (m = 0 ∧ n = 0 ∧ neg = true)) :
    Calls Tryz.prog 10 #[.agg #[.int .u8 k, .string s, .bool neg, .slice A n c, .slice K m c']] w (SaysB w false) := by
  subst hk
  rcases h with h | ⟨rfl, h⟩ | ⟨rfl, rfl, rfl⟩
  · have h1 : ((m : Int) != 0) = true := by rw [bne_iff_ne]; omega
    clear h
    go_enter Tryz.func10, Tryz.ntmps10
    go_wp2
    go_returns
    exact ⟨rfl, (Below.refl _ _).alloc (Nat.le_refl _) _⟩
  · have h1 : ((n : Int) != 0) = true := by rw [bne_iff_ne]; omega
    clear h
    go_enter Tryz.func10, Tryz.ntmps10
    go_wp2
    go_returns
    exact ⟨rfl, (Below.refl _ _).alloc (Nat.le_refl _) _⟩
  · go_enter Tryz.func10, Tryz.ntmps10
    go_wp2
    go_returns
    exact ⟨rfl, (Below.refl _ _).alloc (Nat.le_refl _) _⟩
set_option maxRecDepth 100000 in
set_option maxHeartbeats 3200000 in
theorem plain_loop {w : World} {k : Int} {s : ByteArray} {neg : Bool} {A K : Option Addr} {n m c c' : Nat} {l : List Tm} (hk : (k == 1) = false ∨ (k = 1 ∧ m = 0 ∧ n = 0 ∧ neg = false)) (hm : m = l.length) (hl : TmsAt w K l) (hm1 : m ≤ 1000000)
    (HP : Hid (∀ (t : Tm), t ∈ l → ∀ (W : World) (v : Value), TmV W v t → Calls Tryz.prog 10 #[v] W (SaysB W (plainT t)))) :
    Calls Tryz.prog 10 #[.agg #[.int .u8 k, .string s, .bool neg, .slice A n c, .slice K m c']] w (SaysB w (plainL l)) := by
  have HM := Lib.hid (show _ ∧ _ from ⟨hm, hl⟩)
  obtain ⟨W1, hW1⟩ : ∃ W1, W1 = w.alloc (.cells #[.int .u8 k, .string s, .bool neg, .slice A n c, .slice K m c'] 30) := ⟨_, rfl⟩
  have HB : Below w.heap.size w W1 := by rw [hW1]; exact (Below.refl _ _).alloc (Nat.le_refl _) _
  have b4 : W1.cell? ⟨w.heap.size, 4, none⟩ = some (.slice K m c') := by rw [hW1]; exact cell_newK rfl
  have hwl : w.heap.size < W1.heap.size := by rw [hW1]; simp
  have HF := Lib.hid (show _ ∧ _ ∧ _ from ⟨b4, HB, hwl⟩)
  have hstep : ∀ (P : World → Prop), True := fun _ => trivial
  clear hm hl HB b4 hwl hstep
  obtain ⟨r, hr⟩ : ∃ r, r = plainL l := ⟨_, rfl⟩
  rw [← hr]
  have HR := Lib.hid hr
  clear hr
  rcases hk with hk | ⟨rfl, rfl, rfl, rfl⟩
  all_goals
    go_enter Tryz.func10, Tryz.ntmps10
    go_wp2
    rw [← hW1]
    clear hW1
  · go_loopw [3] (fun iv wr => ∃ (i : Nat), i ≤ m ∧ iv = .int .i64 (i : Int) ∧ Hid (Below W1.heap.size W1 wr ∧ ∀ t ∈ l.take i, plainT t = true)) (fun iv _ => m - (intOf iv).toNat)
    case atStart => exact ⟨0, Nat.zero_le _, rfl, Lib.hid ⟨Below.refl _ _, fun t ht => by simp at ht⟩⟩
    case round =>
      obtain ⟨i, him, rfl, HI⟩ := hrel
      obtain ⟨b4, hB, hwl⟩ := HF.out
      have m4 : wr.cell? ⟨w.heap.size, 4, none⟩ = some (.slice K m c') := (HI.out.1.cell (cell_lt b4)).trans b4
      rcases Nat.lt_or_ge i m with hlt | hge
      · have hi1 : (i : Int) < m := by omega
        have hi0 : 0 ≤ (i : Int) := by omega
        obtain ⟨t, ht⟩ : ∃ t, l[i]? = some t := ⟨_, List.getElem?_eq_getElem (by have := HM.out.1; omega)⟩
        have hbw : Below w.heap.size w wr := hB.trans (HI.out.1.mono hB.size)
        obtain ⟨ad, x0, x1, x2, x3, x4, rfl, ⟨q0, q1, q2, q3, q4⟩, htm⟩ := (HM.out.2.below hbw) i t ht
        have z0 : wr.cell? (ad.add (i * 5)) = some x0 := q0
        rw [add_posK _ (by decide)] at q1 q2 q3 q4
        obtain ⟨q, hq⟩ : ∃ q, q = plainT t := ⟨_, rfl⟩
        have HC := Lib.hid (HP.out t (List.mem_of_getElem? ht) wr _ htm)
        rw [← hq] at HC
        have HQ := Lib.hid (show _ ∧ _ from ⟨hq, ht⟩)
        obtain ⟨A', K', e1, e2, e3, -⟩ := htm.parts
        simp only [Value.agg.injEq, Array.mk.injEq, List.cons.injEq, and_true] at e3
        obtain ⟨rfl, rfl, rfl, rfl, rfl⟩ := e3
        have hbr := hbw
        have HBW := Lib.hid (show _ ∧ _ from ⟨hbw, hB⟩)
        clear hbr
        clear b4 hB hwl ht hbw htm hq q0
        go_wp2_with fail
        refine HC.out.mono ?_
        rintro e w2 ⟨rfl, hb2⟩
        have HB2 := Lib.hid hb2
        clear hb2 HC z0 q1 q2 q3 q4 m4
        cases q with
        | true =>
          go_wp2
          go_roundw
          case rel =>
            refine ⟨i + 1, hlt, by go_num, Lib.hid ⟨HI.out.1.trans (HB2.out.mono HI.out.1.size), fun t' ht' => ?_⟩⟩
            have hil := (List.getElem?_eq_some_iff.1 HQ.out.2).1
            rw [List.take_add_one, HQ.out.2] at ht'
            rcases List.mem_append.1 ht' with h | h
            · exact HI.out.2 t' h
            · simp at h
              rw [h]
              exact HQ.out.1.symm
          case measure => first | (simp [intOf]; done) | (simp [intOf]; omega)
        | false =>
          have hrf : r = false := by
            rw [HR.out]
            cases hp : plainL l with
            | false => rfl
            | true =>
              have := (plainL_iff l).1 hp t (List.mem_of_getElem? HQ.out.2)
              rw [← HQ.out.1] at this
              cases this
          subst hrf
          have HE := Lib.hid (show Below w.heap.size w w2 from HBW.out.1.trans (HB2.out.mono HBW.out.1.size))
          clear HI HB2 HBW HQ HR
          go_wp2
          go_returns
          exact ⟨rfl, HE.out⟩
      · have e0 : i = m := by omega
        subst e0
        have hrt : r = true := by
          rw [HR.out, plainL_iff]
          intro t ht
          have := HI.out.2 t
          rw [List.take_of_length_le (by have := HM.out.1; omega)] at this
          exact this ht
        subst hrt
        have HE := Lib.hid (show Below w.heap.size w wr from hB.trans (HI.out.1.mono hB.size))
        clear HI HR b4 hB hwl
        go_wp2
        go_returns
        exact ⟨rfl, HE.out⟩
  · have hl0 : l = [] := List.length_eq_zero_iff.1 HM.out.1.symm
    have hrt : r = true := by rw [HR.out, hl0]; rfl
    subst hrt
    go_loopw [3] (fun iv wr => iv = .int .i64 0 ∧ wr = W1) (fun iv _ => 0)
    case atStart => exact ⟨rfl, rfl⟩
    case round =>
      obtain ⟨rfl, rfl⟩ := hrel
      have m4 := HF.out.1
      have HE := Lib.hid HF.out.2.1
      clear HF HR hl0
      go_wp2
      go_returns
      exact ⟨rfl, HE.out⟩
/-- Whether each name of a term has nothing but its name. -/
theorem plain_ok : ∀ (d : Nat) (t : Tm), (preT t).length ≤ d → d ≤ 1000000 → ∀ (W : World) (v : Value), TmV W v t → Calls Tryz.prog 10 #[v] W (SaysB W (plainT t)) := by
  intro d
  induction d with
  | zero => intro t h; rw [preT_eq] at h; simp at h
  | succ d ih =>
    intro t hd hd1 W v ht
    obtain ⟨A, K, c, c', rfl, -, -, -, -, -, -, hk⟩ := ht.parts
    have hsz : (preL t.kids).length ≤ d := by rw [preT_eq] at hd; simp at hd; exact hd
    have hkl := preL_len t.kids
    have HP := Lib.hid (fun (u : Tm) (hu : u ∈ t.kids) => ih u (by have := preL_mem hu; omega) (by omega))
    obtain ⟨k, s, neg, ds, l⟩ := t
    rw [plainT]
    by_cases hh : (decide (k = 1) && (decide (l.length ≠ 0) || decide (ds.length ≠ 0) || neg)) = true
    · rw [hh]
      simp only [Bool.and_eq_true, Bool.or_eq_true, decide_eq_true_eq] at hh
      refine plain_bad hh.1 ?_
      show l.length ≠ 0 ∨ (l.length = 0 ∧ ds.length ≠ 0) ∨ (l.length = 0 ∧ ds.length = 0 ∧ neg = true)
      by_cases h1 : l.length = 0
      · by_cases h2 : ds.length = 0
        · rcases hh.2 with (h | h) | h
          · exact absurd h1 h
          · exact absurd h2 h
          · exact .inr (.inr ⟨h1, h2, h⟩)
        · exact .inr (.inl ⟨h1, h2⟩)
      · exact .inl h1
    · have hf : (decide (k = 1) && (decide (l.length ≠ 0) || decide (ds.length ≠ 0) || neg)) = false := by simpa using hh
      rw [hf]
      refine plain_loop ?_ rfl hk (show l.length ≤ 1000000 from by have : l.length ≤ (preL l).length := hkl; have : (preL l).length ≤ d := hsz; omega) HP
      show (k == 1) = false ∨ (k = 1 ∧ l.length = 0 ∧ ds.length = 0 ∧ neg = false)
      by_cases hk1 : k = 1
      · refine .inr ⟨hk1, ?_⟩
        subst hk1
        simp only [decide_true, Bool.true_and, Bool.or_eq_false_iff, decide_eq_false_iff_not, Classical.not_not] at hf
        exact ⟨hf.1.1, hf.1.2, hf.2⟩
      · exact .inl (by simpa using hk1)
end Go.Proofs.YtponkpiahgoohaaGreatDoor

namespace Go.Proofs.YtponkpiahgoohaaGreatDoor
open Go.RowKit

/-- What sorts is given. -/
structure SortsIn (w : World) (D : List DtT) (S : List (ByteArray × ByteArray)) (vD vS vt va : Value) (t a : Tm) (kn Kt : Option Addr) (names : List ByteArray) (ts : List Tm) : Prop where
  d : DatasV w vD D
  s : ScopeV w vS S
  few : DFew D
  fewS : S.length ≤ 1000000
  tv : TmV w vt t
  av : TmV w va a
  ok : okD t ∧ 2 * (preT t).length ≤ 1000000
  oka : okD a ∧ 2 * (preT a).length ≤ 1000000
  nr : Row w kn (names.map Value.string)
  tr : TmsAt w Kt ts
  okn : ∀ x ∈ names, x.size ≤ 140737488355328
  okts : ∀ u ∈ ts, okD u ∧ 2 * (preT u).length ≤ 1000000
  len : names.length ≤ ts.length ∧ ts.length ≤ 1000000
  sub : ∀ s, sortT D S t = some s → (∀ (i : Nat) x u, names[i]? = some x → ts[i]? = some u → sortT D S u = varK D S x ∧ sortT D S u ≠ none) → sortT D S a = some s
theorem okD_var (x : ByteArray) : okD (varT x) ∧ 2 * (preT (varT x)).length ≤ 1000000 := by
  have e : preT (varT x) = [varT x] := by rw [preT_eq]; show varT x :: preL [] = _; rw [preL_nil]
  constructor
  · intro p hp
    rw [e] at hp
    rw [List.mem_singleton.1 hp]
    exact Nat.zero_le _
  · rw [e]
    show 2 * 1 ≤ 1000000
    decide
theorem SortEnd.two {o : Option ByteArray} {e : Ending} (h : SortEnd o e) : ∃ s n, e = .returned (.tuple #[.string s, .int .i64 n]) ∧ ((o = some s ∧ n = 0) ∨ (o = none ∧ n ≠ 0)) := by
  rcases h with ⟨s, h1, h2⟩ | ⟨h1, m, hm, h2⟩
  · exact ⟨s, 0, h2, .inl ⟨h1, rfl⟩⟩
  · exact ⟨_, m, h2, .inr ⟨h1, hm⟩⟩
set_option maxRecDepth 100000 in
set_option maxHeartbeats 3200000 in
theorem sorts_ok {w : World} {D : List DtT} {S : List (ByteArray × ByteArray)} {vD vS : Value} {t0 t1 t2 t3 t4 a0 a1 a2 a3 a4 : Value} {t a : Tm} {kn Kt : Option Addr} {nn cn nt ct : Nat} {names : List ByteArray} {ts : List Tm} (hnn : nn = names.length) (hnt : nt = ts.length) (h : SortsIn w D S vD vS (.agg #[t0, t1, t2, t3, t4]) (.agg #[a0, a1, a2, a3, a4]) t a kn Kt names ts) :
    Calls Tryz.prog 11 #[vD, vS, .agg #[t0, t1, t2, t3, t4], .agg #[a0, a1, a2, a3, a4], .slice kn nn cn, .slice Kt nt ct] w (SaysB w true) := by
  have HH := Lib.hid (show _ ∧ _ ∧ _ from ⟨h, hnn, hnt⟩)
  obtain ⟨W1, hW1⟩ : ∃ W1, W1 = (w.alloc (.cells #[t0, t1, t2, t3, t4] 30)).alloc (.cells #[a0, a1, a2, a3, a4] 30) := ⟨_, rfl⟩
  have hb1 : Below w.heap.size w W1 := by rw [hW1]; exact bal (bal (Below.refl _ _) _) _
  have HS := Lib.hid (fun (W : World) (hW : Below w.heap.size w W) => sort_ok (h.d.sub (sub_below hW)) (h.s.sub (sub_below hW)) h.few h.fewS (h.tv.bel hW) h.ok.1 h.ok.2)
  have HA := Lib.hid (fun (W : World) (hW : Below w.heap.size w W) => sort_ok (h.d.sub (sub_below hW)) (h.s.sub (sub_below hW)) h.few h.fewS (h.av.bel hW) h.oka.1 h.oka.2)
  have HB1 := Lib.hid hb1
  have hnn1 : nn ≤ 1000000 := by have := h.len; omega
  have hnn2 : nn ≤ nt := by have := h.len; omega
  obtain ⟨so, hso⟩ : ∃ so, so = sortT D S t := ⟨_, rfl⟩
  rw [← hso] at HS
  have HSO := Lib.hid hso
  clear h hnn hnt hb1 hso
  go_enter Tryz.func11, Tryz.ntmps11
  go_wp2_with fail
  rw [← hW1]
  refine (HS.out W1 HB1.out).mono ?_
  rintro e w2 ⟨⟨s, rfl, rfl⟩ | ⟨rfl, m, hm, rfl⟩, hb2⟩
  rotate_left
  · have HB2 := Lib.hid hb2
    have hm1 : (m != 0) = true := by rw [bne_iff_ne]; exact hm
    clear hb2 HS HA hm
    go_wp2
    go_returns
    exact ⟨rfl, HB1.out.trans (HB2.out.mono HB1.out.size)⟩
  have HB2 := Lib.hid (show Below w.heap.size w w2 from HB1.out.trans (hb2.mono HB1.out.size))
  have HX := Lib.hid (show w2.heap[w.heap.size + 1]? = some (.cells #[a0, a1, a2, a3, a4] 30 (0, 0)) ∧ w2.heap.size ≥ W1.heap.size from by
    have s1 : (w.alloc (.cells #[t0, t1, t2, t3, t4] 30)).heap.size = w.heap.size + 1 := World.size_alloc ..
    have z : W1.heap[w.heap.size + 1]? = some (.cells #[a0, a1, a2, a3, a4] 30 (0, 0)) := by rw [hW1, ← s1]; exact heap_alloc_new _ _
    exact ⟨(hb2.block _ (Own.lt.cell_lt' z)).trans z, hb2.size⟩)
  clear hb2 hW1 HS
  go_wp2
  go_loopw [15] (fun iv wr => ∃ (i : Nat), i ≤ nn ∧ iv = .int .i64 (i : Int) ∧ Hid (Below w2.heap.size w2 wr ∧ ∀ (j : Nat) x u, j < i → names[j]? = some x → ts[j]? = some u → sortT D S u = varK D S x ∧ sortT D S u ≠ none)) (fun iv _ => nn - (intOf iv).toNat)
  case atStart => exact ⟨0, Nat.zero_le _, rfl, Lib.hid ⟨Below.refl _ _, fun j x u hj => absurd hj (Nat.not_lt_zero _)⟩⟩
  case round =>
    obtain ⟨i, hin, rfl, HI⟩ := hrel
    rcases Nat.lt_or_ge i nn with hlt | hge
    · have hi1 : (i : Int) < nn := by omega
      have hi2 : (i : Int) < nt := by omega
      have hi0 : 0 ≤ (i : Int) := by omega
      obtain ⟨h, hnn, hnt⟩ := HH.out
      have hbr : Below w.heap.size w wr := HB2.out.trans (HI.out.1.mono HB2.out.size)
      obtain ⟨x, hx⟩ : ∃ x, names[i]? = some x := ⟨_, List.getElem?_eq_getElem (by omega)⟩
      obtain ⟨u, hu⟩ : ∃ u, ts[i]? = some u := ⟨_, List.getElem?_eq_getElem (by omega)⟩
      obtain ⟨an, rfl, hcn⟩ := h.nr i (.string x) (by rw [List.getElem?_map, hx]; rfl)
      have k0 : wr.cell? (an.add i) = some (.string x) := (hbr.cell (cell_lt hcn)).trans hcn
      have HV := Lib.hid (vv_ok (w := wr) (h.okn x (List.mem_of_getElem? hx)))
      have HXU := Lib.hid (show _ ∧ _ ∧ _ from ⟨hx, hu, hbr⟩)
      clear h hnn hnt hbr hx hu hcn
      go_wp2_with fail
      refine HV.out.mono ?_
      rintro e w3 ⟨A3, K3, c3, d3, rfl, ht3, hb3⟩
      have hb3s := hb3.size
      have hb3b := hb3.block
      have hb03 : Below w.heap.size w w3 := HXU.out.2.2.trans (hb3.mono HXU.out.2.2.size)
      have HC3 := Lib.hid (sort_ok (HH.out.1.d.sub (sub_below hb03)) (HH.out.1.s.sub (sub_below hb03)) HH.out.1.few HH.out.1.fewS ht3 (okD_var x).1 (okD_var x).2)
      have HB3 := Lib.hid hb03
      have HBS := Lib.hid (show _ ∧ _ from ⟨hb3s, hb3b⟩)
      clear hb03 ht3 hb3 HV k0 hb3s hb3b
      go_wp2_with fail
      refine HC3.out.mono ?_
      rintro e w4 ⟨hse, hb4⟩
      have HB4 := Lib.hid (show Below w.heap.size w w4 from HB3.out.trans (hb4.mono HB3.out.size))
      obtain ⟨s3, n3, rfl, hr3⟩ := hse.two
      rw [show Tm.mk 1 x false [] [] = varT x from rfl, sort_var] at hr3
      obtain ⟨at', x0, x1, x2, x3, x4, rfl, ⟨q0, q1, q2, q3, q4⟩, htm⟩ := (HH.out.1.tr.below HB4.out) i u HXU.out.2.1
      have z0 : w4.cell? (at'.add (i * 5)) = some x0 := q0
      rw [add_posK _ (by decide)] at q1 q2 q3 q4
      have hou := HH.out.1.okts u (List.mem_of_getElem? HXU.out.2.1)
      have HC5 := Lib.hid (sort_ok (HH.out.1.d.sub (sub_below HB4.out)) (HH.out.1.s.sub (sub_below HB4.out)) HH.out.1.few HH.out.1.fewS htm hou.1 hou.2)
      have HR3 := Lib.hid hr3
      obtain ⟨hb3s, hb3b⟩ := HBS.out
      have HB34 := Lib.hid (show Below wr.heap.size wr w4 from by
        exact ⟨HB4.out.os.trans HXU.out.2.2.os.symm, HB4.out.tape.trans HXU.out.2.2.tape.symm, HB4.out.output.trans HXU.out.2.2.output.symm, Nat.le_trans hb3s hb4.size, fun k hk => (hb4.block k (Nat.lt_of_lt_of_le hk hb3s)).trans (hb3b k hk)⟩)
      clear hse hb4 q0 htm hou hr3 HC3 hb3s hb3b HBS
      go_wp2_with fail
      refine HC5.out.mono ?_
      rintro e w5 ⟨hse, hb5⟩
      obtain ⟨s5, n5, rfl, hr5⟩ := hse.two
      have HB5 := Lib.hid (show Below w.heap.size w w5 ∧ Below wr.heap.size wr w5 from ⟨HB4.out.trans (hb5.mono HB4.out.size), HB34.out.trans (hb5.mono HB34.out.size)⟩)
      have HR5 := Lib.hid hr5
      clear hse hb5 hr5 z0 q1 q2 q3 q4 HC5
      by_cases h3 : n3 = 0
      · subst h3
        by_cases h5 : n5 = 0
        · subst h5
          by_cases hss : s3 = s5
          · subst hss
            have hbb := beq_self_eq_true s3.toList
            go_wp2
            go_roundw
            case rel =>
              refine ⟨i + 1, hlt, by go_num, Lib.hid ⟨HI.out.1.trans (HB5.out.2.mono HI.out.1.size), fun j y v hj hy hv => ?_⟩⟩
              rcases Nat.lt_or_ge j i with h | h
              · exact HI.out.2 j y v h hy hv
              · obtain rfl : j = i := by omega
                rw [HXU.out.1] at hy
                rw [HXU.out.2.1] at hv
                obtain rfl := Option.some.inj hy
                obtain rfl := Option.some.inj hv
                rcases HR3.out with ⟨e3, _⟩ | ⟨_, e3⟩
                · rcases HR5.out with ⟨e5, _⟩ | ⟨_, e5⟩
                  · exact ⟨e5.trans e3.symm, by rw [e5]; intro h; cases h⟩
                  · exact absurd rfl e5
                · exact absurd rfl e3
            case measure => first | (simp [intOf]; done) | (simp [intOf]; omega)
          · have hbb := bytes_no hss
            have HE := Lib.hid HB5.out.1
            clear HI HXU HR3 HR5 HB34 HB4 HB5
            go_wp2
            go_returns
            exact ⟨rfl, HE.out⟩
        · have h51 : (n5 != 0) = true := by rw [bne_iff_ne]; exact h5
          have HE := Lib.hid HB5.out.1
          clear HI HXU HR3 HR5 HB34 HB4 HB5 h5
          go_wp2
          go_returns
          exact ⟨rfl, HE.out⟩
      · have h31 : (n3 != 0) = true := by rw [bne_iff_ne]; exact h3
        have HE := Lib.hid HB5.out.1
        clear HI HXU HR3 HR5 HB34 HB4 HB5 h3
        go_wp2
        go_returns
        exact ⟨rfl, HE.out⟩
    · have e0 : i = nn := by omega
      subst e0
      have hbr : Below w.heap.size w wr := HB2.out.trans (HI.out.1.mono HB2.out.size)
      have hz : wr.heap[w.heap.size + 1]? = some (.cells #[a0, a1, a2, a3, a4] 30 (0, 0)) := (HI.out.1.block _ (Own.lt.cell_lt' HX.out.1)).trans HX.out.1
      have y0 : wr.cell? ⟨w.heap.size + 1, 0, none⟩ = some a0 := cell_blk hz
      have y1 : wr.cell? ⟨w.heap.size + 1, 1, none⟩ = some a1 := cell_blk hz
      have y2 : wr.cell? ⟨w.heap.size + 1, 2, none⟩ = some a2 := cell_blk hz
      have y3 : wr.cell? ⟨w.heap.size + 1, 3, none⟩ = some a3 := cell_blk hz
      have y4 : wr.cell? ⟨w.heap.size + 1, 4, none⟩ = some a4 := cell_blk hz
      have hsa : sortT D S a = some s := by
        obtain ⟨h, hnn, hnt⟩ := HH.out
        refine h.sub s HSO.out.symm fun j x u hx hu => HI.out.2 j x u ?_ hx hu
        rw [hnn]
        exact (List.getElem?_eq_some_iff.1 hx).1
      have HC := Lib.hid (HA.out wr hbr)
      rw [hsa] at HC
      have HBR := Lib.hid hbr
      clear hz hbr hsa HI HX HA
      go_wp2_with fail
      refine HC.out.mono ?_
      rintro e w9 ⟨⟨s', hs', rfl⟩ | ⟨h', _⟩, hb9⟩
      · obtain rfl := Option.some.inj hs'
        have HE := Lib.hid (show Below w.heap.size w w9 from HBR.out.trans (hb9.mono HBR.out.size))
        have hbb := beq_self_eq_true s.toList
        clear hb9 HC HBR hs'
        go_wp2
        go_returns
        exact ⟨rfl, HE.out⟩
      · cases h'
end Go.Proofs.YtponkpiahgoohaaGreatDoor

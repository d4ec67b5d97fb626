/- Package term's gatherer, walked; sorter.of. Condition: of sizes. Package term's Sort: the sort of a term, or the error. Condition: of sizes. What Subst leaves: sorts, names, sizes: plain facts of trees. Condition: none but what each says. -/
import Derived.Test.YtponkpiahgoohaaGreatDoorSGath
import Derived.Test.YtponkpiahgoohaaGreatDoorTEachW
import Derived.Test.YtponkpiahgoohaaGreatDoorTStop
import Derived.Test.YtponkpiahgoohaaGreatDoorTSubA
set_option linter.unusedVariables false
set_option linter.unusedSimpArgs false
namespace Go.Proofs.YtponkpiahgoohaaGreatDoor
open Go.RowKit

theorem five_alloc (w : World) (o0 o1 o2 o3 o4 : Obj) : (((((w.alloc o0).alloc o1).alloc o2).alloc o3).alloc o4).heap[w.heap.size]? = some o0 ∧ (((((w.alloc o0).alloc o1).alloc o2).alloc o3).alloc o4).heap[w.heap.size + 1]? = some o1 ∧ (((((w.alloc o0).alloc o1).alloc o2).alloc o3).alloc o4).heap[w.heap.size + 2]? = some o2 ∧ (((((w.alloc o0).alloc o1).alloc o2).alloc o3).alloc o4).heap[w.heap.size + 3]? = some o3 ∧ (((((w.alloc o0).alloc o1).alloc o2).alloc o3).alloc o4).heap[w.heap.size + 4]? = some o4 ∧ (((((w.alloc o0).alloc o1).alloc o2).alloc o3).alloc o4).heap.size = w.heap.size + 5 ∧ Below w.heap.size w (((((w.alloc o0).alloc o1).alloc o2).alloc o3).alloc o4) := by
  obtain ⟨a0, a1, a2, a3, a4⟩ := three_alloc w o0 o1 o2
  generalize ((w.alloc o0).alloc o1).alloc o2 = v at *
  have s1 : (v.alloc o3).heap.size = w.heap.size + 4 := by rw [World.size_alloc, a3]
  have b3 : (v.alloc o3).heap[w.heap.size + 3]? = some o3 := by rw [← a3]; exact heap_alloc_new v _
  have b4 : ((v.alloc o3).alloc o4).heap[w.heap.size + 4]? = some o4 := by rw [← s1]; exact heap_alloc_new _ _
  have kp : ∀ k, k < w.heap.size + 3 → ((v.alloc o3).alloc o4).heap[k]? = v.heap[k]? := fun k hk => (Below.heap_alloc _ _ _ (by omega)).trans (Below.heap_alloc _ _ _ (by omega))
  refine ⟨(kp _ (by omega)).trans a0, (kp _ (by omega)).trans a1, (kp _ (by omega)).trans a2, (Below.heap_alloc _ _ _ (by omega)).trans b3, b4, by rw [World.size_alloc, s1], (a4.alloc (by omega) _).alloc (by omega) _⟩
/-- The boxes are laid. -/
def gatW (w : World) (gs : Nat) : World := ((((w.alloc (.cells #[.pointer (some ⟨gs, 0, none⟩)] 130)).alloc (.cells #[.func (.func 66) #[] #[] ] 63)).alloc (.cells #[.func (.func 67) #[.pointer (some ⟨gs, 0, none⟩)] #[] ] 122)).alloc (.cells #[tellF w.heap.size] 63)).alloc (.cells #[doF w.heap.size] 63)
theorem gatW_at (w : World) (gs : Nat) : GAt (gatW w gs) gs w.heap.size ∧ (gatW w gs).heap.size = w.heap.size + 5 ∧ Below w.heap.size w (gatW w gs) := by
  obtain ⟨a0, a1, a2, a3, a4, a5, a6⟩ := five_alloc w (.cells #[.pointer (some ⟨gs, 0, none⟩)] 130) (.cells #[.func (.func 66) #[] #[] ] 63) (.cells #[.func (.func 67) #[.pointer (some ⟨gs, 0, none⟩)] #[] ] 122) (.cells #[tellF w.heap.size] 63) (.cells #[doF w.heap.size] 63)
  exact ⟨⟨a0, a1, a2, a3, a4⟩, a5, a6⟩
/-- What the gatherer tells, or the error that it throws. -/
def GatRet (w0 W : World) (gs : Nat) (D : List DtT) (S : List (ByteArray × ByteArray)) (t : Tm) (e : Ending) (w' : World) : Prop := Thrown (GZ w0 W gs W.heap.size D S t) e w' ∨ ∃ s, sortT D S t = some s ∧ e = .returned (.string s) ∧ Below w0.heap.size w0 w' ∧ ∀ i, i < W.heap.size → i ≠ gs → w'.heap[i]? = W.heap[i]?
set_option maxRecDepth 100000 in
set_option maxHeartbeats 6400000 in
theorem gather_ok {w0 w : World} {gs : Nat} {ad : Addr} {t : Tm} {vD vS : Value} {D : List DtT} {S : List (ByteArray × ByteArray)} (hg : WK w gs (.slice none 0 0) 100 [.slice none 0 0, vD, vS]) (hb : Below w0.heap.size w0 w) (hgs : w0.heap.size ≤ gs) (hDv : DatasV w0 vD D) (hSv : ScopeV w0 vS S) (hfew : DFew D) (hfewS : S.length ≤ 1000000) (hp : PtrTm w0 ad t) (hd : okD t) (hsz : 2 * (preT t).length ≤ 1000000) :
    Calls Tryz.prog 65 #[.pointer (some ⟨gs, 0, none⟩), .pointer (some ad), .func (.func 66) #[] #[], .func (.func 67) #[.pointer (some ⟨gs, 0, none⟩)] #[] ] w fun e w' => GatRet w0 w gs D S t e w' := by
  have HF := Lib.hid (show GFix w0 gs w.heap.size (w.heap.size + 5) vD vS D S from ⟨hgs, hg.lt, Nat.le_refl _, hDv, hSv, hfew, hfewS⟩)
  have HH := Lib.hid (show _ ∧ _ ∧ _ ∧ _ ∧ _ from ⟨hg, hb, hp, hd, hsz⟩)
  clear hg hb hgs hDv hSv hfew hfewS hp hd hsz
  go_enter Tryz.func65, Tryz.ntmps65
  go_wp2_with fail
  change Code.wp _ _ _ _ (gatW w gs)
  obtain ⟨hG5, hs5, hb5⟩ := gatW_at w gs
  obtain ⟨w5, hw5⟩ : ∃ w5, w5 = gatW w gs := ⟨_, rfl⟩
  rw [← hw5] at hG5 hs5 hb5 ⊢
  clear hw5
  obtain ⟨hg, hb, hp, hd, hsz⟩ := HH.out
  have d0 : w5.cell? ⟨w.heap.size, 0, none⟩ = some (.pointer (some ⟨gs, 0, none⟩)) := cell_one0 hG5.b0
  have d4 : w5.cell? ⟨w.heap.size + 1 + 1 + 1 + 1, 0, none⟩ = some (doF w.heap.size) := cell_one0 hG5.b4
  have hg5 : WK w5 gs (.slice none 0 0) 100 [.slice none 0 0, vD, vS] := hg.to (hb5.block gs hg.lt)
  have HX := Lib.hid (next_any (w := w5.drew) (p := ad) (F := 77) (fs := #[]) (cs := #[.pointer (some ⟨w.heap.size + 1, 0, none⟩), .pointer (some ⟨w.heap.size, 0, none⟩), .pointer (some ⟨w.heap.size + 3, 0, none⟩), .pointer (some ⟨w.heap.size + 4, 0, none⟩)]) (show TRow w5.drew (w.heap.size + 5) (.slice none 0 0) 0 [] from TRow.nil _ _) (show WK w5.drew gs (.slice none 0 0) 100 [.slice none 0 0, vD, vS] from hg5) (by have := hg.lt; omega) (show w.heap.size + 5 ≤ w5.heap.size from by omega) (by decide))
  have H5 := Lib.hid (show _ ∧ _ ∧ _ ∧ _ from ⟨hG5, hs5, hb5, hg5⟩)
  clear hG5 hs5 hb5 hg5 hg hb hp hd hsz
  go_region_with (go_at_call 41; refine HX.out.mono ?_; rintro e w6 ⟨⟨u, rfl⟩, HE⟩; have HX' := Lib.hid HE; clear HE)
  all_goals
    obtain ⟨v', r1, r2, r3⟩ := HX'.out
    obtain ⟨hG5, hs5, hb5, hg5⟩ := H5.out
    obtain ⟨hg, hb, hp, hd, hsz⟩ := HH.out
    have hgl := hg.lt
    have h6 := undrawn r3
    have hG6 : GAt w6 gs w.heap.size := hG5.turned h6 (TRow.nil w5 (w.heap.size + 5)) hgl (Nat.le_refl _) (by omega)
    have hb05 : Below w0.heap.size w0 w5 := hb.trans (hb5.mono hb.size)
    have hIn : GIn w0 w gs w.heap.size (w.heap.size + 5) vD vS D S t (2 * (preT t).length) (2 * (preT t).length) v' 1 _ w6 [(true, ad, t)] [] (.slice none 0 0) :=
      ⟨rfl, rfl, r1, r2, World.ownsRow_nil _ _ _ _, fun k _ e => (by cases e), hG6, turned_below hb05 h6 (TRow.nil w5 (w.heap.size + 5)) HF.out.gs0 (by omega) (by omega), Nat.le_trans (by omega) h6.size, (by
        rw [evalP]
        simp only [if_true]
        cases sortT D S t <;> rfl), trivial, (fun q hq => by
        rcases List.mem_cons.1 hq with rfl | hq
        · exact ⟨hp, fun _ => ⟨hd, (by show (preT t).length ≤ 1000000; omega)⟩, fun h => by cases h⟩
        · cases hq), Nat.le_of_eq rfl, (by simp), fun i h1 h2 => (h6.block i (by omega) h2 (by intro e; cases e)).trans (hb5.block i h1)⟩
    have HR := Lib.hid (run_anyT (gather_runs (w1 := w) HF.out t (2 * (preT t).length) hsz) (by omega) ⟨_, _, _, hIn⟩)
    have g0 : w6.cell? ⟨w.heap.size, 0, none⟩ = some (.pointer (some ⟨gs, 0, none⟩)) := cell_one0 hG6.b0
    clear r1 r2 r3 hG5 hs5 hb5 hg5 hg hb hp hd hsz hgl h6 hG6 hb05 hIn d0 d4 HX HX'
    go_wp2_with fail
    refine HR.out.mono ?_
    rintro e w7 (⟨m, rfl, hz⟩ | ⟨⟨u7, rfl⟩, k7, v7, P7, told7, vt7, h7⟩)
    · have HZ := Lib.hid hz
      clear hz HR
      go_wp2
      exact ⟨rfl, .inl ⟨m, rfl, HZ.out⟩⟩
  all_goals
    have hP7 : P7 = [] := List.length_eq_zero_iff.1 h7.len.symm
    subst hP7
    have hev := h7.ev
    rw [evalP] at hev
    obtain ⟨s, hs, ht7⟩ : ∃ s, sortT D S t = some s ∧ told7 = [s] := by
      cases h2 : sortT D S t with
      | none => rw [h2] at hev; cases hev
      | some s => rw [h2] at hev; injection hev with hev; exact ⟨s, rfl, hev⟩
    subst ht7
    obtain ⟨g7, c7, hv7, hc7⟩ : ∃ g7 c7, vt7 = .slice (some ⟨g7, 0, none⟩) 1 c7 ∧ w7.cell? ⟨g7, 0, none⟩ = some (.string s) := by
      rcases h7.tr.2 with ⟨_, h0⟩ | ⟨g7, cap, cur, e, _⟩
      · exact absurd h0 (by simp)
      · refine ⟨g7, cap, e, ?_⟩
        have h8 := h7.tr
        rw [e] at h8
        exact World.ownsRow.cellAt h8 0 (by simp)
    subst hv7
    have k0 : w7.cell? ⟨w.heap.size, 0, none⟩ = some (.pointer (some ⟨gs, 0, none⟩)) := cell_one0 h7.at'.b0
    have k1 : w7.cell? ⟨gs, 1, none⟩ = some (.slice (some ⟨g7, 0, none⟩) 1 c7) := by
      have := h7.g
      unfold WK at this
      simp [World.cell?, this]
    have HE := Lib.hid (show _ ∧ _ ∧ _ from ⟨hs, h7.low, h7.kp⟩)
    clear hs h7 hev HR
    go_wp2
    go_returns
    exact .inr ⟨s, HE.out.1, rfl, HE.out.2.1, HE.out.2.2⟩
set_option maxRecDepth 100000 in
set_option maxHeartbeats 3200000 in
theorem of_ok {w0 w : World} {gs : Nat} {ad : Addr} {t : Tm} {vD vS : Value} {D : List DtT} {S : List (ByteArray × ByteArray)} (hg : WK w gs (.slice none 0 0) 100 [.slice none 0 0, vD, vS]) (hb : Below w0.heap.size w0 w) (hgs : w0.heap.size ≤ gs) (hDv : DatasV w0 vD D) (hSv : ScopeV w0 vS S) (hfew : DFew D) (hfewS : S.length ≤ 1000000) (hp : PtrTm w0 ad t) (hd : okD t) (hsz : 2 * (preT t).length ≤ 1000000) :
    Calls Tryz.prog 51 #[.pointer (some ⟨gs, 0, none⟩), .pointer (some ad)] w fun e w' => GatRet w0 w gs D S t e w' := by
  have hmf : ∀ (fn : Fn) (first cap : Array Value) (w : World), (Instr.makeFunc fn first cap).run Tryz.prog w = .ok (.func fn first cap) w := fun _ _ _ _ => rfl
  have HC := Lib.hid (gather_ok hg hb hgs hDv hSv hfew hfewS hp hd hsz)
  clear hg hb hgs hDv hSv hfew hfewS hp hd hsz
  go_enter Tryz.func51, Tryz.ntmps51
  go_wp2_with fail
  refine HC.out.mono ?_
  rintro e w1 (⟨m, rfl, hz⟩ | ⟨s, hs, rfl, hk⟩)
  · have HZ := Lib.hid hz
    clear hz HC
    go_wp2
    exact ⟨rfl, .inl ⟨m, rfl, HZ.out⟩⟩
  · have HZ := Lib.hid (show _ ∧ _ from ⟨hs, hk⟩)
    clear hs hk HC
    go_wp2
    go_returns
    exact .inr ⟨s, HZ.out.1, rfl, HZ.out.2⟩
set_option maxRecDepth 100000 in
set_option maxHeartbeats 3200000 in
/-- What Sort's closure does: the sort is laid into its box. -/
theorem sort1_ok {w0 w : World} {gs bs : Nat} {ad : Addr} {t : Tm} {vD vS : Value} {D : List DtT} {S : List (ByteArray × ByteArray)} (hg : WK w gs (.slice none 0 0) 100 [.slice none 0 0, vD, vS]) (hb : Below w0.heap.size w0 w) (hgs : w0.heap.size ≤ gs) (hDv : DatasV w0 vD D) (hSv : ScopeV w0 vS S) (hfew : DFew D) (hfewS : S.length ≤ 1000000) (hp : PtrTm w0 ad t) (hd : okD t) (hsz : 2 * (preT t).length ≤ 1000000) (hbs : w.heap[bs]? = some (.cells #[.string ⟨#[]⟩] 9 (0, 0))) (hne : bs ≠ gs) (hlo : w0.heap.size ≤ bs) :
    Calls Tryz.prog 50 #[.pointer (some ⟨gs, 0, none⟩), .pointer (some ad), .pointer (some ⟨bs, 0, none⟩)] w fun e w' => Thrown (GZ w0 w gs w.heap.size D S t) e w' ∨ ((∃ u, e = .returned u) ∧ ∃ s, sortT D S t = some s ∧ Below w0.heap.size w0 w' ∧ (∀ i, i < w.heap.size → i ≠ gs → i ≠ bs → w'.heap[i]? = w.heap[i]?) ∧ w'.heap[bs]? = some (.cells #[.string s] 9 (0, 0))) := by
  have HC := Lib.hid (of_ok hg hb hgs hDv hSv hfew hfewS hp hd hsz)
  have HH := Lib.hid (show _ ∧ _ ∧ _ from ⟨hbs, hne, hlo⟩)
  clear hg hb hgs hDv hSv hfew hfewS hp hd hsz hbs hne hlo
  go_enter Tryz.func50, Tryz.ntmps50
  go_wp2_with fail
  refine HC.out.mono ?_
  rintro e w1 (⟨m, rfl, hz⟩ | ⟨s, hs, rfl, hk1, hk2⟩)
  · have HZ := Lib.hid hz
    clear hz HC
    go_wp2
    exact ⟨rfl, .inl ⟨m, rfl, HZ.out⟩⟩
  · have hbl : bs < w.heap.size := cell_lt (cell_one0 HH.out.1)
    have hb1 : w1.heap[bs]? = some (.cells #[.string ⟨#[]⟩] 9 (0, 0)) := (hk2 bs hbl HH.out.2.1).trans HH.out.1
    have m0 : w1.cell? ⟨bs, 0, none⟩ = some (.string ⟨#[]⟩) := cell_one0 hb1
    have f0 : w1.frozen? ⟨bs, 0, none⟩ = false := by simp [World.frozen?, hb1]
    have hlo := HH.out.2.2
    have HZ := Lib.hid (show (∃ s', sortT D S t = some s' ∧ Below w0.heap.size w0 (w1.setCell ⟨bs, 0, none⟩ (.string s)) ∧ (∀ i, i < w.heap.size → i ≠ gs → i ≠ bs → (w1.setCell ⟨bs, 0, none⟩ (.string s)).heap[i]? = w.heap[i]?) ∧ (w1.setCell ⟨bs, 0, none⟩ (.string s)).heap[bs]? = some (.cells #[.string s'] 9 (0, 0))) from
      ⟨s, hs, hk1.setCell hlo _, fun i h1 h2 h3 => (Below.heap_setCell _ _ _ _ h3).trans (hk2 i h1 h2), one_set hb1⟩)
    clear hs hk1 hk2 HC hb1
    go_wp2
    go_returns
    exact .inr ⟨⟨_, rfl⟩, HZ.out⟩
end Go.Proofs.YtponkpiahgoohaaGreatDoor

namespace Go.Proofs.YtponkpiahgoohaaGreatDoor
open Go.RowKit

/-- What Sort tells: the sort and no error; no sort and an error. -/
def SortEnd (o : Option ByteArray) (e : Ending) : Prop := (∃ s, o = some s ∧ e = .returned (.tuple #[.string s, .int .i64 0])) ∨ (o = none ∧ ∃ m : Int, m ≠ 0 ∧ e = .returned (.tuple #[.string ⟨#[]⟩, .int .i64 m]))
set_option maxRecDepth 100000 in
set_option maxHeartbeats 3200000 in
theorem sort_ok {w : World} {u0 u1 u2 u3 u4 vD vS : Value} {t : Tm} {D : List DtT} {S : List (ByteArray × ByteArray)} (hDv : DatasV w vD D) (hSv : ScopeV w vS S) (hfew : DFew D) (hfewS : S.length ≤ 1000000) (ht : TmV w (.agg #[u0, u1, u2, u3, u4]) t) (hd : okD t) (hsz : 2 * (preT t).length ≤ 1000000) :
    Calls Tryz.prog 32 #[vD, vS, .agg #[u0, u1, u2, u3, u4]] w fun e w' => SortEnd (sortT D S t) e ∧ Below w.heap.size w w' := by
  have hmf : ∀ (fn : Fn) (first cap : Array Value) (w : World), (Instr.makeFunc fn first cap).run Tryz.prog w = .ok (.func fn first cap) w := fun _ _ _ _ => rfl
  obtain ⟨AD, cD, rfl⟩ : ∃ A c, vD = .slice A D.length c := by obtain ⟨A, c, e, _⟩ := hDv; exact ⟨A, c, e⟩
  obtain ⟨AS, cS, rfl⟩ : ∃ A c, vS = .slice A S.length c := by obtain ⟨A, c, e, _⟩ := hSv; exact ⟨A, c, e⟩
  have HH := Lib.hid (show _ ∧ _ ∧ _ ∧ _ ∧ _ ∧ _ ∧ _ from ⟨hDv, hSv, hfew, hfewS, ht, hd, hsz⟩)
  clear hDv hSv hfew hfewS ht hd hsz
  go_enter Tryz.func32, Tryz.ntmps32
  go_wp2_with fail
  obtain ⟨hDv, hSv, hfew, hfewS, ht, hd, hsz⟩ := HH.out
  obtain ⟨f0, f1, f2, fs, fb⟩ := three_alloc w (.cells #[u0, u1, u2, u3, u4] 30) (.cells #[.slice none 0 0, .slice none 0 0, .slice AD D.length cD, .slice AS S.length cS] 100) (.cells #[.string ⟨#[]⟩] 9)
  obtain ⟨w0, hw0⟩ : ∃ w0, w0 = w.alloc (.cells #[u0, u1, u2, u3, u4] 30) := ⟨_, rfl⟩
  obtain ⟨wS, hwS⟩ : ∃ wS, wS = ((w.alloc (.cells #[u0, u1, u2, u3, u4] 30)).alloc (.cells #[.slice none 0 0, .slice none 0 0, .slice AD D.length cD, .slice AS S.length cS] 100)).alloc (.cells #[.string ⟨#[]⟩] 9) := ⟨_, rfl⟩
  have s0 : w0.heap.size = w.heap.size + 1 := by rw [hw0]; exact World.size_alloc ..
  have b0 : Below w.heap.size w w0 := by rw [hw0]; exact (Below.refl _ _).alloc (Nat.le_refl _) _
  have b0S : Below w0.heap.size w0 wS := by rw [hwS, ← hw0]; exact ((Below.refl _ _).alloc (Nat.le_refl _) _).alloc (by rw [World.size_alloc]; omega) _
  rw [← hwS] at f0 f1 f2 fs fb ⊢
  obtain ⟨wA, hwA⟩ : ∃ wA, wA = wS.alloc (.cells #[.int .i64 0] 34) := ⟨_, rfl⟩
  have eA : wA.heap[wS.heap.size]? = some (.cells #[.int .i64 0] 34 (0, 0)) := by rw [hwA]; exact heap_alloc_new _ _
  have sA : wA.heap.size = w.heap.size + 4 := by rw [hwA, World.size_alloc, fs]
  have kA : ∀ k, k < wS.heap.size → wA.heap[k]? = wS.heap[k]? := fun k hk => by rw [hwA]; exact Below.heap_alloc _ _ _ hk
  have b0A : Below w0.heap.size w0 wA := by rw [hwA]; exact b0S.alloc (by omega) _
  have f2A : wA.heap[w.heap.size + 2]? = some (.cells #[.string ⟨#[]⟩] 9 (0, 0)) := (kA _ (by omega)).trans f2
  have hp : PtrTm w0 ⟨w.heap.size, 0, none⟩ t := by
    have hz : w0.heap[w.heap.size]? = some (.cells #[u0, u1, u2, u3, u4] 30 (0, 0)) := by rw [hw0]; exact heap_alloc_new _ _
    refine ⟨u0, u1, u2, u3, u4, ⟨cell_blk hz, ?_, ?_, ?_, ?_⟩, ht.bel b0⟩
    all_goals rw [add_eq]
    · exact cell_blk hz
    · exact cell_blk hz
    · exact cell_blk hz
    · exact cell_blk hz
  have hS1 := sort1_ok (w0 := w0) (w := wA) (gs := w.heap.size + 1) (bs := w.heap.size + 2) (ad := ⟨w.heap.size, 0, none⟩) (t := t) (D := D) (S := S) ((kA _ (by omega)).trans f1) b0A (by omega) (hDv.sub (sub_below b0)) (hSv.sub (sub_below b0)) hfew hfewS hp hd hsz f2A (by omega) (by omega)
  have HC := Lib.hid (stopped_any (w := wS) (F := 50) (fs := #[]) (cs := #[.pointer (some ⟨w.heap.size + 1, 0, none⟩), .pointer (some ⟨w.heap.size, 0, none⟩), .pointer (some ⟨w.heap.size + 1 + 1, 0, none⟩)]) (Z := GZ w0 wA (w.heap.size + 1) wA.heap.size D S t) (run_enters (by kernel_rfl)) (by rw [← hwA]; exact hS1) (fun w' hP => by
    rcases hP with ⟨s, _, _, hP, _⟩ | ⟨n, _, _, _, hP⟩
    · exact (hP _ (by omega) (by omega) (by omega)).trans eA
    · exact (hP _ (by omega) (by omega)).trans eA))
  have HA := Lib.hid (show _ ∧ _ ∧ _ ∧ _ ∧ _ from ⟨s0, b0, sA, fs, f2A⟩)
  clear hDv hSv hfew hfewS ht hd hsz f0 f1 f2 fs fb s0 b0 b0S eA sA kA b0A f2A hp hS1 hwA hwS hw0 HH
  refine HC.out.mono ?_
  rintro e w5 hcase
  have hgen : ∃ (n : Int) (s : ByteArray), e = .returned (.int .i64 n) ∧ w5.cell? ⟨w.heap.size + 1 + 1, 0, none⟩ = some (.string s) ∧ Below w.heap.size w w5 ∧ ((sortT D S t = some s ∧ n = 0) ∨ (sortT D S t = none ∧ n ≠ 0 ∧ s = ⟨#[]⟩)) := by
    obtain ⟨s0, b0, sA, fs, f2A⟩ := HA.out
    have hbel : ∀ {w2 : World} {u : Value}, Below w0.heap.size w0 w2 → Below w.heap.size w (w2.setCell ⟨wS.heap.size, 0, none⟩ u) := fun h => (b0.trans (h.mono (by omega))).setCell (by show w.heap.size ≤ wS.heap.size; omega) _
    rcases hcase with ⟨n, w2, ⟨hn, hno, hb2, hkp⟩, rfl, rfl⟩ | ⟨rfl, w2, ⟨s, hs, hb2, hkp, hbs⟩, rfl⟩
    · refine ⟨n, ⟨#[]⟩, rfl, ?_, hbel hb2, .inr ⟨hno, hn, rfl⟩⟩
      have h9 : (w2.setCell ⟨wS.heap.size, 0, none⟩ (.int .i64 n)).heap[w.heap.size + 2]? = some (.cells #[.string ⟨#[]⟩] 9 (0, 0)) := (Below.heap_setCell _ _ _ _ (by show w.heap.size + 2 ≠ wS.heap.size; omega)).trans ((hkp _ (by omega) (by omega)).trans f2A)
      exact cell_one0 h9
    · refine ⟨0, s, rfl, ?_, hbel hb2, .inl ⟨hs, rfl⟩⟩
      have h9 : (w2.setCell ⟨wS.heap.size, 0, none⟩ (.int .i64 0)).heap[w.heap.size + 2]? = some (.cells #[.string s] 9 (0, 0)) := (Below.heap_setCell _ _ _ _ (by show w.heap.size + 2 ≠ wS.heap.size; omega)).trans hbs
      exact cell_one0 h9
  obtain ⟨n, s, rfl, m0, hb5, hres⟩ := hgen
  have HE := Lib.hid (show SortEnd (sortT D S t) (.returned (.tuple #[.string s, .int .i64 n])) ∧ Below w.heap.size w w5 from by
    refine ⟨?_, hb5⟩
    rcases hres with ⟨h1, rfl⟩ | ⟨h1, h2, rfl⟩
    · exact .inl ⟨s, h1, rfl⟩
    · exact .inr ⟨h1, n, h2, rfl⟩)
  clear hcase hb5 hres HC HA
  go_wp2
  go_returns
  exact HE.out
end Go.Proofs.YtponkpiahgoohaaGreatDoor

namespace Go.Proofs.YtponkpiahgoohaaGreatDoor
open Go.RowKit

/-- A name alone. -/
def varT (x : ByteArray) : Tm := .mk 1 x false [] []
theorem sort_var (D : List DtT) (S : List (ByteArray × ByteArray)) (x : ByteArray) : sortT D S (varT x) = varK D S x := by
  unfold varT
  rw [sortT, sortL]
  have he : entK (.mk 1 x false [] []) = true := by
    unfold entK
    simp [manyK, fitsN, Tm.kind, Tm.kids]
  rw [if_pos he]
  show lvK D S 1 x [] = _
  unfold lvK
  rw [if_pos rfl]
mutual
theorem sort_subT {D : List DtT} {S : List (ByteArray × ByteArray)} {f : ByteArray → Option Tm} (hf : ∀ x u, f x = some u → sortT D S u = varK D S x) : ∀ (t : Tm) (s : ByteArray), sortT D S t = some s → sortT D S (subT f t) = some s
  | .mk k n neg ds l, s, h => by
    rw [sortT] at h
    by_cases he : entK (.mk k n neg ds l) = true
    · rw [if_pos he] at h
      cases hl : sortL D S l with
      | none => rw [hl] at h; cases h
      | some r =>
        rw [hl] at h
        have h : lvK D S k n r = some s := h
        by_cases hk : k = 1 ∧ ∃ u, f n = some u
        · obtain ⟨rfl, u, hu⟩ := hk
          rw [subT_hit (t := .mk 1 n neg ds l) (u := u) (by unfold hit; exact hu), hf n u hu, ← h]
          unfold lvK
          rw [if_pos rfl]
        · have hn : hit f (.mk k n neg ds l) = none := by
            unfold hit
            show (if k = 1 then f n else none) = none
            by_cases hk1 : k = 1
            · rw [if_pos hk1]
              cases hfn : f n with
              | none => rfl
              | some u => exact absurd ⟨hk1, u, hfn⟩ hk
            · rw [if_neg hk1]
          rw [subT_none hn]
          show sortT D S (.mk k n neg ds (subL f l)) = some s
          have he' : entK (.mk k n neg ds (subL f l)) = true := by
            unfold entK at he ⊢
            have e1 : (Tm.mk k n neg ds (subL f l)).kids.length = (Tm.mk k n neg ds l).kids.length := subL_len f l
            rw [e1]
            exact he
          rw [sortT, if_pos he', sort_subL hf l r hl]
          exact h
    · rw [if_neg he] at h
      cases h
theorem sort_subL {D : List DtT} {S : List (ByteArray × ByteArray)} {f : ByteArray → Option Tm} (hf : ∀ x u, f x = some u → sortT D S u = varK D S x) : ∀ (l : List Tm) (r : List ByteArray), sortL D S l = some r → sortL D S (subL f l) = some r
  | [], r, h => h
  | t :: l, r, h => by
    rw [sortL] at h
    cases h1 : sortT D S t with
    | none => rw [h1] at h; cases h
    | some s =>
      rw [h1] at h
      cases h2 : sortL D S l with
      | none => rw [h2] at h; cases h
      | some r' =>
        rw [h2] at h
        rw [subL, sortL, sort_subT hf t s h1, sort_subL hf l r' h2]
        exact h
end
/-- A name stands in a term. -/
def Stands (x : ByteArray) (l : List Tm) : Prop := ∃ p ∈ preL l, p.kind = 1 ∧ p.name = x
theorem stands_cons {x : ByteArray} {t : Tm} {l : List Tm} : Stands x (t :: l) ↔ (t.kind = 1 ∧ t.name = x) ∨ Stands x t.kids ∨ Stands x l := by
  unfold Stands
  rw [preL_cons]
  constructor
  · rintro ⟨p, hp, h⟩
    rcases List.mem_cons.1 hp with rfl | hp
    · exact .inl h
    · rcases List.mem_append.1 hp with hp | hp
      · exact .inr (.inl ⟨p, hp, h⟩)
      · exact .inr (.inr ⟨p, hp, h⟩)
  · rintro (h | ⟨p, hp, h⟩ | ⟨p, hp, h⟩)
    · exact ⟨t, .head _, h⟩
    · exact ⟨p, .tail _ (List.mem_append_left _ hp), h⟩
    · exact ⟨p, .tail _ (List.mem_append_right _ hp), h⟩
theorem stands_nil {x : ByteArray} : ¬ Stands x [] := by
  rintro ⟨p, hp, _⟩
  rw [preL_nil] at hp
  cases hp
mutual
theorem stands_subT {f : ByteArray → Option Tm} {x : ByteArray} : ∀ t : Tm, Stands x [subT f t] → (Stands x [t] ∧ f x = none) ∨ ∃ y u, f y = some u ∧ Stands x [u]
  | .mk k n neg ds l, h => by
    cases hh : hit f (.mk k n neg ds l) with
    | some u =>
      rw [subT_hit hh] at h
      unfold hit at hh
      split at hh
      · exact .inr ⟨n, u, hh, h⟩
      · cases hh
    | none =>
      rw [subT_none hh] at h
      rcases stands_cons.1 h with ⟨h1, h2⟩ | h1 | h1
      · refine .inl ⟨stands_cons.2 (.inl ⟨h1, h2⟩), ?_⟩
        have h1 : k = 1 := h1
        have h2 : n = x := h2
        unfold hit at hh
        rw [if_pos (show (Tm.mk k n neg ds l).kind = 1 from h1)] at hh
        rw [← h2]
        exact hh
      · rcases stands_subL l h1 with ⟨h2, h3⟩ | h2
        · exact .inl ⟨stands_cons.2 (.inr (.inl h2)), h3⟩
        · exact .inr h2
      · exact absurd h1 stands_nil
theorem stands_subL {f : ByteArray → Option Tm} {x : ByteArray} : ∀ l : List Tm, Stands x (subL f l) → (Stands x l ∧ f x = none) ∨ ∃ y u, f y = some u ∧ Stands x [u]
  | [], h => absurd h stands_nil
  | t :: l, h => by
    rw [subL] at h
    rcases stands_cons.1 h with h1 | h1 | h1
    · rcases stands_subT t (stands_cons.2 (.inl h1)) with ⟨h2, h3⟩ | h2
      · refine .inl ⟨?_, h3⟩
        rcases stands_cons.1 h2 with h | h | h
        · exact stands_cons.2 (.inl h)
        · exact stands_cons.2 (.inr (.inl h))
        · exact absurd h stands_nil
      · exact .inr h2
    · rcases stands_subT t (stands_cons.2 (.inr (.inl h1))) with ⟨h2, h3⟩ | h2
      · refine .inl ⟨?_, h3⟩
        rcases stands_cons.1 h2 with h | h | h
        · exact stands_cons.2 (.inl h)
        · exact stands_cons.2 (.inr (.inl h))
        · exact absurd h stands_nil
      · exact .inr h2
    · rcases stands_subL l h1 with ⟨h2, h3⟩ | h2
      · exact .inl ⟨stands_cons.2 (.inr (.inr h2)), h3⟩
      · exact .inr h2
end
mutual
theorem untouchedT {f : ByteArray → Option Tm} : ∀ t : Tm, (∀ x, Stands x [t] → f x = none) → subT f t = t
  | .mk k n neg ds l, h => by
    have hn : hit f (.mk k n neg ds l) = none := by
      unfold hit
      split
      · next hk => exact h n (stands_cons.2 (.inl ⟨hk, rfl⟩))
      · rfl
    rw [subT_none hn]
    show Tm.mk k n neg ds (subL f l) = Tm.mk k n neg ds l
    rw [untouchedL l fun x hx => h x (stands_cons.2 (.inr (.inl hx)))]
theorem untouchedL {f : ByteArray → Option Tm} : ∀ l : List Tm, (∀ x, Stands x l → f x = none) → subL f l = l
  | [], _ => rfl
  | t :: l, h => by
    rw [subL, untouchedT t fun x hx => h x (by
      rcases stands_cons.1 hx with h | h | h
      · exact stands_cons.2 (.inl h)
      · exact stands_cons.2 (.inr (.inl h))
      · exact absurd h stands_nil), untouchedL l fun x hx => h x (stands_cons.2 (.inr (.inr hx)))]
end
mutual
/-- Each name of a term has nothing but its name. -/
def plainT : Tm → Bool
  | .mk k _ neg ds l => !(decide (k = 1) && (decide (l.length ≠ 0) || decide (ds.length ≠ 0) || neg)) && plainL l
def plainL : List Tm → Bool
  | [] => true
  | t :: l => plainT t && plainL l
end
mutual
theorem plain_subT {f : ByteArray → Option Tm} (hf : ∀ x u, f x = some u → u = varT x) : ∀ t : Tm, plainT t = true → subT f t = t
  | .mk k n neg ds l, h => by
    rw [plainT] at h
    simp only [Bool.and_eq_true, Bool.not_eq_true'] at h
    obtain ⟨h1, h2⟩ := h
    cases hh : hit f (.mk k n neg ds l) with
    | some u =>
      rw [subT_hit hh]
      unfold hit at hh
      split at hh
      · next hk =>
        have hk : k = 1 := hk
        subst hk
        have h1 : neg = false ∧ ds = [] ∧ l = [] := by
          simp at h1
          cases neg <;> simp_all
        obtain ⟨rfl, rfl, rfl⟩ := h1
        exact hf n u hh
      · cases hh
    | none =>
      rw [subT_none hh]
      show Tm.mk k n neg ds (subL f l) = Tm.mk k n neg ds l
      rw [plain_subL hf l h2]
theorem plain_subL {f : ByteArray → Option Tm} (hf : ∀ x u, f x = some u → u = varT x) : ∀ l : List Tm, plainL l = true → subL f l = l
  | [], _ => rfl
  | t :: l, h => by
    rw [plainL] at h
    simp only [Bool.and_eq_true] at h
    rw [subL, plain_subT hf t h.1, plain_subL hf l h.2]
end
mutual
theorem size_subT {f : ByteArray → Option Tm} {M : Nat} (hM : 1 ≤ M) (hf : ∀ x u, f x = some u → (preT u).length ≤ M) : ∀ t : Tm, (preT (subT f t)).length ≤ M * (preT t).length
  | .mk k n neg ds l => by
    have e : (preT (.mk k n neg ds l)).length = (preL l).length + 1 := by rw [preT_eq]; rfl
    rw [e]
    have h2 := size_subL hM hf l
    have h3 : M ≤ M * ((preL l).length + 1) := Nat.le_mul_of_pos_right _ (Nat.succ_pos _)
    cases hh : hit f (.mk k n neg ds l) with
    | some u =>
      rw [subT_hit hh]
      unfold hit at hh
      split at hh
      · exact Nat.le_trans (hf _ _ hh) h3
      · cases hh
    | none =>
      rw [subT_none hh, preT_eq]
      show (preL (subL f l)).length + 1 ≤ _
      rw [Nat.mul_add]
      omega
theorem size_subL {f : ByteArray → Option Tm} {M : Nat} (hM : 1 ≤ M) (hf : ∀ x u, f x = some u → (preT u).length ≤ M) : ∀ l : List Tm, (preL (subL f l)).length ≤ M * (preL l).length
  | [] => by rw [subL, preL_nil]; exact Nat.zero_le _
  | t :: l => by
    have h1 := size_subT hM hf t
    have h2 := size_subL hM hf l
    rw [subL, preL, preL, List.length_append, List.length_append, Nat.mul_add]
    omega
end
mutual
theorem okD_subT {f : ByteArray → Option Tm} (hf : ∀ x u, f x = some u → okD u) : ∀ t : Tm, okD t → okD (subT f t)
  | .mk k n neg ds l, h => by
    cases hh : hit f (.mk k n neg ds l) with
    | some u =>
      rw [subT_hit hh]
      unfold hit at hh
      split at hh
      · exact hf _ _ hh
      · cases hh
    | none =>
      rw [subT_none hh]
      intro p hp
      rw [preT_eq] at hp
      rcases List.mem_cons.1 hp with rfl | hp
      · exact h.head
      · exact okD_subL hf l (fun u hu => h.kids u hu) p hp
theorem okD_subL {f : ByteArray → Option Tm} (hf : ∀ x u, f x = some u → okD u) : ∀ l : List Tm, (∀ u ∈ l, okD u) → ∀ p ∈ preL (subL f l), p.ds.length ≤ 1000000
  | [], _, p, hp => by rw [subL, preL_nil] at hp; cases hp
  | t :: l, h, p, hp => by
    rw [subL, preL] at hp
    rcases List.mem_append.1 hp with hp | hp
    · exact okD_subT hf t (h t (.head _)) p hp
    · exact okD_subL hf l (fun u hu => h u (.tail _ hu)) p hp
end
theorem posK_none (l : List ByteArray) (s : ByteArray) : ∀ {k : Nat}, posK l k s = none → ∀ i, i < k → l[i]? ≠ some s
  | 0, _, i, hi => absurd hi (Nat.not_lt_zero _)
  | k + 1, h, i, hi => by
    unfold posK at h
    split at h
    · cases h
    · next hk =>
      rcases Nat.lt_or_ge i k with h1 | h1
      · exact posK_none l s h i h1
      · rw [show i = k by omega]; exact hk
theorem subFn_some {nm : List ByteArray} {ts : List Tm} {x : ByteArray} {u : Tm} (h : subFn nm ts x = some u) : ∃ i : Nat, nm[i]? = some x ∧ ts[i]? = some u := by
  unfold subFn at h
  cases hp : posK nm nm.length x with
  | none => rw [hp] at h; cases h
  | some i => rw [hp] at h; exact ⟨i, (posK_lt nm x hp).2, h⟩
theorem subFn_none {nm : List ByteArray} {ts : List Tm} {x : ByteArray} (hl : nm.length ≤ ts.length) : subFn nm ts x = none ↔ x ∉ nm := by
  constructor
  · intro h hx
    obtain ⟨i, hi, he⟩ := List.getElem_of_mem hx
    unfold subFn at h
    cases hp : posK nm nm.length x with
    | none => exact posK_none nm x hp i hi (by rw [List.getElem?_eq_getElem hi, he])
    | some j =>
      rw [hp] at h
      have hj := (posK_lt nm x hp).1
      have h : ts[j]? = none := h
      rw [List.getElem?_eq_none_iff] at h
      omega
  · intro h
    cases hs : subFn nm ts x with
    | none => rfl
    | some u =>
      obtain ⟨i, hi, _⟩ := subFn_some hs
      exact absurd (List.mem_of_getElem? hi) h
/-- The names themselves as terms. -/
theorem subFn_own {nm : List ByteArray} {x : ByteArray} {u : Tm} (h : subFn nm (nm.map varT) x = some u) : u = varT x := by
  obtain ⟨i, h1, h2⟩ := subFn_some h
  rw [List.getElem?_map, h1] at h2
  injection h2 with h2
  exact h2.symm
end Go.Proofs.YtponkpiahgoohaaGreatDoor

/- Package term's each, where a visit may throw: what is thrown comes out of it. Package term's Of: a text of at most 1000000 bytes that is no term's Key gives a zero term and false. Premise: the library's variables as they are laid. For the law TermReads: how long a Key is; what both Ofs tell of one text; the law's Pick. Premises: the library's variables as they are laid; texts of at most 180000 bytes. The law TermReads: a text is read back where it is a Key, and nothing else is. Premises: a term in memory; the library's variables as they are laid. -/
import Derived.Test.YtdkgpnkcdnfniaaDoorTEachW
import Derived.Test.YtdkgpnkcdnfniaaDoorPHead
import Derived.Test.YtdkgpnkcdnfniaaDoorTOfA
import Derived.Test.YtdkgpnkcdnfniaaDoorROf
import Derived.Test.YtdkgpnkcdnfniaaDoorTAwakeA
import Derived.StillTailTactics
set_option linter.unusedVariables false
set_option linter.unusedSimpArgs false
namespace Go.Proofs.YtdkgpnkcdnfniaaDoor
open Go.RowKit

set_option maxRecDepth 100000 in
set_option maxHeartbeats 3200000 in
theorem do_anyT {T : TypeId} {x : List Value} {w : World} {ad : Addr} {b1 gw b3 B m : Nat} {v : Value} {E : List Value} {FV F : FuncId} {fv cv fs cs : Array Value} {Q1 : Option Addr → Nat → Nat → World → Prop} {Z : Int → World → Prop}
    (hb1 : w.cell? ⟨b1, 0, none⟩ = some (.func (.func FV) fv cv)) (hen : ∀ args w, (callFunc FV args).run Tryd.prog w = .ok (.enter FV args) w)
    (hcall : Calls Tryd.prog FV (fv ++ #[.pointer (some ad)] ++ cv) w fun e w2 => Thrown Z e w2 ∨ ((∃ u, e = .returned u) ∧ ∃ K c n, Q1 K c n w2))
    (h2 : ∀ w2 K c n, Q1 K c n w2 → w2.cell? ⟨b3, 0, none⟩ = some (.func (.func F) fs cs) ∧ w2.cell? (ad.add 4) = some (.slice K n c) ∧ TRow w2 B v m E ∧ WK w2 gw v T x ∧ B ≤ w2.heap.size ∧ (n ≠ 0 → ∃ ad, K = some ad) ∧ m + n ≤ 100000000) (hgB : gw < B) :
    Calls Tryd.prog 39 #[.pointer (some ad), .pointer (some ⟨b1, 0, none⟩), .pointer (some ⟨gw, 0, none⟩), .pointer (some ⟨b3, 0, none⟩)] w fun e w' => Thrown Z e w' ∨ ((∃ u, e = .returned u) ∧ ∃ w2 v' K c n, Q1 K c n w2 ∧ TRow w' B v' (m + n) (E ++ rowTurns (.func (.func F) fs cs) K n) ∧ WK w' gw v' T x ∧ Turned gw v v' w2 w') := by
  have HC := Lib.hid hcall
  have H2 := Lib.hid h2
  have HB := Lib.hid hgB
  clear hcall h2 hgB
  go_enter Tryd.func39, Tryd.ntmps39
  go_wp2_with fail
  refine HC.out.mono ?_
  rintro e w2 (⟨n, rfl, hz⟩ | ⟨⟨u, rfl⟩, K, c, n, hq⟩)
  · have HZ := Lib.hid hz
    clear hz HC
    go_wp2
    exact ⟨rfl, Or.inl ⟨n, rfl, HZ.out⟩⟩
  obtain ⟨m1, m2, h3, h4, h5, hK, hn⟩ := H2.out _ _ _ _ hq
  have m4 : w2.cell? { block := ad.block, off := ad.off + 4 } = some (.slice K n c) := m2
  have HN := Lib.hid (into_any (w := w2.drew) (F := F) (fs := fs) (cs := cs) (c := c) (show TRow w2.drew B v m E from h3) (show WK w2.drew gw v T x from h4) HB.out h5 hn hK)
  have HQ := Lib.hid hq
  clear hq h3 h4 h5 hK H2 HC HB hn
  go_wp2_with fail
  go_region_with (go_at_call 40; refine HN.out.mono ?_; rintro e w' ⟨⟨u, rfl⟩, HE⟩; have HE' := Lib.hid HE; clear HE)
  all_goals go_wp2
  all_goals go_returns
  all_goals (obtain ⟨v', r1, r2, r3⟩ := HE'.out; exact .inr ⟨⟨_, rfl⟩, w2, v', K, c, n, HQ.out, r1, r2, ⟨r3.os, r3.tape, r3.output, r3.size, r3.block, r3.own⟩⟩)
/-- n parts that are to come, at K: what they are is not asked. -/
def anyT (n : Nat) : List Tm := List.replicate n (.mk 0 ⟨#[]⟩ false [] [])
theorem anyT_len (n : Nat) : (anyT n).length = n := List.length_replicate ..
theorem anyT_some {n : Nat} {K : Option Addr} (h : n ≠ 0 → ∃ A, K = some A) : anyT n ≠ [] → ∃ A, K = some A := fun hne => h fun e => hne (by rw [e]; rfl)
/-- What visit does, part by part, or what it throws: S k p X W tells what holds with k to go and the parts of p ahead; X are visit's own blocks; what lay below N stays while others work. -/
structure VisitsT (N M : Nat) (FV : FuncId) (fv cv : Array Value) (S : Nat → List (Addr × Tm) → (Nat → Prop) → World → Prop) (Z : Int → World → Prop) : Prop where
  enters : ∀ args w, (callFunc FV args).run Tryd.prog w = .ok (.enter FV args) w
  low : ∀ {k p X W}, S k p X W → ∀ j, X j → j < W.heap.size
  small : ∀ {k p X W}, S k p X W → p.length ≤ 1000000
  stay : ∀ {k p X W W'}, S k p X W → (∀ j, j < W.heap.size → j < N ∨ X j → W'.heap[j]? = W.heap[j]?) → Below M W W' → S k p X W'
  visit : ∀ {k r X W ad t}, S k ((ad, t) :: r) X W → Calls Tryd.prog FV (fv ++ #[.pointer (some ad)] ++ cv) W fun e w' => Thrown Z e w' ∨ ((∃ u, e = .returned u) ∧ ∃ k' X' K c n, k' < k ∧ S k' (kidsOf K (anyT n) ++ r) X' w' ∧ w'.cell? (ad.add 4) = some (.slice K n c) ∧ (n ≠ 0 → ∃ A, K = some A) ∧ Touch X X' W w' ∧ Below M W w')
structure EachQ (w : World) (b M : Nat) (fv : Value) (S : Nat → List (Addr × Tm) → (Nat → Prop) → World → Prop) (X0 : Nat → Prop) (k : Nat) (v : Value) (n : Nat) (E : List Value) (W : World) (pend : List (Addr × Tm)) (X : Nat → Prop) : Prop where
  row : E = turnsOf (eachF b) (pend.map (·.1))
  len : n = pend.length
  state : S k pend X W
  ahead : TRow W (b + 3) v n E
  walker : WK W (b + 1) v 73 []
  box : W.heap[b]? = some (.cells #[fv] 55 (0, 0))
  var : W.heap[b + 2]? = some (.cells #[eachF b] 55 (0, 0))
  touch : Touch X0 X w W
  below : Below M w W
  apart : ∀ k, X k → k ≠ b ∧ k ≠ b + 1 ∧ k ≠ b + 2 ∧ v.ownBlock ≠ some k
  size : b + 3 ≤ W.heap.size
set_option maxRecDepth 100000 in
set_option maxHeartbeats 3200000 in
theorem each_runsT {w : World} {M : Nat} {FV : FuncId} {fv cv : Array Value} {S : Nat → List (Addr × Tm) → (Nat → Prop) → World → Prop} {Z : Int → World → Prop} {X0 : Nat → Prop} (hV : VisitsT w.heap.size M FV fv cv S Z) (hM : M ≤ w.heap.size) :
    RunsT (w.heap.size + 1) (w.heap.size + 3) 73 (fun k v n E W => ∃ pend X, EachQ w w.heap.size M (.func (.func FV) fv cv) S X0 k v n E W pend X) Z := by
  obtain ⟨b, hb⟩ : ∃ b, b = w.heap.size := ⟨_, rfl⟩
  rw [← hb] at hV hM ⊢
  constructor
  · rintro k v n E W ⟨pend, X, h⟩
    refine ⟨h.ahead, h.size, ⟨_, h.walker⟩, ?_⟩
    have h1 := hV.small h.state
    have := h.len
    omega
  · rintro k v n E W ⟨pend, X, h⟩
    rcases pend with _ | ⟨⟨ad, t⟩, rest⟩
    · exact absurd h.len (by simp)
    have hn : n = rest.length := by have := h.len; simp at this; exact this
    subst hn
    have hE := h.row
    subst hE
    refine ⟨ad, 39, _, _, turnsOf (eachF b) (rest.map (·.1)), rfl, enters_of Tryd.func39 (by kernel_rfl) rfl, ?_⟩
    rintro g cap x rfl hwk W' hrow hgw hT
    have hX := h.apart
    have hlow := hV.low h.state
    have hkeep : ∀ k, k < W.heap.size → k ≠ b + 1 → W'.heap[k]? = W.heap[k]? := fun k hk hne => hT.block k hk hne (by intro e; cases e)
    have hS' : S k ((ad, t) :: rest) X W' := hV.stay h.state (fun k hk ho => hkeep k hk (by
      rcases ho with ho | ho
      · omega
      · exact (hX k ho).2.1)) ⟨hT.os, hT.tape, hT.output, hT.size, fun k hk => hkeep k (by have := h.size; omega) (by omega)⟩
    have hcall := hV.visit hS'
    have hsz := h.size
    have n0 : NoBytes W' b := .of ((hkeep b (by omega) (by omega)).trans h.box) (by decide)
    have n2 : NoBytes W' (b + 2) := .of ((hkeep (b + 2) (by omega) (by omega)).trans h.var) (by decide)
    have hwk' : WK W' (b + 1) (.slice (some ⟨g, 0, none⟩) rest.length cap) 73 [] := by
      have e1 := hwk; have e2 := h.walker
      unfold WK at e1 e2
      rw [e1] at e2
      injection e2 with e2
      injection e2 with e2 e3 e4
      have : x = [] := by injection e2 with e2; injection e2
      subst this
      exact hgw
    have nrow : ∀ k, (Value.slice (some ⟨g, 0, none⟩) rest.length cap).ownBlock = some k → NoBytes W' k := fun k hk => by
      have hh : W'.ownsRow (b + 3) 107 2 (.slice (some ⟨g, 0, none⟩) rest.length cap) rest.length (turnsOf (eachF b) (rest.map (·.1))) := hrow
      rcases hh.2 with ⟨e, _⟩ | ⟨g', cap', cur, e, _, hg, _⟩
      · cases e
      · cases e
        injection hk with hk
        subst hk
        exact .of hg (by decide)
    have hszW := hT.size
    have hd := do_anyT (T := 73) (x := []) (F := 39) (fs := #[]) (cs := #[.pointer (some ⟨b, 0, none⟩), .pointer (some ⟨b + 1, 0, none⟩), .pointer (some ⟨b + 2, 0, none⟩)]) (b1 := b) (gw := b + 1) (b3 := b + 2) (B := b + 3) (m := rest.length) (v := .slice (some ⟨g, 0, none⟩) rest.length cap) (E := turnsOf (eachF b) (rest.map (·.1))) (Z := Z) (Q1 := fun K c n w2 => ∃ k' X', k' < k ∧ S k' (kidsOf K (anyT n) ++ rest) X' w2 ∧ w2.cell? (ad.add 4) = some (.slice K n c) ∧ (n ≠ 0 → ∃ A, K = some A) ∧ Touch X X' W' w2 ∧ Below M W' w2)
      (cell_one0 ((hkeep b (by omega) (by omega)).trans h.box)) hV.enters (hcall.mono fun e w2 hq => (by
        rcases hq with hq | ⟨hu, k', X', K, c, n, q⟩
        · exact .inl hq
        · exact .inr ⟨hu, K, c, n, k', X', q⟩)) ?h2 (by omega)
    case h2 =>
      rintro w2 K c n ⟨k', X', hk', hS2, hk4, hKn, hT2, hb2⟩
      have k2 : ∀ k, k < W'.heap.size → ¬ X k → NoBytes W' k → w2.heap[k]? = W'.heap[k]? := hT2.block
      have hkl : (kidsOf K (anyT n)).length = n := by rw [← List.length_map (f := (·.2)), kidsOf_snd (anyT_some hKn), anyT_len]
      refine ⟨cell_one0 (((k2 (b + 2) (by omega) (fun e => (hX _ e).2.2.1 rfl) n2).trans (hkeep _ (by omega) (by omega))).trans h.var), hk4, hrow.kept fun k hk hkW => k2 k hkW (fun e => (hX k e).2.2.2 hk) (nrow k hk), hwk'.to (k2 _ (by omega) (fun e => (hX _ e).2.1 rfl) (.of hwk' (by decide))), by have := hT2.size; omega, hKn, ?_⟩
      have h1 := hV.small hS2
      rw [List.length_append, hkl] at h1
      omega
    refine Calls.mono hd ?_
    rintro e w' (hz | ⟨hu, w2, v', K, c, n, ⟨k', X', hk', hS2, _, hKn, hT2, hb2⟩, hr, hg2, hTu⟩)
    · exact .inl hz
    refine .inr ⟨hu, ?_⟩
    have hsnd := kidsOf_snd (anyT_some hKn)
    have hturn := kidsOf_turns (eachF b) (anyT_some hKn)
    rw [anyT_len] at hturn
    obtain ⟨kp, hkp⟩ : ∃ kp, kp = kidsOf K (anyT n) := ⟨_, rfl⟩
    rw [← hkp] at hsnd hturn hS2
    have hkl : kp.length = n := by rw [← List.length_map (f := (·.2)), hsnd, anyT_len]
    have hlow2 := hV.low hS2
    have hgl : b + 3 ≤ g ∧ g < W'.heap.size := World.ownsRow.lt hrow g rfl
    have hap : ∀ k, X' k → k ≠ b ∧ k ≠ b + 1 ∧ k ≠ b + 2 ∧ k ≠ g := fun k hk => by
      rcases hT2.own k hk with e | e | e
      · obtain ⟨p1, p2, p3, p4⟩ := hX k e
        exact ⟨p1, p2, p3, fun e => p4 (by rw [e]; rfl)⟩
      · omega
      · exact ⟨fun h => e (h ▸ n0), fun h => e (h ▸ .of hwk' (by decide)), fun h => e (h ▸ n2), fun h => e (nrow k (by rw [h]; rfl))⟩
    have own_ne : ∀ {k : Nat}, k ≠ g → (Value.slice (some ⟨g, 0, none⟩) rest.length cap).ownBlock ≠ some k := fun hne e => hne (by injection e with e; exact e.symm)
    have k3 : ∀ k, k < w2.heap.size → k ≠ b + 1 → k ≠ g → w'.heap[k]? = w2.heap[k]? := fun k h1 h2 h3 => hTu.block k h1 h2 (own_ne h3)
    have s2 := hT2.size
    have s3 := hTu.size
    refine ⟨k', v', rest.length + n, _, hk', kp ++ rest, X', ?_, ?_, hV.stay hS2 (fun k hk ho => by
      rcases ho with ho | ho
      · exact k3 k hk (by omega) (by omega)
      · exact k3 k hk (hap k ho).2.1 (hap k ho).2.2.2) ⟨hTu.os, hTu.tape, hTu.output, s3, fun k hk => k3 k (by omega) (by omega) (by omega)⟩, hr, hg2, ?_, ?_, ?_, ?_, ?_, by omega⟩
    · rw [List.map_append, turnsOf_append]
      exact congrArg _ hturn
    · rw [List.length_append, hkl]; omega
    · exact ((k3 b (by omega) (by omega) (by omega)).trans (hT2.block b (by omega) (fun e => (hX _ e).1 rfl) n0)).trans ((hkeep b (by omega) (by omega)).trans h.box)
    · exact ((k3 (b + 2) (by omega) (by omega) (by omega)).trans (hT2.block (b + 2) (by omega) (fun e => (hX _ e).2.2.1 rfl) n2)).trans ((hkeep (b + 2) (by omega) (by omega)).trans h.var)
    · have ht := h.touch
      have s0 := ht.size
      refine ⟨hTu.os.trans (hT2.os.trans (hT.os.trans ht.os)), hTu.tape.trans (hT2.tape.trans (hT.tape.trans ht.tape)), hTu.output.trans (hT2.output.trans (hT.output.trans ht.output)), by omega, fun k hk hx hn => ?_, fun k hk => ?_⟩
      · have hxk : ¬ X k := fun e => by
          rcases ht.own k e with e | e | e
          · exact hx e
          · omega
          · exact e hn
        have e1 := (hkeep k (by omega) (by omega)).trans (ht.block k hk hx hn)
        exact (k3 k (by omega) (by omega) (by omega)).trans ((hT2.block k (by omega) hxk (hn.to e1)).trans e1)
      · refine Classical.byContradiction fun hno => ?_
        have h1 : ¬ X0 k := fun h => hno (.inl h)
        have h2 : k < w.heap.size := Nat.lt_of_not_le fun h => hno (.inr (.inl h))
        have h3 : NoBytes w k := Classical.byContradiction fun h => hno (.inr (.inr h))
        rcases hT2.own k hk with e | e | e
        · exact hno (ht.own k e)
        · omega
        · exact e ((h3.to (ht.block k h2 h1 h3)).to (hkeep k (by omega) (by omega)))
    · refine h.below.trans (Below.trans (b := W') ⟨hT.os, hT.tape, hT.output, hT.size, fun k hk => hkeep k ?_ (by omega)⟩ (hb2.trans ⟨hTu.os, hTu.tape, hTu.output, s3, fun k hk => k3 k ?_ (by omega) (by omega)⟩))
      · omega
      · omega
    · intro k hk
      obtain ⟨p1, p2, p3, p4⟩ := hap k hk
      refine ⟨p1, p2, p3, fun e => ?_⟩
      rcases hTu.own k e with e | e
      · exact own_ne p4 e
      · have := hlow2 k hk; omega
set_option maxRecDepth 100000 in
set_option maxHeartbeats 3200000 in
theorem each_anyT {w : World} {M k0 n c : Nat} {FV : FuncId} {fv cv : Array Value} {S : Nat → List (Addr × Tm) → (Nat → Prop) → World → Prop} {Z : Int → World → Prop} {X0 : Nat → Prop} {K : Option Addr} (hV : VisitsT w.heap.size M FV fv cv S Z) (hM : M ≤ w.heap.size) (hS : S k0 (kidsOf K (anyT n)) X0 w) (hK : n ≠ 0 → ∃ A, K = some A) :
    Calls Tryd.prog 19 #[.func (.func FV) fv cv, .slice K n c] w fun e w' => Thrown Z e w' ∨ ((∃ u, e = .returned u) ∧ ∃ k' X', S k' [] X' w' ∧ Touch X0 X' w w' ∧ Below M w w') := by
  have HH := Lib.hid (show _ ∧ _ ∧ _ ∧ _ from ⟨hV, hM, hS, hK⟩)
  clear hV hM hS hK
  go_enter Tryd.func19, Tryd.ntmps19
  go_wp2_with fail
  obtain ⟨hV, hM, hS, hK⟩ := HH.out
  have hlow := hV.low hS
  obtain ⟨g0, g1, g2, hs3, hb3⟩ := three_alloc w (.cells #[.func (.func FV) fv cv] 55) (.cells #[.slice none 0 0] 73) (.cells #[eachF w.heap.size] 55)
  have hsnd := kidsOf_snd (anyT_some hK)
  have hturn := kidsOf_turns (eachF w.heap.size) (anyT_some hK)
  rw [anyT_len] at hturn
  have hkl : (kidsOf K (anyT n)).length = n := by rw [← List.length_map (f := (·.2)), hsnd, anyT_len]
  have hlen := hV.small hS
  rw [hkl] at hlen
  refine Calls.mono (into_any (T := 73) (x := []) (B := w.heap.size + 3) (gw := w.heap.size + 1) (m := 0) (n := n) (v := .slice none 0 0) (E := []) (TRow.nil _ _) g1 (by omega) (Nat.le_of_eq hs3.symm) (by omega) hK) ?_
  rintro e w4 ⟨⟨u, rfl⟩, v', r1, r2, r3⟩
  have kk : ∀ k, k < w.heap.size + 3 → k ≠ w.heap.size + 1 → w4.heap[k]? = (((w.alloc (.cells #[.func (.func FV) fv cv] 55)).alloc (.cells #[.slice none 0 0] 73)).alloc (.cells #[eachF w.heap.size] 55)).heap[k]? := fun k h1 h2 => r3.block k (Nat.lt_of_lt_of_le h1 (Nat.le_of_eq hs3.symm)) h2 (by intro e; cases e)
  have hs4 := r3.size
  have hs4' : w.heap.size + 3 ≤ w4.heap.size := Nat.le_trans (Nat.le_of_eq hs3.symm) hs4
  have hb4 : Below w.heap.size w w4 := hb3.trans ⟨r3.os, r3.tape, r3.output, r3.size, fun k hk => kk k (by omega) (by omega)⟩
  have hR : EachQ w w.heap.size M (.func (.func FV) fv cv) S X0 k0 v' (0 + n) ([] ++ rowTurns (eachF w.heap.size) K n) w4 (kidsOf K (anyT n)) X0 :=
    ⟨by rw [List.nil_append]; exact hturn, by rw [Nat.zero_add, hkl], hV.stay hS (fun k hk _ => hb4.block k hk) ⟨hb4.os, hb4.tape, hb4.output, hb4.size, fun k hk => hb4.block k (Nat.lt_of_lt_of_le hk hM)⟩, r1, r2, (kk _ (by omega) (by omega)).trans g0, (kk _ (by omega) (by omega)).trans g2,
      ⟨hb4.os, hb4.tape, hb4.output, hb4.size, fun k hk _ _ => hb4.block k hk, fun _ h => .inl h⟩, ⟨hb4.os, hb4.tape, hb4.output, hb4.size, fun k hk => hb4.block k (Nat.lt_of_lt_of_le hk hM)⟩, fun k hk => by
        have := hlow k hk
        refine ⟨by omega, by omega, by omega, fun e => ?_⟩
        have := (World.ownsRow.lt r1 k e).1
        omega, hs4'⟩
  have HR := Lib.hid (run_anyT (each_runsT (w := w) (X0 := X0) hV hM) (by omega) ⟨_, X0, hR⟩)
  clear hV hM hS hK hlow g0 g1 g2 hs3 hb3 hlen r1 r2 r3 kk hs4 hs4' hb4 hsnd hturn hkl hR HH
  go_wp2_with fail
  refine HR.out.mono ?_
  rintro e w' (⟨n', rfl, hz⟩ | ⟨⟨u, rfl⟩, k, v, pend, X, h⟩)
  · have HZ := Lib.hid hz
    clear hz HR
    go_wp2
    exact ⟨rfl, Or.inl ⟨n', rfl, HZ.out⟩⟩
  have hp : pend = [] := List.length_eq_zero_iff.1 h.len.symm
  subst hp
  have HE := Lib.hid (show ∃ k' X', S k' [] X' w' ∧ Touch X0 X' w w' ∧ Below M w w' from ⟨k, X, h.state, h.touch, h.below⟩)
  clear h HR
  go_wp2
  go_returns
  exact .inr ⟨⟨_, rfl⟩, HE.out⟩
end Go.Proofs.YtdkgpnkcdnfniaaDoor

namespace Go.Proofs.YtdkgpnkcdnfniaaDoor
open Go.RowKit Go.Lib

/-- l is so many Keys, one behind the other. -/
def Keys (n : Nat) (l : List UInt8) : Prop := ∃ ts : List Tm, ts.length = n ∧ (∀ p ∈ preL ts, Good p) ∧ l = keyK (preL ts)
theorem keyK_app (a b : List Tm) : keyK (preL (a ++ b)) = keyK (preL a) ++ keyK (preL b) := by
  rw [preL_append]; exact List.flatMap_append ..
theorem head_same {a b : Tm} (h1 : a.kind = b.kind) (h2 : a.name = b.name) (h3 : a.neg = b.neg) (h4 : a.ds = b.ds) (h5 : a.kids.length = b.kids.length) : headK a = headK b := by
  unfold headK
  rw [h1, h2, h3, h4, h5]
theorem keys_step {t : Tm} {rest : List UInt8} {m : Nat} (hg : Good t) (h : Keys (t.kids.length + m) rest) : Keys (m + 1) (headK t ++ rest) := by
  obtain ⟨ts, hl, hgs, e⟩ := h
  refine ⟨.mk t.kind t.name t.neg t.ds (ts.take t.kids.length) :: ts.drop t.kids.length, ?_, fun p hp => ?_, ?_⟩
  · rw [List.length_cons, List.length_drop]; omega
  · rw [preL_cons] at hp
    have e2 : preL ts = preL (ts.take t.kids.length) ++ preL (ts.drop t.kids.length) := by rw [← preL_append, List.take_append_drop]
    rcases List.mem_cons.1 hp with rfl | hp
    · exact ⟨hg.kind, hg.name, hg.ds, hg.dl, by show (ts.take _).length ≤ _; rw [List.length_take]; have := hg.kl; omega⟩
    · exact hgs p (by rw [e2]; exact hp)
  · rw [preL_cons, e]
    have e3 : headK (.mk t.kind t.name t.neg t.ds (ts.take t.kids.length)) = headK t := head_same rfl rfl rfl rfl (by show (ts.take _).length = _; rw [List.length_take]; omega)
    have e2 : keyK (preL ts) = keyK (preL (ts.take t.kids.length)) ++ keyK (preL (ts.drop t.kids.length)) := by rw [← keyK_app, List.take_append_drop]
    rw [e2]
    show _ = keyK (_ :: (preL (ts.take t.kids.length) ++ _))
    unfold keyK
    rw [List.flatMap_cons, e3, List.flatMap_append]
/-- What holds while a text is read that is no Key. -/
structure OfB (w0 : World) (N M gr e0 : Nat) (k : Nat) (p : List (Addr × Tm)) (X : Nat → Prop) (W : World) : Prop where
  low : ∀ j, X j → M ≤ j ∧ j < W.heap.size
  own : X gr
  rd : ∃ L, RdC W gr L p.length ∧ L.length = k ∧ ¬ Keys p.length L
  klen : k ≤ 1000000
  pend : ∀ q ∈ p, X q.1.block ∧ q.1.block ≠ gr ∧ PendAt W q.1
  apart : p.Pairwise Apart2
  lib : LibM M W
  err : ErrM M W
  size : M ≤ W.heap.size
  few : p.length ≤ 1000000
  var : W.heap[e0]? = some (.cells #[.int .i64 0] 43 (0, 0))
  free : ¬ X e0
  e0N : e0 < N
  below : Below M w0 W
/-- What is thrown. -/
def ZB (w0 : World) (M e0 : Nat) (n : Int) (w' : World) : Prop := n = 20 ∧ w'.heap[e0]? = some (.cells #[.int .i64 0] 43 (0, 0)) ∧ Below M w0 w'
theorem OfB.stay {w0 : World} {N M gr e0 k : Nat} {p : List (Addr × Tm)} {X : Nat → Prop} {W W' : World} (h : OfB w0 N M gr e0 k p X W) (hN : e0 < W.heap.size) (hk : ∀ j, j < W.heap.size → j < N ∨ X j → W'.heap[j]? = W.heap[j]?) (hb : Below M W W') : OfB w0 N M gr e0 k p X W' := by
  obtain ⟨L, r1, r2, r3⟩ := h.rd
  refine ⟨fun j hx => ⟨(h.low j hx).1, Nat.lt_of_lt_of_le (h.low j hx).2 hb.size⟩, h.own, ⟨L, r1.ne (hk gr (h.low gr h.own).2 (.inr h.own)), r2, r3⟩, h.klen, fun q hq => ?_, h.apart, h.lib.on hb (Nat.le_refl _), h.err.on hb (Nat.le_refl _), Nat.le_trans h.size hb.size, h.few, (hk e0 hN (.inl h.e0N)).trans h.var, h.free, h.e0N, h.below.trans hb⟩
  obtain ⟨h1, h2, b, o, cs, e, h3, h4, h5⟩ := h.pend q hq
  refine ⟨h1, h2, b, o, cs, e, ?_, h4, h5⟩
  have hx : X b := by have := h1; rw [e] at this; exact this
  exact (hk b (h.low b hx).2 (.inr hx)).trans h3
theorem OfB.thrown {w0 : World} {N M gr e0 k pb : Nat} {p : List (Addr × Tm)} {X : Nat → Prop} {W : World} (h : OfB w0 N M gr e0 k p X W) (hpb : X pb) {e : Ending} {w' : World} (ht : Thrown (ZP gr pb W) e w') : Thrown (ZB w0 M e0) e w' := by
  obtain ⟨n, he, hn, ho⟩ := ht
  have h1 := h.low pb hpb
  have h2 := h.low gr h.own
  refine ⟨n, he, hn, (ho.block e0 (Own.lt.cell_lt' h.var) (fun e => h.free (e ▸ h.own)) (fun e => h.free (e ▸ hpb))).trans h.var, h.below.trans (ho.below h2.1 h1.1 h.size)⟩
/-- Behind read. -/
theorem ofB_step {w0 : World} {N M gr e0 k pb o : Nat} {t t1 : Tm} {rest : List UInt8} {r : List (Addr × Tm)} {X : Nat → Prop} {W w' : World} {cs : Array Value} (h : OfB w0 N M gr e0 k ((⟨pb, o, none⟩, t1) :: r) X W) (hcs : W.heap[pb]? = some (.cells cs 28 (0, 0))) (ho : o + 5 ≤ cs.size) (hg : Good t) (hL : ∃ L, RdC W gr L (r.length + 1 : Nat) ∧ L.length = k ∧ ¬ Keys (r.length + 1) L ∧ L = headK t ++ rest) (hd : ((r.length + 1 : Nat) : Int) + t.kids.length - 1 ≤ ((rest.length / 8 : Nat) : Int))
    (hp : ReadPost W gr pb o cs t rest (r.length + 1 : Nat) w') :
    ∃ k' X' K c n, k' < k ∧ OfB w0 N M gr e0 k' (kidsOf K (anyT n) ++ r) X' w' ∧ w'.cell? ((⟨pb, o, none⟩ : Addr).add 4) = some (.slice K n c) ∧ (n ≠ 0 → ∃ A, K = some A) ∧ Touch X X' W w' ∧ Below M W w' := by
  obtain ⟨A, cA, K, cK, hR, hrow, hAb, hK⟩ := hp
  have hx := h.pend _ (List.mem_cons_self ..)
  have hXp : X pb := hx.1
  have hpg : pb ≠ gr := hx.2.1
  have hpW : pb < W.heap.size := (h.low pb hXp).2
  have hgW : gr < W.heap.size := (h.low gr h.own).2
  have hon := hR.only
  have hsz := hon.size
  have hM1 := (h.low pb hXp).1
  have hM2 := (h.low gr h.own).1
  have hbM : Below M W w' := hon.below hM2 hM1 h.size
  have hat := put5_at cs o (.int .u8 t.kind) (.string t.name) (.bool t.neg) (.slice A t.ds.length cA) (.slice K t.kids.length cK) ho
  have hcell : ∀ j u, (put5 cs o (.int .u8 t.kind) (.string t.name) (.bool t.neg) (.slice A t.ds.length cA) (.slice K t.kids.length cK))[o + j]? = some u → w'.cell? ⟨pb, o + j, none⟩ = some u := fun j u hu => by rw [cell_of_row w' pb (o + j) _ _ _ hR.blk]; exact hu
  have hKs : t.kids.length ≠ 0 → ∃ A, K = some A := fun hne => by
    rcases hK with ⟨e, _⟩ | ⟨b, zs, e, _⟩
    · exact absurd (by rw [e]; rfl) hne
    · exact ⟨_, e⟩
  have hkl : (kidsOf K (anyT t.kids.length)).length = t.kids.length := by rw [← List.length_map (f := (·.2)), kidsOf_snd (anyT_some hKs), anyT_len]
  have hkb : ∀ q ∈ kidsOf K (anyT t.kids.length), W.heap.size ≤ q.1.block ∧ q.1.block < w'.heap.size ∧ PendAt w' q.1 := fun q hq => by
    rcases hK with ⟨e, e2⟩ | ⟨b, zs, e, hb, hz, hzk, hne⟩
    · rw [e2] at hq; exact nomatch hq
    · rw [e] at hq
      obtain ⟨j, _, h2, h3, _⟩ := kidsAt_mem (show q ∈ kidsAt ⟨b, 0, none⟩ 0 (anyT t.kids.length) from hq)
      rw [anyT_len] at h2
      rw [h3]
      refine ⟨hb, Own.lt.cell_lt' hz, ⟨b, j * 5, zs, rfl, hz, ?_, ?_⟩⟩
      · have := hzk.1; omega
      · exact hzk.2 j (by omega)
  have hka : (kidsOf K (anyT t.kids.length)).Pairwise Apart2 := by
    rcases hK with ⟨e, e2⟩ | ⟨b, zs, e, _⟩
    · rw [e2]; exact List.Pairwise.nil
    · rw [e]; exact kidsAt_apart _ _
  have hap := List.pairwise_cons.1 h.apart
  have hrb : ∀ q ∈ r, q.1.block < W.heap.size := fun q hq => (h.low _ (h.pend q (List.mem_cons_of_mem _ hq)).1).2
  obtain ⟨L, hL1, hL2, hL3, hL4⟩ := hL
  have hmin := headK_min t
  have hlen : k = (headK t).length + rest.length := by rw [← hL2, hL4, List.length_append]
  have heW : e0 < W.heap.size := Own.lt.cell_lt' h.var
  have hk1 := h.klen
  refine ⟨rest.length, fun j => X j ∨ (W.heap.size ≤ j ∧ j < w'.heap.size), K, cK, t.kids.length, by omega, ⟨fun j hj => ?_, .inl h.own, ⟨rest, ?_, rfl, fun hc => ?_⟩, by omega, fun q hq => ?_, ?_, h.lib.on hbM (Nat.le_refl _), h.err.on hbM (Nat.le_refl _), Nat.le_trans h.size hsz, ?_, (hon.block e0 heW (fun e => h.free (e ▸ h.own)) (fun e => h.free (e ▸ hXp))).trans h.var, fun hc => ?_, h.e0N, h.below.trans hbM⟩, by rw [add_eq]; exact hcell 4 _ hat.2.2.2.2, hKs, ⟨hon.os, hon.tape, hon.output, hsz, fun j hj hx _ => hon.block j hj (fun e => hx (e ▸ h.own)) (fun e => hx (e ▸ hXp)), fun j hj => ?_⟩, hbM⟩
  · rcases hj with hj | hj
    · exact ⟨(h.low j hj).1, Nat.lt_of_lt_of_le (h.low j hj).2 hsz⟩
    · exact ⟨Nat.le_trans h.size hj.1, hj.2⟩
  · have e2 : (((r.length + 1 : Nat) : Int) + t.kids.length - 1) = (((kidsOf K (anyT t.kids.length) ++ r).length : Nat) : Int) := by rw [List.length_append, hkl]; omega
    rw [← e2]
    exact hR.left
  · rw [List.length_append, hkl] at hc
    exact hL3 (by rw [hL4]; exact keys_step hg hc)
  · rcases List.mem_append.1 hq with hq | hq
    · obtain ⟨k1, k2, k3⟩ := hkb q hq
      exact ⟨.inr ⟨k1, k2⟩, by omega, k3⟩
    · obtain ⟨k1, k2, b, oo, cs2, e, k3, k4, k5⟩ := h.pend q (List.mem_cons_of_mem _ hq)
      refine ⟨.inl k1, k2, ?_⟩
      by_cases hb : b = pb
      · subst hb
        rw [hcs] at k3
        injection k3 with k3
        injection k3 with k3
        subst k3
        refine ⟨b, oo, _, e, hR.blk, by rw [put5_size]; exact k4, ?_⟩
        rw [put5_off _ _ _ _ _ _ _ ?_]
        · exact k5
        · have := hap.1 q hq
          unfold Apart2 at this
          rw [e] at this
          simp only at this
          omega
      · have hbg : b ≠ gr := by rw [e] at k2; exact k2
        have hbl : b < W.heap.size := by have := (h.low _ k1).2; rw [e] at this; exact this
        exact ⟨b, oo, cs2, e, (hon.block b hbl hbg hb).trans k3, k4, k5⟩
  · refine List.pairwise_append.2 ⟨hka, hap.2, fun q hq s hs => .inl ?_⟩
    have := (hkb q hq).1
    have := hrb s hs
    omega
  · rw [List.length_append, hkl]; omega
  · rcases hc with hc | hc
    · exact h.free hc
    · omega
  · rcases hj with hj | hj
    · exact .inl hj
    · exact .inr (.inl hj.1)
theorem ofB_visits {w0 : World} {N M gr e0 : Nat} :
    VisitsT N M 24 #[.pointer (some ⟨gr, 0, none⟩)] #[] (fun k p X W => OfB w0 N M gr e0 k p X W ∧ N ≤ W.heap.size) (ZB w0 M e0) := by
  refine ⟨enters_of Tryd.func24 (by kernel_rfl) rfl, fun h j hj => (h.1.low j hj).2, fun h => h.1.few, fun h hk hb => ⟨h.1.stay (Nat.lt_of_lt_of_le h.1.e0N h.2) hk hb, Nat.le_trans h.2 hb.size⟩, fun {k r X W ad t1} h => ?_⟩
  obtain ⟨h, hN⟩ := h
  obtain ⟨hX, hpg, pb, o, cs, e, hcs, ho, h4⟩ := h.pend _ (List.mem_cons_self ..)
  have e : ad = ⟨pb, o, none⟩ := e
  subst e
  obtain ⟨L, hL1, hL2, hL3⟩ := h.rd
  have hfew := h.few
  have hkl := h.klen
  rw [List.length_cons] at hfew
  have hL1' : RdC W gr L ((r.length + 1 : Nat) : Int) := hL1
  by_cases hh : HeadAt ((r.length + 1 : Nat) : Int) L
  · obtain ⟨t, rest, eL, hg, hds, hkd, hd⟩ := hh
    have hc := read_ok (M := M) (rest := rest) (by rw [← eL]; exact hL1') hcs ho hpg h4 hg (by rw [← eL]; omega) hds hkd ⟨by omega, by omega⟩ hd h.lib (h.low gr h.own).1 (h.low pb hX).1 h.size
    refine Calls.mono hc ?_
    rintro e w' ⟨hu, hp⟩
    obtain ⟨k', X', K, c, n, q1, q2, q3, q4, q5, q6⟩ := ofB_step h hcs ho hg ⟨L, hL1', hL2, hL3, eL⟩ hd hp
    exact .inr ⟨hu, k', X', K, c, n, q1, ⟨q2, Nat.le_trans hN q6.size⟩, q3, q4, q5, q6⟩
  · have hc := read_bad (M := M) hh hL1' hcs ho hpg (by omega) ⟨by omega, by omega⟩ h.lib h.err (h.low gr h.own).1 (h.low pb hX).1 h.size
    exact Calls.mono hc fun e w' ht => .inl (h.thrown hX ht)
set_option maxRecDepth 100000 in
set_option maxHeartbeats 6400000 in
theorem of1_bad {W w0 : World} {M gr g0 rv e0 : Nat} {L : List UInt8} (hr : RdC W gr L 1) {zs : Array Value} (h0 : W.heap[g0]? = some (.cells zs 28 (0, 0))) (hz : ZeroKids zs 1) (hv : W.cell? ⟨rv, 0, none⟩ = some (.slice (some ⟨g0, 0, none⟩) 1 1)) (hne : g0 ≠ gr) (hMr : M ≤ gr) (hM0 : M ≤ g0) (hM : LibM M W) (hE : ErrM M W)
    (hno : ¬ Keys 1 L) (hl : L.length ≤ 1000000) (he0 : W.heap[e0]? = some (.cells #[.int .i64 0] 43 (0, 0))) (hf : e0 ≠ gr ∧ e0 ≠ g0) (hb : Below M w0 W) :
    Calls Tryd.prog 23 #[.pointer (some ⟨gr, 0, none⟩), .pointer (some ⟨rv, 0, none⟩)] W (Thrown (ZB w0 M e0)) := by
  have hgW : gr < W.heap.size := cell_lt hr.c0
  have h0W : g0 < W.heap.size := Own.lt.cell_lt' h0
  have heW : e0 < W.heap.size := Own.lt.cell_lt' he0
  have hS : OfB w0 W.heap.size M gr e0 L.length (kidsOf (some ⟨g0, 0, none⟩) (anyT 1)) (fun k => k = gr ∨ k = g0) W := by
    have hk : kidsOf (some ⟨g0, 0, none⟩) (anyT 1) = [(⟨g0, 0, none⟩, .mk 0 ⟨#[]⟩ false [] [])] := rfl
    rw [hk]
    refine ⟨fun k hk => ?_, .inl rfl, ⟨L, hr, rfl, hno⟩, hl, fun q hq => ?_, List.pairwise_singleton _ _, hM, hE, by omega, (by show 1 ≤ 1000000; decide), he0, fun h => ?_, heW, hb⟩
    · rcases hk with rfl | rfl
      · exact ⟨hMr, hgW⟩
      · exact ⟨hM0, h0W⟩
    · rw [List.mem_singleton.1 hq]
      exact ⟨.inr rfl, hne, g0, 0, _, rfl, h0, by have := hz.1; omega, hz.2 0 (by decide)⟩
    · rcases h with h | h
      · exact hf.1 h
      · exact hf.2 h
  have HE := hid (each_anyT (c := 1) (K := some ⟨g0, 0, none⟩) (n := 1) (X0 := fun k => k = gr ∨ k = g0) (ofB_visits (w0 := w0) (N := W.heap.size) (M := M) (gr := gr) (e0 := e0)) (by omega) ⟨hS, Nat.le_refl _⟩ (fun _ => ⟨_, rfl⟩))
  clear hr h0 hz hne hMr hM0 hM hE hno hl he0 hf hb hgW h0W heW hS
  go_enter Tryd.func23, Tryd.ntmps23
  go_wp2_with fail
  refine Calls.mono HE.out ?_
  rintro e w1 (⟨n, rfl, hz⟩ | ⟨⟨u, rfl⟩, k', X, ⟨hs, _⟩, hT, hb⟩)
  · have HZ := hid hz
    clear hz HE
    go_wp2
    exact ⟨rfl, n, rfl, HZ.out⟩
  obtain ⟨L', r1, r2, r3⟩ := hs.rd
  have hLne : L' ≠ [] := fun e => r3 ⟨[], rfl, (fun p hp => by rw [preL_nil] at hp; cases hp), by rw [e, preL_nil]; rfl⟩
  have HN := hid (end_bad hLne r1)
  have HS := hid hs
  clear hs hT hb r1 r2 r3 hLne HE
  go_wp2_with fail
  refine HN.out.mono ?_
  rintro e w2 ⟨n, rfl, hz⟩
  have HZ := hid (show ZB w0 M e0 n w2 from by
    have h1 := HS.out.low gr HS.out.own
    exact ⟨hz.1, (hz.2.block e0 (Own.lt.cell_lt' HS.out.var) (fun e => HS.out.free (e ▸ HS.out.own))).trans HS.out.var, HS.out.below.trans (hz.2.below h1.1 HS.out.size)⟩)
  clear hz HN
  go_wp2
  exact ⟨rfl, n, rfl, HZ.out⟩
set_option maxRecDepth 100000 in
set_option maxHeartbeats 6400000 in
theorem of_bad {w : World} {S : ByteArray} (hM : LibM w.heap.size w) (hE : ErrM w.heap.size w) (hS : S.size ≤ 1000000) (hno : ¬ ∃ t, IsKey S t) :
    Calls Tryd.prog 8 #[.string S] w fun e w' => e = .returned (.tuple #[.agg #[.int .u8 0, .string ⟨#[]⟩, .bool false, .slice none 0 0, .slice none 0 0], .bool false]) ∧ Below w.heap.size w w' := by
  have hno1 : ¬ Keys 1 S.data.toList := fun ⟨ts, hl, hg, e⟩ => hno (by
    obtain ⟨t, rfl⟩ := List.length_eq_one_iff.1 hl
    have e1 : preL [t] = preT t := by rw [preL_cons, preL_nil, List.append_nil, ← preT_eq]
    rw [e1] at hg e
    exact ⟨t, hg, by rw [← e]⟩)
  have hsl : S.data.toList.length ≤ 1000000 := by rw [Array.length_toList]; exact hS
  have hSe : S = ⟨S.data.toList.toArray⟩ := by cases S; simp
  have HH := hid (show _ ∧ _ ∧ _ ∧ _ ∧ _ from ⟨hM, hE, hno1, hsl, hSe⟩)
  clear hM hE hno hno1 hsl hSe hS
  go_enter Tryd.func8, Tryd.ntmps8
  obtain ⟨i0, hi, hz0, hz1, hz2⟩ := info_parts info_term
  obtain ⟨a0, a1, asz, ab⟩ := two_alloc w (.cells #[.int .u8 0, .string ⟨#[]⟩, .bool false, .slice none 0 0, .slice none 0 0] 28) (.cells #[.string S, .int .i64 1] 57)
  have HA := hid (show _ ∧ _ ∧ _ ∧ _ from ⟨a0, a1, asz, ab⟩)
  clear a0 a1 asz ab
  go_wp2_with (at_make; refine wpList_make_full _ rfl _ _ 26 rfl w.heap.size 28 i0 (.agg #[.int .u8 0, .string ⟨#[]⟩, .bool false, .slice none 0 0, .slice none 0 0]) 5 Tryd.underlying26 hi hz0 hz1 .i64 .i64 1 1 1 rfl rfl rfl rfl ?b2 ?b3 ?b4 ?_)
  case b3 => unfold maxLen; omega
  case b4 => omega
  intro w1 hown hgrow
  obtain ⟨a0, a1, asz, ab⟩ := HA.out
  obtain ⟨zs, hz, hzk⟩ := zero_kids (n := 1) hown (by decide)
  have hz : w1.heap[w.heap.size + 2]? = some (.cells zs 28 (0, 0)) := hz
  have hs1 : w.heap.size + 2 < w1.heap.size := Own.lt.cell_lt' hz
  have b0 : w1.heap[w.heap.size]? = some (.cells #[.int .u8 0, .string ⟨#[]⟩, .bool false, .slice none 0 0, .slice none 0 0] 28 (0, 0)) := (hgrow.block _ (by rw [asz]; omega) (fun e => by cases e)).trans a0
  have b1 : w1.heap[w.heap.size + 1]? = some (.cells #[.string S, .int .i64 1] 57 (0, 0)) := (hgrow.block _ (by rw [asz]; omega) (fun e => by cases e)).trans a1
  have bb : Below w.heap.size w w1 := ab.trans ⟨hgrow.os, hgrow.tape, hgrow.output, hgrow.size, fun k hk => hgrow.block k (by rw [asz]; omega) (fun e => by cases e)⟩
  have HB := hid (show _ ∧ _ ∧ _ ∧ _ ∧ _ ∧ _ from ⟨hz, hzk, b0, b1, bb, hs1⟩)
  clear hown hgrow a0 a1 asz ab hz hzk b0 b1 bb HA
  go_wp2_with fail
  obtain ⟨hz, hzk, b0, b1, bb, hs1⟩ := HB.out
  obtain ⟨c0, c1, csz, cb⟩ := two_alloc w1 (.cells #[.slice (some ⟨w.heap.size + 1 + 1, 0, none⟩) 1 1] 26) (.cells #[.int .i64 0] 43)
  have hB2 : Below w.heap.size w ((w1.alloc (.cells #[.slice (some ⟨w.heap.size + 1 + 1, 0, none⟩) 1 1] 26)).alloc (.cells #[.int .i64 0] 43)) := bb.trans (cb.mono (by omega))
  have hrd : RdC ((w1.alloc (.cells #[.slice (some ⟨w.heap.size + 1 + 1, 0, none⟩) 1 1] 26)).alloc (.cells #[.int .i64 0] 43)) (w.heap.size + 1) S.data.toList 1 := by
    refine (cb.block _ (by omega)).trans ?_
    rw [b1]
  have hr0 : ((w1.alloc (.cells #[.slice (some ⟨w.heap.size + 1 + 1, 0, none⟩) 1 1] 26)).alloc (.cells #[.int .i64 0] 43)).heap[w.heap.size]? = some (.cells #[.int .u8 0, .string ⟨#[]⟩, .bool false, .slice none 0 0, .slice none 0 0] 28 (0, 0)) := (cb.block _ (by omega)).trans b0
  have hO := of1_bad (M := w.heap.size + 1) (gr := w.heap.size + 1) (g0 := w.heap.size + 1 + 1) (rv := w1.heap.size) (e0 := w1.heap.size + 1) hrd ((cb.block _ (by omega)).trans hz) hzk (cell_one0 c0) (by omega) (by omega) (by omega) (HH.out.1.on hB2 (by omega)) (HH.out.2.1.on hB2 (by omega)) HH.out.2.2.1 HH.out.2.2.2.1 c1 ⟨by omega, by omega⟩ (Below.refl _ _)
  have hsz1 : (w1.alloc (.cells #[.slice (some ⟨w.heap.size + 1 + 1, 0, none⟩) 1 1] 26)).heap.size = w1.heap.size + 1 := World.size_alloc ..
  have HP := hid (stopped_any (w := w1.alloc (.cells #[.slice (some ⟨w.heap.size + 1 + 1, 0, none⟩) 1 1] 26)) (F := 23) (fs := #[]) (cs := #[.pointer (some ⟨w.heap.size + 1, 0, none⟩), .pointer (some ⟨w1.heap.size, 0, none⟩)]) (P := fun _ => False) (Z := ZB ((w1.alloc (.cells #[.slice (some ⟨w.heap.size + 1 + 1, 0, none⟩) 1 1] 26)).alloc (.cells #[.int .i64 0] 43)) (w.heap.size + 1) (w1.heap.size + 1)) (enters_of Tryd.func23 (by kernel_rfl) rfl) (hO.mono fun e w' h => .inl h) (fun w' h => by
    rw [hsz1]
    rcases h with h | ⟨n, h⟩
    · exact h.elim
    · exact h.2.1))
  rw [hsz1] at HP
  have HC := hid (show _ ∧ _ ∧ _ from ⟨hB2, hr0, hs1⟩)
  clear hz hzk b0 b1 bb hs1 c0 c1 csz cb hB2 hrd hO hsz1 hr0
  refine HP.out.mono ?_
  rintro e w3 (⟨n, w2, hz, rfl, rfl⟩ | ⟨_, w2, h, _⟩)
  · obtain ⟨rfl, hv, hb⟩ := hz
    have r0 : (w2.setCell ⟨w1.heap.size + 1, 0, none⟩ (.int .i64 20)).heap[w.heap.size]? = some (.cells #[.int .u8 0, .string ⟨#[]⟩, .bool false, .slice none 0 0, .slice none 0 0] 28 (0, 0)) := (Below.heap_setCell _ _ _ _ (by show w.heap.size ≠ w1.heap.size + 1; have := HC.out.2.2; omega)).trans ((hb.block _ (Nat.lt_succ_self _)).trans HC.out.2.1)
    have hbw : Below w.heap.size w (w2.setCell ⟨w1.heap.size + 1, 0, none⟩ (.int .i64 20)) := HC.out.1.trans ((Below.mono hb (by omega)).trans ⟨rfl, rfl, rfl, by simp, fun k hk => Below.heap_setCell _ _ _ _ (by show k ≠ w1.heap.size + 1; have := HC.out.2.2; omega)⟩)
    obtain ⟨w3, hw3⟩ : ∃ w3, w3 = w2.setCell ⟨w1.heap.size + 1, 0, none⟩ (.int .i64 20) := ⟨_, rfl⟩
    rw [← hw3] at r0 hbw ⊢
    have s0 : w3.cell? ⟨w.heap.size, 0, none⟩ = some (.int .u8 0) := cell_of_row w3 _ 0 _ _ _ r0
    have s1 : w3.cell? ⟨w.heap.size, 1, none⟩ = some (.string ⟨#[]⟩) := cell_of_row w3 _ 1 _ _ _ r0
    have s2 : w3.cell? ⟨w.heap.size, 2, none⟩ = some (.bool false) := cell_of_row w3 _ 2 _ _ _ r0
    have s3 : w3.cell? ⟨w.heap.size, 3, none⟩ = some (.slice none 0 0) := cell_of_row w3 _ 3 _ _ _ r0
    have s4 : w3.cell? ⟨w.heap.size, 4, none⟩ = some (.slice none 0 0) := cell_of_row w3 _ 4 _ _ _ r0
    have ff : ∀ o, w3.frozen? ⟨w.heap.size, o, none⟩ = false := fun o => by simp [World.frozen?, r0]
    have f0 := ff 0
    have f1 := ff 1
    have f2 := ff 2
    have f3 := ff 3
    have f4 := ff 4
    have HE := hid (show _ ∧ _ from ⟨r0, hbw⟩)
    clear hv hb hw3 r0 hbw ff HP HC HB
    go_wp2
    obtain ⟨wf, hwf⟩ : ∃ wf, wf = ((((w3.setCell ⟨w.heap.size, 0, none⟩ (.int .u8 0)).setCell ⟨w.heap.size, 1, none⟩ (.string ⟨#[]⟩)).setCell ⟨w.heap.size, 2, none⟩ (.bool false)).setCell ⟨w.heap.size, 3, none⟩ (.slice none 0 0)).setCell ⟨w.heap.size, 4, none⟩ (.slice none 0 0) := ⟨_, rfl⟩
    rw [← hwf]
    have q0 : wf.heap[w.heap.size]? = some (.cells #[.int .u8 0, .string ⟨#[]⟩, .bool false, .slice none 0 0, .slice none 0 0] 28 (0, 0)) := by rw [hwf]; exact five_set HE.out.1
    have hbf : Below w.heap.size w wf := HE.out.2.trans (by rw [hwf]; exact five_below (Nat.le_refl _) _ _ _ _ _ _)
    have t0 := cell_of_row wf w.heap.size 0 _ _ _ q0
    have t1 := cell_of_row wf w.heap.size 1 _ _ _ q0
    have t2 := cell_of_row wf w.heap.size 2 _ _ _ q0
    have t3 := cell_of_row wf w.heap.size 3 _ _ _ q0
    have t4 := cell_of_row wf w.heap.size 4 _ _ _ q0
    simp at t0 t1 t2 t3 t4
    exact bodyPost_ret (v := .tuple #[.agg #[.int .u8 0, .string ⟨#[]⟩, .bool false, .slice none 0 0, .slice none 0 0], .bool false]) (by simp [results, Tryd.results8, go_sem, t0, t1, t2, t3, t4]) rfl ⟨rfl, hbf⟩
  · exact h.elim
end Go.Proofs.YtdkgpnkcdnfniaaDoor

namespace Go.Proofs.YtdkgpnkcdnfniaaDoor
open Go.RowKit Go.Lib

theorem pre_wt : ∀ (n : Nat) {l : List Tm}, (preL l).length ≤ n → ∀ p ∈ preL l, wtT p ≤ wtL l
  | _, [], _, p, hp => by rw [preL_nil] at hp; cases hp
  | 0, t :: l, h, _, _ => by rw [preL_cons] at h; simp at h
  | n + 1, t :: l, h, p, hp => by
    rw [preL_cons] at h hp
    simp at h
    rw [wtL_cons]
    rcases List.mem_cons.1 hp with rfl | hp
    · omega
    · rcases List.mem_append.1 hp with hp | hp
      · have h1 := pre_wt n (l := t.kids) (by omega) p hp
        have h2 := wtT_eq t
        omega
      · have h1 := pre_wt n (l := l) (by omega) p hp
        omega
theorem preL_oneK (t : Tm) : preL [t] = preT t := by rw [preL_cons, preL_nil, List.append_nil, preT_eq]
theorem wtL_oneK (t : Tm) : wtL [t] = wtT t := by rw [wtL_cons, wtL_nil, Nat.add_zero]
theorem dec_three {u : Nat} (h : u < 256) : (decDigits u).length ≤ 3 := by
  rw [decDigits_length]
  by_cases h1 : u < 10
  · rw [nDigits_small h1]; omega
  · rw [nDigits_big h1]
    by_cases h2 : u / 10 < 10
    · rw [nDigits_small h2]; omega
    · rw [nDigits_big h2, nDigits_small (by omega)]; omega
theorem headK_top {t : Tm} (h : Good t) : (headK t).length ≤ 56 + 8 * (t.name.size / 8) + 21 * t.ds.length := by
  have h1 := dec_three (u := t.kind.toNat) (by have := h.kind; omega)
  have h2 := dec_len (u := t.name.size) (by have := h.name; omega)
  have h3 := dec_len (u := t.kids.length) (by have := h.kl; omega)
  have h4 := digsK_len h.ds
  have h5 : (if t.neg then [(45 : UInt8)] else []).length ≤ 1 := by split <;> decide
  have h6 : t.name.data.toList.length = t.name.size := Array.length_toList
  unfold headK
  simp only [List.length_append, List.length_cons, List.length_nil, h6]
  omega
theorem keyK_top : ∀ (n : Nat) {l : List Tm}, (preL l).length ≤ n → (∀ p ∈ preL l, Good p) → (keyK (preL l)).length ≤ 56 * wtL l
  | _, [], _, _ => by rw [preL_nil]; exact Nat.zero_le _
  | 0, t :: l, hn, _ => by rw [preL_cons] at hn; simp at hn
  | n + 1, t :: l, hn, h => by
    rw [preL_cons] at hn h ⊢
    simp at hn
    have h1 := headK_top (h t (List.mem_cons_self ..))
    have h2 := keyK_top n (l := t.kids ++ l) (by rw [preL_append]; simp; omega) (by rw [preL_append]; exact fun p hp => h p (List.mem_cons_of_mem _ hp))
    rw [keyK, List.flatMap_cons, List.length_append, ← preL_append]
    rw [wtL_append] at h2
    rw [wtL_cons, wtT_eq]
    unfold keyK at h2
    omega
theorem digsK_low : ∀ (ds : List Nat), 2 * ds.length ≤ (digsK ds).length
  | [] => Nat.le_refl _
  | d :: ds => by
    have h1 := digsK_low ds
    have h2 : 1 ≤ (decDigits d).length := by
      have := dec_ne d
      rcases hd : decDigits d with _ | _
      · exact absurd hd this
      · simp
    unfold digsK
    simp
    omega
theorem headK_low (t : Tm) : 8 + t.name.size + 2 * t.ds.length ≤ (headK t).length := by
  have h : ∀ u, 1 ≤ (decDigits u).length := fun u => by
    have := dec_ne u
    rcases hd : decDigits u with _ | _
    · exact absurd hd this
    · simp
  have h1 := h t.kind.toNat
  have h2 := h t.name.size
  have h3 := h t.kids.length
  have h4 := digsK_low t.ds
  have h6 : t.name.data.toList.length = t.name.size := Array.length_toList
  unfold headK
  simp only [List.length_append, List.length_cons, List.length_nil, h6]
  omega
theorem keyK_low : ∀ (n : Nat) {l : List Tm}, (preL l).length ≤ n → 2 * wtL l ≤ (keyK (preL l)).length
  | _, [], _ => by rw [wtL_nil]; exact Nat.zero_le _
  | 0, t :: l, hn => by rw [preL_cons] at hn; simp at hn
  | n + 1, t :: l, hn => by
    rw [preL_cons] at hn ⊢
    simp at hn
    have h1 := headK_low t
    have h2 := keyK_low n (l := t.kids ++ l) (by rw [preL_append]; simp; omega)
    rw [keyK, List.flatMap_cons, List.length_append, ← preL_append]
    rw [wtL_append] at h2
    rw [wtL_cons, wtT_eq]
    unfold keyK at h2
    omega
theorem keyK_lowT (t : Tm) : 2 * wtT t ≤ (keyK (preT t)).length := by
  have := keyK_low _ (l := [t]) (Nat.le_refl _)
  rw [preL_oneK, wtL_oneK] at this
  exact this
theorem keyK_topT {t : Tm} (h : ∀ p ∈ preT t, Good p) (hw : wtT t ≤ 3000) : (keyK (preT t)).length ≤ 168000 := by
  have := keyK_top _ (l := [t]) (Nat.le_refl _) (by rw [preL_oneK]; exact h)
  rw [preL_oneK, wtL_oneK] at this
  omega
theorem IsKey.low {S : ByteArray} {t : Tm} (h : IsKey S t) : 2 * wtT t ≤ S.size := by
  have h1 := keyK_lowT t
  have h2 : S.size = (keyK (preT t)).length := by rw [h.2]; rfl
  omega
theorem IsKey.same {S : ByteArray} {a b : Tm} (ha : IsKey S a) (hb : IsKey S b) : a = b := by
  have e0 : keyK (preT a) = keyK (preT b) := by
    have e := ha.2.symm.trans hb.2
    injection e with e
    injection e with e
  have e := keys_cut (preL [a]).length (a := [a]) (b := [b]) (r := []) (r' := []) (Nat.le_refl _) rfl (by rw [preL_oneK]; exact fun p hp => (ha.1 p hp).kind.1) (by rw [preL_oneK]; exact fun p hp => (hb.1 p hp).kind.1) (by rw [preL_oneK, preL_oneK, e0])
  injection e.1
theorem parts_few {t : Tm} {n : Nat} (h : wtT t ≤ n) : ∀ p ∈ preT t, p.ds.length ≤ n ∧ p.kids.length ≤ n := fun p hp => by
  have h2 : wtT p ≤ n := by
    have := pre_wt _ (l := [t]) (Nat.le_refl _) p (by rw [preL_oneK]; exact hp)
    rw [wtL_oneK] at this
    omega
  have h3 := wtT_eq p
  have h4 := preL_len p.kids
  have h5 := preL_wt _ (l := p.kids) (Nat.le_refl _)
  omega
/-- What an Of gives: the term t, and whether there is one. -/
def OfR (r : Bool) (t : Tm) (W : World) (e : Ending) (W' : World) : Prop := ∃ A K c c', e = .returned (.tuple #[.agg #[.int .u8 t.kind, .string t.name, .bool t.neg, .slice A t.ds.length c, .slice K t.kids.length c'], .bool r]) ∧ TmV W' (.agg #[.int .u8 t.kind, .string t.name, .bool t.neg, .slice A t.ds.length c, .slice K t.kids.length c']) t ∧ Below W.heap.size W W'
theorem zero_tm (W : World) : TmV W (.agg #[.int .u8 0, .string ⟨#[]⟩, .bool false, .slice none 0 0, .slice none 0 0]) (.mk 0 ⟨#[]⟩ false [] []) :=
  .mk 0 ⟨#[]⟩ false [] [] none none 0 0 (fun _ _ => undef) rfl (Nat.zero_le _) (fun j x hx => by simp [u32s] at hx) (fun x hx => by cases hx) (Nat.zero_le _) (Nat.zero_le _) (fun j hj => absurd hj (Nat.not_lt_zero _)) (fun j kid hj => by simp at hj)
/-- Both Ofs, of one text. -/
structure OfsTell (S : ByteArray) (r : Bool) (t : Tm) : Prop where
  wt : wtT t ≤ 100000
  prog : ∀ W, LibM W.heap.size W → ErrM W.heap.size W → Calls Tryd.prog 8 #[.string S] W (OfR r t W)
  ans : ∀ W, TabM W.heap.size W → Calls Tryd.prog 9 #[.string S] W (OfR r t W)
theorem ofs_tell {S : ByteArray} (hS : S.size ≤ 180000) : ∃ r t, OfsTell S r t := by
  by_cases h : ∃ t, IsKey S t
  · obtain ⟨t, ht⟩ := h
    have h1 := ht.low
    refine ⟨true, t, by omega, fun W hM hE => ?_, fun W hT => ?_⟩
    · have h2 : S.size = (keyK (preT t)).length := by rw [ht.2]; rfl
      have h3 := parts_few (t := t) (n := 1000000) (by omega)
      have hc := of_ok (w := W) (t := t) hM (fun p hp => ⟨ht.1 p hp, h3 p hp⟩) (by omega)
      rw [← ht.2] at hc
      refine hc.mono ?_
      rintro e w' ⟨x0, x1, x2, x3, x4, rfl, ht', hb'⟩
      obtain ⟨A, K, c, c', e⟩ := ht'.five
      simp only [Value.agg.injEq, Array.mk.injEq, List.cons.injEq, and_true] at e
      obtain ⟨rfl, rfl, rfl, rfl, rfl⟩ := e
      exact ⟨A, K, c, c', rfl, ht', hb'⟩
    · refine (ofR_ok (w := W) (S := S) (by omega) hT).mono ?_
      rintro e w' ⟨hb, ⟨t', A, K, c, c', hk, rfl, ht'⟩ | ⟨hno, _⟩⟩
      · have e := hk.same ht
        subst e
        exact ⟨A, K, c, c', rfl, ht', hb⟩
      · exact absurd ⟨t, ht⟩ hno
  · refine ⟨false, .mk 0 ⟨#[]⟩ false [] [], by decide, fun W hM hE => ?_, fun W hT => ?_⟩
    · refine (of_bad hM hE (by omega) h).mono ?_
      rintro e w' ⟨rfl, hb⟩
      exact ⟨none, none, 0, 0, rfl, zero_tm _, hb⟩
    · refine (ofR_ok (w := W) (S := S) (by omega) hT).mono ?_
      rintro e w' ⟨hb, ⟨t', A, K, c, c', hk, rfl, ht'⟩ | ⟨hno, rfl⟩⟩
      · exact absurd ⟨t', hk⟩ h
      · exact ⟨none, none, 0, 0, rfl, zero_tm _, hb⟩
theorem same_backK {W : World} {v1 v2 : Value} {a : Tm} (hw : wtT a ≤ 100000) (h1 : TmV W v1 a) (h2 : TmV W v2 a) : Calls Tryd.prog 10 #[v1, v2] W fun e w' => e = .returned (.bool true) ∧ Below W.heap.size W w' := by
  obtain ⟨r, hr, hC⟩ := sameTm 100000 a a hw (by omega)
  have : r = true := hr.2 rfl
  subst this
  exact hC W v1 v2 h1 h2
set_option maxRecDepth 100000 in
set_option maxHeartbeats 3200000 in
theorem pick_ok {a : Int} {n : Nat} (ha : -9223372036854775808 ≤ a ∧ a < 9223372036854775808) (hn : 0 < n) (hn2 : n < 9223372036854775808) : ∃ r : Nat, r < n ∧ ∀ w, Calls Tryd.prog 7 #[.int .i64 a, .int .i64 (n : Int)] w fun e w' => e = .returned (.int .i64 (r : Int)) ∧ w' = w := by
  obtain ⟨m, hm⟩ : ∃ m, m = a.tmod (n : Int) := ⟨_, rfl⟩
  have hb1 : m < n := by rw [hm]; exact Int.tmod_lt_of_pos _ (by omega)
  have hb2 : -(n : Int) < m := by
    rw [hm]
    have h1 := Int.tmod_lt_of_pos (-a) (b := (n : Int)) (by omega)
    rw [Int.neg_tmod] at h1
    omega
  have hp1 : decide ((n : Int) < 1) = false := decide_eq_false (by omega)
  have hn0 : ¬ (n : Int) = 0 := by omega
  by_cases hlt : m < 0
  · refine ⟨(m + n).toNat, by omega, fun w => ?_⟩
    have e1 : ((m + n).toNat : Int) = m + n := by omega
    rw [e1]
    have hd : decide (m < 0) = true := decide_eq_true hlt
    have hw1 : IntKind.i64.wrap (a.tmod (n : Int)) = m := by rw [← hm, IntKind.wrap_i64]; omega
    have hw2 : IntKind.i64.wrap (m + n) = m + n := by rw [IntKind.wrap_i64]; omega
    go_enter Tryd.func7, Tryd.ntmps7
    go_wp2
    go_ret
    exact ⟨by rw [hm]; rfl, rfl⟩
  · refine ⟨m.toNat, by omega, fun w => ?_⟩
    have e1 : ((m.toNat : Nat) : Int) = m := by omega
    rw [e1]
    have hd : decide (m < 0) = false := decide_eq_false hlt
    have hw1 : IntKind.i64.wrap (a.tmod (n : Int)) = m := by rw [← hm, IntKind.wrap_i64]; omega
    go_enter Tryd.func7, Tryd.ntmps7
    go_wp2
    go_ret
    exact ⟨by first | rfl | (rw [hm]; rfl), rfl⟩
end Go.Proofs.YtdkgpnkcdnfniaaDoor

namespace Go.Proofs.YtdkgpnkcdnfniaaDoor
open Go.RowKit Go.Lib

set_option maxRecDepth 100000 in
set_option maxHeartbeats 6400000 in
theorem termReads_ok {w : World} {s : ByteArray} {u0 u1 u2 u3 u4 : Value} {t : Tm} {a b : Int} (hl : LibM w.heap.size w) (hE : ErrM w.heap.size w) (ht : TmV w (.agg #[u0, u1, u2, u3, u4]) t) (ha : -9223372036854775808 ≤ a ∧ a < 9223372036854775808) (hb : 0 ≤ b ∧ b < 256) :
    Calls Tryd.prog 3 #[.string s, .agg #[u0, u1, u2, u3, u4], .int .i64 a, .int .u8 b] w fun e w' => e = .returned (.bool true) ∧ Below w.heap.size w w' := by
  have z0 := heap_alloc_new w (.cells #[u0, u1, u2, u3, u4] 28)
  have zs : (w.alloc (.cells #[u0, u1, u2, u3, u4] 28)).heap.size = w.heap.size + 1 := World.size_alloc ..
  have zb : Below w.heap.size w (w.alloc (.cells #[u0, u1, u2, u3, u4] 28)) := (Below.refl _ _).alloc (Nat.le_refl _) _
  have HH := hid (show _ ∧ _ ∧ _ ∧ _ ∧ _ from ⟨hl, hE, ht, ha, hb⟩)
  obtain ⟨w1, hw1⟩ : ∃ w1, w1 = w.alloc (.cells #[u0, u1, u2, u3, u4] 28) := ⟨_, rfl⟩
  rw [← hw1] at z0 zs zb
  have HK := hid (show ∀ w' : World, Below w1.heap.size w1 w' → w'.cell? ⟨w.heap.size, 0, none⟩ = some u0 ∧ w'.cell? ⟨w.heap.size, 1, none⟩ = some u1 ∧ w'.cell? ⟨w.heap.size, 2, none⟩ = some u2 ∧ w'.cell? ⟨w.heap.size, 3, none⟩ = some u3 ∧ w'.cell? ⟨w.heap.size, 4, none⟩ = some u4 from fun w' hb' => by
    have p0 := (hb'.block _ (Own.lt.cell_lt' z0)).trans z0
    exact ⟨cell_blk p0, cell_blk p0, cell_blk p0, cell_blk p0, cell_blk p0⟩)
  have HB := hid zb
  have HW := hid hw1
  have HZ := hid zs
  clear hl hE ht ha hb z0 zs zb
  obtain ⟨g, hg⟩ : ∃ g, g = decide (3000 < wtL [t]) := ⟨_, rfl⟩
  have HG := hid (great_any (Kd := none) (cd := 0) (c := 1) (tms_one (w := w1) (HH.out.2.2.1.bel HB.out)) (by simp))
  rw [← hg, HZ.out] at HG
  have Hg := hid hg
  clear hg
  obtain ⟨c0, c1, c2, c3, c4⟩ := HK.out w1 (Below.refl _ _)
  rw [hw1] at c0 c1 c2 c3 c4
  clear hw1
  go_enter Tryd.func3, Tryd.ntmps3
  go_wp2_with fail
  rw [← HW.out]
  refine HG.out.mono ?_
  rintro e w2 ⟨rfl, hb2⟩
  have HB2 := hid (show Below w1.heap.size w1 w2 from bstep (bal (Below.refl _ _) _) hb2)
  have HBW := hid (show Below w.heap.size w w2 from HB.out.trans (HB2.out.mono HB.out.size))
  have HAW := hid (awake4_ok (w := w2) (HH.out.1.2.on HBW.out HBW.out.size))
  clear hb2 HG c0 c1 c2 c3 c4
  cases g with
  | true =>
    clear HK Hg HB2 HB HW HZ
    go_wp2_with fail
    refine HAW.out.mono ?_
    rintro e w3 ⟨rfl, hb3⟩
    have HE := hid (HBW.out.trans (hb3.mono HBW.out.size))
    clear hb3 HAW HBW HH
    go_wp2
    go_returns
    exact ⟨rfl, HE.out⟩
  | false =>
    by_cases hlen : 3000 < s.size
    · have hd : decide ((3000 : Int) < (s.size : Int)) = true := decide_eq_true (by omega)
      have HL := hid hlen
      clear hlen HK Hg HB2 HB HW HZ
      go_wp2_with fail
      refine HAW.out.mono ?_
      rintro e w3 ⟨rfl, hb3⟩
      have HE := hid (HBW.out.trans (hb3.mono HBW.out.size))
      clear hb3 HAW HBW HH
      go_wp2
      go_returns
      exact ⟨rfl, HE.out⟩
    · have hd : decide ((3000 : Int) < (s.size : Int)) = false := decide_eq_false (by omega)
      have hw : wtT t ≤ 3000 := by
        have := of_decide_eq_false Hg.out.symm
        rw [wtL_oneK] at this
        omega
      have ht2 := HH.out.2.2.1.bel HBW.out
      have hkt := keyK_topT ht2.good hw
      have hkl := headK_low t
      have hkl2 : (headK t).length ≤ (keyK (preT t)).length := by
        rw [preT_eq, keyK, List.flatMap_cons, List.length_append]; omega
      obtain ⟨K, hK⟩ : ∃ K : ByteArray, K = ⟨(keyK (preT t)).toArray⟩ := ⟨_, rfl⟩
      have hKs : K.size = (keyK (preT t)).length := by rw [hK]; rfl
      have HC := hid (key_any (w := w2) ht2 (by omega) (HH.out.1.2.on HBW.out HBW.out.size))
      rw [← hK] at HC
      have HS := hid (show s.size ≤ 3000 ∧ 8 ≤ K.size ∧ K.size ≤ 168000 from ⟨by omega, by omega, by omega⟩)
      clear hlen hw ht2 hkt hkl hkl2 hK hKs Hg HAW
      obtain ⟨c0, c1, c2, c3, c4⟩ := HK.out w2 HB2.out
      go_wp2_with fail
      refine HC.out.mono ?_
      rintro e w3 ⟨rfl, hb3⟩
      have HB3 := hid (show Below w.heap.size w w3 from HBW.out.trans (hb3.mono HBW.out.size))
      clear hb3 HC c0 c1 c2 c3 c4 HBW HB2 HK HB HW HZ hd
      have hcv := Go.Lib.run_convert_string_bytes (P := Tryd.prog) w3 9 32 5 K (u := .string) Tryd.underlying9 Tryd.underlying32 Tryd.underlying5
      have hcell := bytesWorld_at_new w3 5 K
      obtain ⟨w4, hw4⟩ : ∃ w4, w4 = bytesWorld w3 5 K := ⟨_, rfl⟩
      have hb4 := bytesWorld_below w3 5 K
      rw [← hw4] at hcv hcell hb4
      obtain ⟨bc, hbc⟩ : ∃ bc, bc = bytesCells w3 5 K := ⟨_, rfl⟩
      rw [← hbc] at hcell
      obtain ⟨r, hr, hP⟩ := pick_ok (a := a) (n := K.size) HH.out.2.2.2.1 (by have := HS.out; omega) (by have := HS.out; omega)
      have HP := hid hP
      have hk0 : decide ((K.size : Int) = 0) = false := decide_eq_false (by have := HS.out; omega)
      have hk0' : ((K.size : Int) == 0) = false := beq_eq_false_iff_ne.2 (by have := HS.out; omega)
      have H4 := hid (show _ ∧ _ ∧ _ from ⟨hw4, hcell, hbc⟩)
      have HB4 := hid (show Below w.heap.size w w4 from HB3.out.trans (hb4.mono HB3.out.size))
      clear hw4 hcell hbc hb4 hP
      go_wp2_with fail
      refine (HP.out _).mono ?_
      rintro e w5 ⟨rfl, rfl⟩
      obtain ⟨kb, hkb⟩ : ∃ kb : UInt8, kb = K.data.toList.getD r 0 := ⟨_, rfl⟩
      have hc5 : w5.cell? ⟨w3.heap.size, r, none⟩ = some (.int .u8 (kb.toNat : Int)) := by
        rw [hkb, H4.out.1]
        exact bytesWorld_cell w3 5 K r hr
      have hkb256 : kb.toNat < 256 := kb.toNat_lt
      have hbcs : K.size ≤ bc.size := by
        rw [H4.out.2.2]
        unfold bytesCells
        rw [Array.size_append, Array.size_map]
        exact Nat.le_add_right _ _
      have hfz : w5.frozen? ⟨w3.heap.size, r, none⟩ = false := by
        simp [World.frozen?, H4.out.2.1]
        omega
      have hri : (r : Int) < (K.size : Int) := by omega
      have hx0 := bits_lo_u8 .xor (kb.toNat : Int) b
      have hx1 := bits_hi_u8 .xor (kb.toNat : Int) b
      have H5 := hid (show _ ∧ _ from ⟨hkb, hbcs⟩)
      clear HP hk0 hk0' hcv hkb hbcs
      obtain ⟨xb, hxb⟩ : ∃ xb : UInt8, (xb.toNat : Int) = bits .xor .u8 (kb.toNat : Int) b := ⟨UInt8.ofNat (bits .xor .u8 (kb.toNat : Int) b).toNat, by
        have h : (bits .xor .u8 (kb.toNat : Int) b).toNat < 256 := by omega
        rw [UInt8.toNat_ofNat_of_lt' h]
        omega⟩
      obtain ⟨w6, hw6⟩ : ∃ w6, w6 = w5.setCell ⟨w3.heap.size, r, none⟩ (.int .u8 (xb.toNat : Int)) := ⟨_, rfl⟩
      have HB6 := hid (show Below w.heap.size w w6 from by
        rw [hw6]
        exact HB4.out.trans (below_set HB3.out.size _ _))
      obtain ⟨l2, hl2⟩ : ∃ l2, l2 = K.data.toList.set r xb := ⟨_, rfl⟩
      have hl2n : l2.length = K.size := by rw [hl2, List.length_set, Array.length_toList]; rfl
      have hcs6 : ∀ j (hj : j < l2.length), w6.cell? (Addr.add ⟨w3.heap.size, 0, none⟩ j) = some (.int .u8 (l2[j].toNat : Int)) := fun j hj => by
        have hjk : j < K.size := by omega
        rw [add_eq]
        show w6.cell? ⟨w3.heap.size, 0 + j, none⟩ = _
        rw [Nat.zero_add]
        subst hl2
        by_cases e : j = r
        · subst e
          rw [hw6, World.cell?_setCell_same _ _ _ hc5]
          simp
        · rw [hw6, World.cell?_setCell_other _ _ _ _ (fun h => e (by injection h with _ h; exact h.symm)), H4.out.1, bytesWorld_cell w3 5 K j hjk]
          rw [List.getElem_set_ne (fun h => e h.symm)]
          rw [List.getD_eq_getElem?_getD, List.getElem?_eq_getElem (by rw [Array.length_toList]; exact hjk)]
          rfl
      have hcv2 := fun (c : Nat) (wx : World) (hwx : wx.heap = w6.heap) => run_convert_bytes_back (P := Tryd.prog) wx 32 9 5 ⟨w3.heap.size, 0, none⟩ c l2 Tryd.underlying32 Tryd.underlying5 Tryd.underlying9 (fun j hj => (by unfold World.cell?; rw [hwx] : wx.cell? (Addr.add ⟨w3.heap.size, 0, none⟩ j) = w6.cell? (Addr.add ⟨w3.heap.size, 0, none⟩ j)).trans (hcs6 j hj))
      rw [hl2n] at hcv2
      obtain ⟨S2, hS2⟩ : ∃ S2 : ByteArray, S2 = ⟨l2.toArray⟩ := ⟨_, rfl⟩
      have hS2s : S2.size = K.size := by rw [hS2]; exact hl2n
      rw [← hS2] at hcv2
      go_wp2_with fail
      rw [← hxb, ← hw6]
      have hadd : ¬ 9223372036854775807 < K.size + s.size := by have := HS.out; omega
      clear hc5 hfz hx0 hx1 hkb256 hxb hw6 hl2 hl2n hcs6 hS2
      have hcv3 : ∀ c, (convert 32 9 (.slice (some ⟨w3.heap.size, 0, none⟩) K.size c)).run Tryd.prog w6.drew = .ok (.string S2) w6.drew := fun c => hcv2 c w6.drew rfl
      have HB7 := hid (HB6.out.drew)
      refine wp_region_still_tail 10 (by kernel_rfl) (by kernel_rfl) ?_
      simp only [List.take_succ_cons, List.take_zero, List.drop_succ_cons, List.drop_zero]
      change wpStill _ _ w6.drew (fun a' => wpList _ _ _ _ a' w6.drew) _ _
      generalize w6.drew = w7 at hcv3 HB7 ⊢
      clear hcv2
      have hr1 : (r : Int) ≤ (K.size : Int) := by omega
      have hr2 : ¬ (K.size : Int) < (r : Int) := by omega
      have hr3 : r ≤ K.size := by omega
      have hr4 : ¬ K.size < r := by omega
      repeat still_step
      refine wpStill_nil ?_
      clear hcv3 hr1 hr2 hr4 hri hadd
      go_wp2_with fail
      obtain ⟨S3, hS3⟩ : ∃ S3 : ByteArray, S3 = K.extract 0 r := ⟨_, rfl⟩
      have hS3s : S3.size ≤ 180000 := by
        rw [hS3, ByteArray.size_extract]
        have := HS.out
        omega
      obtain ⟨S4, hS4⟩ : ∃ S4 : ByteArray, S4 = K ++ s := ⟨_, rfl⟩
      have hS4s : S4.size ≤ 180000 := by
        rw [hS4, ByteArray.size_append]
        have := HS.out
        omega
      rw [← hS3, ← hS4]
      obtain ⟨w8, hw8⟩ : ∃ w8, w8 = w7.alloc (.cells #[.string s, .string K, .string S2, .string S3, .string S4] 9) := ⟨_, rfl⟩
      have q8 := heap_alloc_new w7 (.cells #[.string s, .string K, .string S2, .string S3, .string S4] 9)
      rw [← hw8] at q8 ⊢
      have HB8 := hid (show Below w.heap.size w w8 from HB7.out.trans (by rw [hw8]; exact (Below.refl _ _).alloc HB7.out.size _))
      have HT := hid (show ∀ i, i < 5 → ∃ S ro tr, (∀ wr, Below w8.heap.size w8 wr → wr.cell? ⟨w7.heap.size, i, none⟩ = some (.string S)) ∧ OfsTell S ro tr from fun i hi => by
        have hk := HS.out
        have go : ∀ S : ByteArray, S.size ≤ 180000 → w8.cell? ⟨w7.heap.size, i, none⟩ = some (.string S) → ∃ S ro tr, (∀ wr, Below w8.heap.size w8 wr → wr.cell? ⟨w7.heap.size, i, none⟩ = some (.string S)) ∧ OfsTell S ro tr := fun S hS hc => by
          obtain ⟨ro, tr, ho⟩ := ofs_tell hS
          exact ⟨S, ro, tr, fun wr hb => (hb.cell (cell_lt hc)).trans hc, ho⟩
        match i, hi with
        | 0, _ => exact go s (by omega) (cell_blk q8)
        | 1, _ => exact go K (by omega) (cell_blk q8)
        | 2, _ => exact go S2 (by omega) (cell_blk q8)
        | 3, _ => exact go S3 hS3s (cell_blk q8)
        | 4, _ => exact go S4 hS4s (cell_blk q8))
      clear hw8 q8 hS4 hS3 hS4s hS3s hS2s hr3 HB7 HB6 HB4 HB3 H4 H5 hr
      go_loopw [13] (fun iv wr => ∃ i : Nat, i ≤ 5 ∧ iv = .int .i64 i ∧ Hid (Below w8.heap.size w8 wr)) (fun iv _ => 5 - (RowKit.intOf iv).toNat)
      case atStart => exact ⟨0, by omega, rfl, hid (Below.refl _ _)⟩
      case round =>
        obtain ⟨i, hi, rfl, HR⟩ := hrel
        by_cases h5 : i < 5
        · obtain ⟨S, ro, tr, hS, hO⟩ := HT.out i h5
          have hc := hS wr HR.out
          have HO := hid (show _ ∧ _ from ⟨hS, hO⟩)
          have hbr := HB8.out.trans (HR.out.mono HB8.out.size)
          have hi5 : (i : Int) < 5 := by omega
          have HP := hid (hO.prog wr (HH.out.1.on hbr hbr.size) (HH.out.2.1.on hbr hbr.size))
          clear hS hO hbr
          go_wp2_with fail
          refine HP.out.mono ?_
          rintro e w9 ⟨A, C, c, c', rfl, ht9, hb9⟩
          have H9 := hid (show TmV w9 (.agg #[.int .u8 tr.kind, .string tr.name, .bool tr.neg, .slice A tr.ds.length c, .slice C tr.kids.length c']) tr ∧ Below w8.heap.size w8 w9 from ⟨ht9, bstep HR.out hb9⟩)
          clear ht9 hb9 HP hc
          obtain ⟨w10, hw10⟩ : ∃ w10, w10 = w9.alloc (.cells #[.int .u8 tr.kind, .string tr.name, .bool tr.neg, .slice A tr.ds.length c, .slice C tr.kids.length c'] 28) := ⟨_, rfl⟩
          have q10 := heap_alloc_new w9 (.cells #[.int .u8 tr.kind, .string tr.name, .bool tr.neg, .slice A tr.ds.length c, .slice C tr.kids.length c'] 28)
          rw [← hw10] at q10
          have hb10 : Below w8.heap.size w8 w10 := by rw [hw10]; exact bal H9.out.2 _
          have hc10 := HO.out.1 w10 hb10
          have hbr := HB8.out.trans (hb10.mono HB8.out.size)
          have HQ := hid (HO.out.2.ans w10 (HH.out.1.2.on hbr hbr.size))
          have H10 := hid (show TmV w10 (.agg #[.int .u8 tr.kind, .string tr.name, .bool tr.neg, .slice A tr.ds.length c, .slice C tr.kids.length c']) tr ∧ Below w8.heap.size w8 w10 ∧ _ ∧ w10 = _ from ⟨by rw [hw10]; exact H9.out.1.alloc _, hb10, q10, hw10⟩)
          rw [hw10] at hc10
          clear hw10 q10 hb10 hbr H9
          go_wp2_with fail
          rw [← H10.out.2.2.2]
          refine HQ.out.mono ?_
          rintro e w11 ⟨A2, C2, c2, d2, rfl, ht11, hb11⟩
          obtain ⟨w12, hw12⟩ : ∃ w12, w12 = w11.alloc (.cells #[.int .u8 tr.kind, .string tr.name, .bool tr.neg, .slice A2 tr.ds.length c2, .slice C2 tr.kids.length d2] 28) := ⟨_, rfl⟩
          have q12 := heap_alloc_new w11 (.cells #[.int .u8 tr.kind, .string tr.name, .bool tr.neg, .slice A2 tr.ds.length c2, .slice C2 tr.kids.length d2] 28)
          rw [← hw12] at q12
          have hb12 : Below w10.heap.size w10 w12 := by rw [hw12]; exact bal hb11 _
          have q9 := (hb12.block _ (Own.lt.cell_lt' H10.out.2.2.1)).trans H10.out.2.2.1
          have x0 : w12.cell? ⟨w9.heap.size, 0, none⟩ = some (.int .u8 tr.kind) := cell_blk q9
          have x1 : w12.cell? ⟨w9.heap.size, 1, none⟩ = some (.string tr.name) := cell_blk q9
          have x2 : w12.cell? ⟨w9.heap.size, 2, none⟩ = some (.bool tr.neg) := cell_blk q9
          have x3 : w12.cell? ⟨w9.heap.size, 3, none⟩ = some (.slice A tr.ds.length c) := cell_blk q9
          have x4 : w12.cell? ⟨w9.heap.size, 4, none⟩ = some (.slice C tr.kids.length c') := cell_blk q9
          have y0 : w12.cell? ⟨w11.heap.size, 0, none⟩ = some (.int .u8 tr.kind) := cell_blk q12
          have y1 : w12.cell? ⟨w11.heap.size, 1, none⟩ = some (.string tr.name) := cell_blk q12
          have y2 : w12.cell? ⟨w11.heap.size, 2, none⟩ = some (.bool tr.neg) := cell_blk q12
          have y3 : w12.cell? ⟨w11.heap.size, 3, none⟩ = some (.slice A2 tr.ds.length c2) := cell_blk q12
          have y4 : w12.cell? ⟨w11.heap.size, 4, none⟩ = some (.slice C2 tr.kids.length d2) := cell_blk q12
          have HM := hid (same_backK (W := w12) HO.out.2.wt (H10.out.1.bel hb12) (by rw [hw12]; exact ht11.alloc _))
          have H12 := hid (show Below w8.heap.size w8 w12 ∧ w12 = _ ∧ i < 5 from ⟨H10.out.2.1.trans (hb12.mono H10.out.2.1.size), hw12, h5⟩)
          rw [hw12] at x0 x1 x2 x3 x4 y0 y1 y2 y3 y4
          clear hw12 q12 hb12 q9 ht11 hb11 HQ H10 HO HR hc10 HT h5
          cases ro
          all_goals go_wp2_with fail
          all_goals rw [← H12.out.2.1]
          all_goals refine HM.out.mono ?_
          all_goals rintro e w13 ⟨rfl, hb13⟩
          all_goals have HE := hid (show Below w8.heap.size w8 w13 from bstep H12.out.1 hb13)
          all_goals clear hb13 HM x0 x1 x2 x3 x4 y0 y1 y2 y3 y4
          all_goals go_wp2
          all_goals
            go_roundw
            case rel => exact ⟨i + 1, H12.out.2.2, by go_num, HE⟩
            case measure => have := H12.out.2.2; simp [RowKit.intOf]; omega
        · have hi2 : i = 5 := by omega
          subst hi2
          have hbr := HB8.out.trans (HR.out.mono HB8.out.size)
          have HAW := hid (awake4_ok (w := wr) (HH.out.1.2.on hbr hbr.size))
          have HE := hid hbr
          clear hbr HR HT h5 hi HS
          go_wp2_with fail
          refine HAW.out.mono ?_
          rintro e w9 ⟨rfl, hb9⟩
          have HE2 := hid (HE.out.trans (hb9.mono HE.out.size))
          clear hb9 HAW HE HH
          go_wp2
          go_returns
          exact ⟨rfl, HE2.out⟩
end Go.Proofs.YtdkgpnkcdnfniaaDoor

/- A term in the making, part by part, in memory of the call's own: what is still to come, and that what stands is the term when that has come; the reader's read as each's visit. Package term's Of: a term is read back of its Key. An append onto a row of the call's own whose source is any row, nil let in; as a law for the walk. No condition beside those of the library's own law. -/
import Derived.Test.YtlikpnaffpngiaaGreatDoorTStop
import Derived.Test.YtlikpnaffpngiaaGreatDoorTReadP
import Derived.Test.YtlikpnaffpngiaaGreatDoorTEachW
import Derived.Laws.AppendOwn
import Derived.Laws.OwnMore
import Derived.Tactics
set_option linter.unusedVariables false
set_option linter.unusedSimpArgs false
namespace Go.Proofs.YtlikpnaffpngiaaGreatDoor
open Go.RowKit Go.Lib

/-- A part that is to come lies at a. -/
def PendAt (W : World) (a : Addr) : Prop := ∃ b o cs, a = ⟨b, o, none⟩ ∧ W.heap[b]? = some (.cells cs 28 (0, 0)) ∧ o + 5 ≤ cs.size ∧ cs[o + 4]? = some (.slice none 0 0)
/-- A cell of a part that is to come. -/
def inC (p : List (Addr × Tm)) (a : Addr) : Prop := ∃ q ∈ p, a.block = q.1.block ∧ q.1.off ≤ a.off ∧ a.off < q.1.off + 5
def Apart2 (x y : Addr × Tm) : Prop := x.1.block ≠ y.1.block ∨ x.1.off + 5 ≤ y.1.off ∨ y.1.off + 5 ≤ x.1.off
theorem kidsAt_mem {b : Nat} : ∀ {l : List Tm} {i : Nat} {q : Addr × Tm}, q ∈ kidsAt ⟨b, 0, none⟩ i l → ∃ j, i ≤ j ∧ j < i + l.length ∧ q.1 = ⟨b, j * 5, none⟩ ∧ l[j - i]? = some q.2
  | [], _, _, h => nomatch h
  | t :: l, i, q, h => by
    rcases List.mem_cons.1 h with rfl | h
    · exact ⟨i, Nat.le_refl _, by simp, by rw [add_eq, Nat.zero_add], by simp⟩
    · obtain ⟨j, h1, h2, h3, h4⟩ := kidsAt_mem h
      refine ⟨j, by omega, by simp; omega, h3, ?_⟩
      rw [show j - i = (j - (i + 1)) + 1 by omega]
      exact h4
theorem kidsAt_apart {b : Nat} : ∀ (l : List Tm) (i : Nat), (kidsAt ⟨b, 0, none⟩ i l).Pairwise Apart2
  | [], _ => List.Pairwise.nil
  | t :: l, i => by
    refine List.Pairwise.cons (fun q hq => ?_) (kidsAt_apart l (i + 1))
    obtain ⟨j, h1, _, h3, _⟩ := kidsAt_mem hq
    right; left
    rw [h3, add_eq]
    show 0 + i * 5 + 5 ≤ j * 5
    omega
theorem kidsAt_len (A : Addr) : ∀ (l : List Tm) (i : Nat), (kidsAt A i l).length = l.length
  | [], _ => rfl
  | t :: l, i => by show _ + 1 = _ + 1; rw [kidsAt_len A l (i + 1)]
theorem headK_min (t : Tm) : 8 ≤ (headK t).length := by
  have h : ∀ u, 1 ≤ (decDigits u).length := fun u => by
    have := dec_ne u
    rcases hd : decDigits u with _ | _
    · exact absurd hd this
    · simp
  have h1 := h t.kind.toNat
  have h2 := h t.name.size
  have h3 := h t.kids.length
  unfold headK
  simp only [List.length_append, List.length_cons, List.length_nil]
  omega
theorem keyK_min : ∀ (l : List Tm), 8 * l.length ≤ (keyK (preL l)).length
  | [] => Nat.zero_le _
  | t :: l => by
    have h1 := headK_min t
    have h2 := keyK_min l
    rw [preL_cons, keyK, List.flatMap_cons, List.flatMap_append]
    unfold keyK at h2
    simp only [List.length_append, List.length_cons]
    omega
/-- What holds while a Key is read: root is where the term t0 comes to be. -/
structure OfS (N M gr : Nat) (root : Addr) (t0 : Tm) (d : List Tm) (p : List (Addr × Tm)) (X : Nat → Prop) (W : World) : Prop where
  low : ∀ k, X k → M ≤ k ∧ k < W.heap.size
  own : X gr
  rd : RdC W gr (keyK (preL (p.map (·.2)))) p.length
  pend : ∀ q ∈ p, X q.1.block ∧ q.1.block ≠ gr ∧ PendAt W q.1
  apart : p.Pairwise Apart2
  build : ∀ W' : World, (∀ a v, W.cell? a = some v → X a.block → ¬ inC p a → a.block ≠ gr → W'.cell? a = some v) → (∀ q ∈ p, PtrTm W' q.1 q.2) → PtrTm W' root t0
  lib : LibM M W
  size : M ≤ W.heap.size
theorem OfS.stay {N M gr : Nat} {root : Addr} {t0 : Tm} {d : List Tm} {p : List (Addr × Tm)} {X : Nat → Prop} {W W' : World} (h : OfS N M gr root t0 d p X W) (hk : ∀ k, k < W.heap.size → k < N ∨ X k → W'.heap[k]? = W.heap[k]?) (hb : Below M W W') : OfS N M gr root t0 d p X W' := by
  refine ⟨fun k hx => ⟨(h.low k hx).1, Nat.lt_of_lt_of_le (h.low k hx).2 hb.size⟩, h.own, h.rd.ne (hk gr (h.low gr h.own).2 (.inr h.own)), fun q hq => ?_, h.apart, fun W2 h1 h2 => h.build W2 (fun a v hv ho hc hg => h1 a v ((cell_congr (hk _ (cell_lt hv) (.inr ho))).trans hv) ho hc hg) h2, h.lib.on hb (Nat.le_refl _), Nat.le_trans h.size hb.size⟩
  obtain ⟨h1, h2, b, o, cs, e, h3, h4, h5⟩ := h.pend q hq
  refine ⟨h1, h2, b, o, cs, e, ?_, h4, h5⟩
  have hx : X b := by have := h1; rw [e] at this; exact this
  exact (hk b (h.low b hx).2 (.inr hx)).trans h3
theorem kidsAt_get {A : Addr} : ∀ {l : List Tm} {i j : Nat} {t : Tm}, l[j]? = some t → (A.add ((i + j) * 5), t) ∈ kidsAt A i l
  | [], _, _, _, h => by simp at h
  | x :: l, i, 0, t, h => by
    simp at h
    subst h
    exact List.mem_cons_self ..
  | x :: l, i, j + 1, t, h => by
    refine List.mem_cons_of_mem _ ?_
    have := kidsAt_get (A := A) (l := l) (i := i + 1) (j := j) (t := t) (by simpa using h)
    rw [show i + (j + 1) = i + 1 + j by omega]
    exact this
theorem tms_of {W : World} {A : Addr} {l : List Tm} (h : ∀ q ∈ kidsAt A 0 l, PtrTm W q.1 q.2) : TmsAt W (some A) l := fun j t hj => by
  have hm := kidsAt_get (A := A) (i := 0) hj
  rw [Nat.zero_add] at hm
  obtain ⟨u0, u1, u2, u3, u4, hc, ht⟩ := h _ hm
  exact ⟨A, u0, u1, u2, u3, u4, rfl, hc, ht⟩
/-- Behind read. -/
theorem of_step {N M gr pb o : Nat} {root : Addr} {t0 t : Tm} {d : List Tm} {r : List (Addr × Tm)} {X : Nat → Prop} {W w' : World} {cs : Array Value} (h : OfS N M gr root t0 d ((⟨pb, o, none⟩, t) :: r) X W) (hN : N ≤ W.heap.size) (hcs : W.heap[pb]? = some (.cells cs 28 (0, 0))) (ho : o + 5 ≤ cs.size) (hg : Good t)
    (hp : ReadPost W gr pb o cs t (keyK (preL (t.kids ++ r.map (·.2)))) (r.length + 1 : Nat) w') :
    ∃ X' K c, OfS N M gr root t0 (d ++ [t]) (kidsOf K t.kids ++ r) X' w' ∧ w'.cell? ((⟨pb, o, none⟩ : Addr).add 4) = some (.slice K t.kids.length c) ∧ (t.kids ≠ [] → ∃ A, K = some A) ∧ Touch X X' W w' ∧ Below M W w' := by
  obtain ⟨A, cA, K, cK, hR, hrow, hAb, hK⟩ := hp
  have hx := h.pend _ (List.mem_cons_self ..)
  have hXp : X pb := hx.1
  have hpg : pb ≠ gr := hx.2.1
  have hpW : pb < W.heap.size := (h.low pb hXp).2
  have hgW : gr < W.heap.size := (h.low gr h.own).2
  have hon := hR.only
  have hsz := hon.size
  have hM1 := (h.low pb hXp).1
  have hM2 := (h.low gr h.own).1
  have hbM : Below M W w' := hon.below hM2 hM1 h.size
  have hat := put5_at cs o (.int .u8 t.kind) (.string t.name) (.bool t.neg) (.slice A t.ds.length cA) (.slice K t.kids.length cK) ho
  have hcell : ∀ j u, (put5 cs o (.int .u8 t.kind) (.string t.name) (.bool t.neg) (.slice A t.ds.length cA) (.slice K t.kids.length cK))[o + j]? = some u → w'.cell? ⟨pb, o + j, none⟩ = some u := fun j u hu => by rw [cell_of_row w' pb (o + j) _ _ _ hR.blk]; exact hu
  have hKs : t.kids ≠ [] → ∃ A, K = some A := fun hne => by
    rcases hK with ⟨e, _⟩ | ⟨b, zs, e, _⟩
    · exact absurd e hne
    · exact ⟨_, e⟩
  have hkb : ∀ q ∈ kidsOf K t.kids, W.heap.size ≤ q.1.block ∧ q.1.block < w'.heap.size ∧ PendAt w' q.1 ∧ ∀ a, A = some a → t.ds ≠ [] → a.block ≠ q.1.block := fun q hq => by
    rcases hK with ⟨e, e2⟩ | ⟨b, zs, e, hb, hz, hzk, hne⟩
    · rw [e2] at hq; exact nomatch hq
    · rw [e] at hq
      obtain ⟨j, _, h2, h3, _⟩ := kidsAt_mem (show q ∈ kidsAt ⟨b, 0, none⟩ 0 t.kids from hq)
      rw [h3]
      refine ⟨hb, Own.lt.cell_lt' hz, ⟨b, j * 5, zs, rfl, hz, ?_, ?_⟩, hne⟩
      · have := hzk.1; omega
      · exact hzk.2 j (by omega)
  have hka : (kidsOf K t.kids).Pairwise Apart2 := by
    rcases hK with ⟨e, e2⟩ | ⟨b, zs, e, _⟩
    · rw [e2]; exact List.Pairwise.nil
    · rw [e]; exact kidsAt_apart _ _
  have hkl : (kidsOf K t.kids).length = t.kids.length := by
    rcases hK with ⟨e, e2⟩ | ⟨b, zs, e, _⟩
    · rw [e2, e]; rfl
    · rw [e]; exact kidsAt_len _ _ _
  have hap := List.pairwise_cons.1 h.apart
  have hrb : ∀ q ∈ r, q.1.block < W.heap.size := fun q hq => (h.low _ (h.pend q (List.mem_cons_of_mem _ hq)).1).2
  -- cells of the old world that are not written
  have hkeep : ∀ a v, W.cell? a = some v → a.block ≠ gr → (a.block = pb → a.off < o ∨ o + 5 ≤ a.off) → w'.cell? a = some v := fun a v hv h1 h2 => by
    by_cases hb : a.block = pb
    · obtain ⟨ab, ao, sp⟩ := a
      simp only at hb h2
      subst hb
      unfold World.cell? at hv ⊢
      simp only [hcs] at hv
      simp only [hR.blk]
      split at hv
      · cases hv
      · next hs =>
        rw [if_neg hs, put5_off _ _ _ _ _ _ _ (h2 rfl)]
        exact hv
    · exact (cell_congr (hon.block _ (cell_lt hv) h1 hb)).trans hv
  refine ⟨fun k => X k ∨ (W.heap.size ≤ k ∧ k < w'.heap.size), K, cK, ⟨fun k hk => ?_, .inl h.own, ?_, fun q hq => ?_, ?_, fun W2 h1 h2 => ?_, h.lib.on hbM (Nat.le_refl _), Nat.le_trans h.size hsz⟩, by rw [add_eq]; exact hcell 4 _ hat.2.2.2.2, hKs, ⟨hon.os, hon.tape, hon.output, hsz, fun k hk hx _ => hon.block k hk (fun e => hx (e ▸ h.own)) (fun e => hx (e ▸ hXp)), fun k hk => ?_⟩, hbM⟩
  · rcases hk with hk | hk
    · exact ⟨(h.low k hk).1, Nat.lt_of_lt_of_le (h.low k hk).2 hsz⟩
    · exact ⟨Nat.le_trans h.size hk.1, hk.2⟩
  · have e1 : (kidsOf K t.kids ++ r).map (·.2) = t.kids ++ r.map (·.2) := by rw [List.map_append, kidsOf_snd hKs]
    have e2 : (((r.length + 1 : Nat) : Int) + t.kids.length - 1) = (((kidsOf K t.kids ++ r).length : Nat) : Int) := by rw [List.length_append, hkl]; omega
    rw [e1, ← e2]
    exact hR.left
  · rcases List.mem_append.1 hq with hq | hq
    · obtain ⟨k1, k2, k3, _⟩ := hkb q hq
      exact ⟨.inr ⟨k1, k2⟩, by omega, k3⟩
    · obtain ⟨k1, k2, b, oo, cs2, e, k3, k4, k5⟩ := h.pend q (List.mem_cons_of_mem _ hq)
      refine ⟨.inl k1, k2, ?_⟩
      by_cases hb : b = pb
      · subst hb
        rw [hcs] at k3
        injection k3 with k3
        injection k3 with k3
        subst k3
        refine ⟨b, oo, _, e, hR.blk, by rw [put5_size]; exact k4, ?_⟩
        rw [put5_off _ _ _ _ _ _ _ ?_]
        · exact k5
        · have := hap.1 q hq
          unfold Apart2 at this
          rw [e] at this
          simp only at this
          omega
      · have hbg : b ≠ gr := by rw [e] at k2; exact k2
        have hbl : b < W.heap.size := by have := (h.low _ k1).2; rw [e] at this; exact this
        exact ⟨b, oo, cs2, e, (hon.block b hbl hbg hb).trans k3, k4, k5⟩
  · refine List.pairwise_append.2 ⟨hka, hap.2, fun q hq s hs => .inl ?_⟩
    have := (hkb q hq).1
    have := hrb s hs
    omega
  · have hnk : ∀ a : Addr, a.block < W.heap.size → inC (kidsOf K t.kids ++ r) a → ∃ q ∈ r, a.block = q.1.block ∧ q.1.off ≤ a.off ∧ a.off < q.1.off + 5 := fun a ha hc => by
      obtain ⟨q, hq, e1, e2, e3⟩ := hc
      rcases List.mem_append.1 hq with hq | hq
      · have := (hkb q hq).1; omega
      · exact ⟨q, hq, e1, e2, e3⟩
    refine h.build W2 (fun a v hv ho hc hg => ?_) fun q hq => ?_
    · refine h1 a v (hkeep a v hv hg fun e => ?_) (.inl ho) (fun hc2 => ?_) hg
      · refine Classical.byContradiction fun hno => hc ⟨_, List.mem_cons_self .., e, ?_, ?_⟩
        · show o ≤ a.off; omega
        · show a.off < o + 5; omega
      · obtain ⟨q, hq, e1, e2, e3⟩ := hnk a (cell_lt hv) hc2
        exact hc ⟨q, List.mem_cons_of_mem _ hq, e1, e2, e3⟩
    · rcases List.mem_cons.1 hq with rfl | hq
      · have hpart : ∀ j, j < 5 → ∀ u, w'.cell? ⟨pb, o + j, none⟩ = some u → W2.cell? ⟨pb, o + j, none⟩ = some u := fun j hj u hu => by
          refine h1 _ u hu (.inl hXp) (fun hc2 => ?_) hpg
          obtain ⟨q, hq, e1, e2, e3⟩ := hnk _ hpW hc2
          have := hap.1 q hq
          unfold Apart2 at this
          simp only at this e1 e2 e3
          omega
        refine ⟨_, _, _, _, _, ⟨hpart 0 (by decide) _ (hcell 0 _ hat.1), by rw [add_eq]; exact hpart 1 (by decide) _ (hcell 1 _ hat.2.1), by rw [add_eq]; exact hpart 2 (by decide) _ (hcell 2 _ hat.2.2.1), by rw [add_eq]; exact hpart 3 (by decide) _ (hcell 3 _ hat.2.2.2.1), by rw [add_eq]; exact hpart 4 (by decide) _ (hcell 4 _ hat.2.2.2.2)⟩, ?_⟩
        have key := TmV.of (W := W2) (kind := t.kind) (name := t.name) (neg := t.neg) (ds := t.ds) (kids := t.kids) (A := A) (K := K) (c := cA) (c' := cK) (by
          have e1 : IntKind.u8.min = 0 := rfl
          have e2 : IntKind.u8.max = 255 := rfl
          have := hg.kind
          simp only [Lit.wf, Bool.and_eq_true, decide_eq_true_eq, e1, e2]
          omega) hg.name (fun j v hj => by
            obtain ⟨a, ha, hc⟩ := hrow j v hj
            have hab := hAb a ha
            have hne : t.ds ≠ [] := fun e => by rw [e] at hj; simp [u32s] at hj
            refine ⟨a, ha, h1 _ v hc (.inr ⟨by rw [add_block]; exact hab, cell_lt hc⟩) (fun hc2 => ?_) (by rw [add_block]; omega)⟩
            obtain ⟨q, hq, e1, e2, e3⟩ := hc2
            rw [add_block] at e1
            rcases List.mem_append.1 hq with hq | hq
            · exact (hkb q hq).2.2.2 a ha hne e1
            · have := hrb q hq; omega) hg.ds hg.dl hg.kl (by
            rcases hK with ⟨e, e2⟩ | ⟨b, zs, e, _⟩
            · rw [e]; exact fun j t hj => by simp at hj
            · rw [e]
              refine tms_of fun q hq => h2 q (List.mem_append_left _ ?_)
              rw [e]; exact hq)
        rw [Tm.eta t]
        exact key
      · exact h2 q (List.mem_append_right _ hq)
  · rcases hk with hk | hk
    · exact .inl hk
    · exact .inr (.inl hk.1)
theorem of_visits {N M gr : Nat} {root : Addr} {t0 : Tm} {all : List Tm} (hg : ∀ t ∈ all, Good t ∧ t.ds.length ≤ 1000000 ∧ t.kids.length ≤ 1000000) (hall : (keyK all).length ≤ 10000000) :
    Visits N M 45 #[.pointer (some ⟨gr, 0, none⟩)] #[] all fun d p X W => OfS N M gr root t0 d p X W ∧ N ≤ W.heap.size := by
  refine ⟨enters_of Tryz.func45 (by kernel_rfl) rfl, fun h k hk => (h.1.low k hk).2, fun h hk hb => ⟨h.1.stay hk hb, Nat.le_trans h.2 hb.size⟩, fun {d r X W ad t} h hd => ?_⟩
  obtain ⟨h, hN⟩ := h
  obtain ⟨hX, hpg, pb, o, cs, e, hcs, ho, h4⟩ := h.pend _ (List.mem_cons_self ..)
  have e : ad = ⟨pb, o, none⟩ := e
  subst e
  have ht := hg t (by rw [← hd, preL_cons]; simp)
  have e1 : keyK (preL (((⟨pb, o, none⟩, t) :: r : List (Addr × Tm)).map (·.2))) = headK t ++ keyK (preL (t.kids ++ r.map (·.2))) := by
    rw [List.map_cons, preL_cons, preL_append, keyK, List.flatMap_cons]; rfl
  have hrd := h.rd
  rw [e1] at hrd
  have hlen : (headK t ++ keyK (preL (t.kids ++ r.map (·.2)))).length ≤ 10000000 := by
    refine Nat.le_trans ?_ hall
    rw [← e1, ← hd]
    unfold keyK
    rw [List.flatMap_append, List.length_append]
    exact Nat.le_add_left _ _
  have hmin := keyK_min (t.kids ++ r.map (·.2))
  rw [List.length_append, List.length_map] at hmin
  rw [List.length_append] at hlen
  have hrd' : RdC W gr (headK t ++ keyK (preL (t.kids ++ r.map (·.2)))) ((r.length + 1 : Nat) : Int) := hrd
  have hc := read_ok (M := M) hrd' hcs ho hpg h4 ht.1 (by rw [List.length_append]; omega) ht.2.1 ht.2.2 ⟨by omega, by omega⟩ (by omega) h.lib (h.low gr h.own).1 (h.low pb hX).1 h.size
  refine Calls.mono hc ?_
  rintro e w' ⟨hu, hp⟩
  obtain ⟨X', K, c, r1, r2, r3, r4, r5⟩ := of_step h hN hcs ho ht.1 hp
  exact ⟨hu, X', K, c, ⟨r1, Nat.le_trans hN r5.size⟩, r2, r3, r4, r5⟩
end Go.Proofs.YtlikpnaffpngiaaGreatDoor

namespace Go.Proofs.YtlikpnaffpngiaaGreatDoor
open Go.RowKit Go.Lib

theorem five_set {w : World} {b : Nat} {x0 x1 x2 x3 x4 y0 y1 y2 y3 y4 : Value} {T : TypeId} {fz : Nat × Nat} (h : w.heap[b]? = some (.cells #[x0, x1, x2, x3, x4] T fz)) : (((((w.setCell ⟨b, 0, none⟩ y0).setCell ⟨b, 1, none⟩ y1).setCell ⟨b, 2, none⟩ y2).setCell ⟨b, 3, none⟩ y3).setCell ⟨b, 4, none⟩ y4).heap[b]? = some (.cells #[y0, y1, y2, y3, y4] T fz) := by
  simp [World.setCell, Array.getElem?_modify, h]
theorem five_off {w : World} {b k : Nat} {y0 y1 y2 y3 y4 : Value} (hk : k ≠ b) : (((((w.setCell ⟨b, 0, none⟩ y0).setCell ⟨b, 1, none⟩ y1).setCell ⟨b, 2, none⟩ y2).setCell ⟨b, 3, none⟩ y3).setCell ⟨b, 4, none⟩ y4).heap[k]? = w.heap[k]? :=
  (Below.heap_setCell _ _ _ _ hk).trans ((Below.heap_setCell _ _ _ _ hk).trans ((Below.heap_setCell _ _ _ _ hk).trans ((Below.heap_setCell _ _ _ _ hk).trans (Below.heap_setCell _ _ _ _ hk))))
/-- Behind Of's closure: the term stands at g0, whatever is done to other blocks than X's. -/
structure OfEnd (W : World) (M gr g0 : Nat) (t : Tm) (X : Nat → Prop) (w' : World) : Prop where
  own : ∀ k, X k → k = gr ∨ k = g0 ∨ W.heap.size ≤ k ∨ ¬ NoBytes W k
  term : ∀ W' : World, (∀ a v, w'.cell? a = some v → X a.block → a.block ≠ gr → W'.cell? a = some v) → PtrTm W' ⟨g0, 0, none⟩ t
  keep : ∀ k, k < W.heap.size → k ≠ gr → k ≠ g0 → NoBytes W k → w'.heap[k]? = W.heap[k]?
  below : Below M W w'
set_option maxRecDepth 100000 in
set_option maxHeartbeats 6400000 in
theorem of1_ok {W : World} {M gr g0 rv : Nat} {t : Tm} (hr : RdC W gr (keyK (preT t)) 1) {zs : Array Value} (h0 : W.heap[g0]? = some (.cells zs 28 (0, 0))) (hz : ZeroKids zs 1) (hv : W.cell? ⟨rv, 0, none⟩ = some (.slice (some ⟨g0, 0, none⟩) 1 1)) (hne : g0 ≠ gr) (hMr : M ≤ gr) (hM0 : M ≤ g0) (hM : LibM M W)
    (hg : ∀ p ∈ preT t, Good p ∧ p.ds.length ≤ 1000000 ∧ p.kids.length ≤ 1000000) (hall : (keyK (preT t)).length ≤ 8000000) :
    Calls Tryz.prog 43 #[.pointer (some ⟨gr, 0, none⟩), .pointer (some ⟨rv, 0, none⟩)] W fun e w' => (∃ u, e = .returned u) ∧ ∃ X, OfEnd W M gr g0 t X w' := by
  have hgW : gr < W.heap.size := cell_lt hr.c0
  have h0W : g0 < W.heap.size := Own.lt.cell_lt' h0
  have hlen : (preL [t]).length ≤ 1000000 := by
    have := keyK_min [t]
    have h2 : ∀ l : List Tm, 8 * l.length ≤ (keyK l).length := fun l => by
      induction l with
      | nil => exact Nat.zero_le _
      | cons x l ih =>
        have := headK_min x
        rw [keyK, List.flatMap_cons]
        unfold keyK at ih
        simp only [List.length_append, List.length_cons]
        omega
    have := h2 (preT t)
    rw [preL_one]
    omega
  have hS : OfS W.heap.size M gr ⟨g0, 0, none⟩ t [] (kidsOf (some ⟨g0, 0, none⟩) [t]) (fun k => k = gr ∨ k = g0) W := by
    have hk : kidsOf (some ⟨g0, 0, none⟩) [t] = [(⟨g0, 0, none⟩, t)] := rfl
    rw [hk]
    refine ⟨fun k hk => ?_, .inl rfl, ?_, fun q hq => ?_, List.pairwise_singleton _ _, fun W' _ h2 => h2 _ (List.mem_cons_self ..), hM, by omega⟩
    · rcases hk with rfl | rfl
      · exact ⟨hMr, hgW⟩
      · exact ⟨hM0, h0W⟩
    · show RdC W gr (keyK (preL [t])) _
      rw [preL_one]; exact hr
    · rw [List.mem_singleton.1 hq]
      exact ⟨.inr rfl, hne, g0, 0, _, rfl, h0, by have := hz.1; omega, hz.2 0 (by decide)⟩
  have HE := hid (each_any (c := 1) (K := some ⟨g0, 0, none⟩) (l := [t]) (X0 := fun k => k = gr ∨ k = g0) (of_visits (N := W.heap.size) (M := M) (gr := gr) (root := ⟨g0, 0, none⟩) (t0 := t) (all := preL [t]) (by rw [preL_one]; exact hg) (by rw [preL_one]; omega)) hlen (by omega) ⟨hS, Nat.le_refl _⟩ (fun _ => ⟨_, rfl⟩))
  have HB := hid (show _ ∧ _ from ⟨hgW, h0W⟩)
  clear hr h0 hz hne hMr hM0 hM hg hall hgW h0W hlen hS
  go_enter Tryz.func43, Tryz.ntmps43
  go_wp2_with fail
  refine Calls.mono HE.out ?_
  rintro e w1 ⟨⟨u, rfl⟩, X, ⟨hs, _⟩, hT, hb⟩
  have hrd : RdC w1 gr [] 0 := by
    have := hs.rd
    rw [List.map_nil, preL_nil] at this
    exact this
  have HN := hid (end_ok hrd)
  have HF := hid (show OfEnd W M gr g0 t X w1 from ⟨fun k hk => by
    rcases hT.own k hk with h | h | h
    · rcases h with h | h
      · exact .inl h
      · exact .inr (.inl h)
    · exact .inr (.inr (.inl h))
    · exact .inr (.inr (.inr h)), fun W' h1 => hs.build W' (fun a v hv hx _ hg => h1 a v hv hx hg) (fun q hq => nomatch hq), fun k hk h1 h2 hn => hT.block k hk (fun h => by rcases h with h | h <;> contradiction) hn, hb⟩)
  clear hs hT hb hrd HE
  go_wp2_with fail
  refine HN.out.mono ?_
  rintro e w2 ⟨⟨u2, rfl⟩, rfl⟩
  go_wp2
  go_returns
  exact ⟨⟨_, rfl⟩, X, HF.out⟩
set_option maxRecDepth 100000 in
set_option maxHeartbeats 6400000 in
/-- Of at a term's Key; the term lies in new memory (or in rows of bytes). -/
theorem of_okX {w : World} {t : Tm} (hM : LibM w.heap.size w) (hg : ∀ p ∈ preT t, Good p ∧ p.ds.length ≤ 1000000 ∧ p.kids.length ≤ 1000000) (hall : (keyK (preT t)).length ≤ 8000000) :
    Calls Tryz.prog 39 #[.string ⟨(keyK (preT t)).toArray⟩] w fun e w' => ∃ u0 u1 u2 u3 u4, e = .returned (.tuple #[.agg #[u0, u1, u2, u3, u4], .bool true]) ∧ TmV w' (.agg #[u0, u1, u2, u3, u4]) t ∧ Below w.heap.size w w' ∧ ∀ wf : World, (∀ k, k < w'.heap.size → (w.heap.size ≤ k ∨ ¬ NoBytes w k) → wf.heap[k]? = w'.heap[k]?) → TmV wf (.agg #[u0, u1, u2, u3, u4]) t := by
  have HH := hid (show _ ∧ _ ∧ _ from ⟨hM, hg, hall⟩)
  obtain ⟨S, hS⟩ : ∃ S : ByteArray, S = ⟨(keyK (preT t)).toArray⟩ := ⟨_, rfl⟩
  rw [← hS]
  have HS := hid hS
  clear hM hg hall hS
  go_enter Tryz.func39, Tryz.ntmps39
  obtain ⟨i0, hi, hz0, hz1, hz2⟩ := info_parts info_term
  obtain ⟨a0, a1, asz, ab⟩ := two_alloc w (.cells #[.int .u8 0, .string ⟨#[]⟩, .bool false, .slice none 0 0, .slice none 0 0] 28) (.cells #[.string S, .int .i64 1] 94)
  have HA := hid (show _ ∧ _ ∧ _ ∧ _ from ⟨a0, a1, asz, ab⟩)
  clear a0 a1 asz ab
  go_wp2_with (at_make; refine wpList_make_full _ rfl _ _ 22 rfl w.heap.size 28 i0 (.agg #[.int .u8 0, .string ⟨#[]⟩, .bool false, .slice none 0 0, .slice none 0 0]) 5 Tryz.underlying22 hi hz0 hz1 .i64 .i64 1 1 1 rfl rfl rfl rfl ?b2 ?b3 ?b4 ?_)
  case b2 => rw [hz2]; omega
  case b3 => unfold maxLen; omega
  case b4 => simp; omega
  intro w1 hown hgrow
  obtain ⟨a0, a1, asz, ab⟩ := HA.out
  obtain ⟨zs, hz, hzk⟩ := zero_kids (n := 1) hown (by decide)
  have hz : w1.heap[w.heap.size + 2]? = some (.cells zs 28 (0, 0)) := hz
  have hs1 : w.heap.size + 2 < w1.heap.size := Own.lt.cell_lt' hz
  have b0 : w1.heap[w.heap.size]? = some (.cells #[.int .u8 0, .string ⟨#[]⟩, .bool false, .slice none 0 0, .slice none 0 0] 28 (0, 0)) := (hgrow.block _ (by rw [asz]; omega) (fun e => by cases e)).trans a0
  have b1 : w1.heap[w.heap.size + 1]? = some (.cells #[.string S, .int .i64 1] 94 (0, 0)) := (hgrow.block _ (by rw [asz]; omega) (fun e => by cases e)).trans a1
  have bb : Below w.heap.size w w1 := ab.trans ⟨hgrow.os, hgrow.tape, hgrow.output, hgrow.size, fun k hk => hgrow.block k (by rw [asz]; omega) (fun e => by cases e)⟩
  have HB := hid (show _ ∧ _ ∧ _ ∧ _ ∧ _ ∧ _ from ⟨hz, hzk, b0, b1, bb, hs1⟩)
  clear hown hgrow a0 a1 asz ab hz hzk b0 b1 bb HA
  go_wp2_with fail
  obtain ⟨hz, hzk, b0, b1, bb, hs1⟩ := HB.out
  obtain ⟨c0, c1, csz, cb⟩ := two_alloc w1 (.cells #[.slice (some ⟨w.heap.size + 1 + 1, 0, none⟩) 1 1] 22) (.cells #[.int .i64 0] 32)
  have hM2 : LibM w.heap.size ((w1.alloc (.cells #[.slice (some ⟨w.heap.size + 1 + 1, 0, none⟩) 1 1] 22)).alloc (.cells #[.int .i64 0] 32)) := HH.out.1.on (bb.trans (cb.mono (by omega))) (Nat.le_refl _)
  have hrd : RdC ((w1.alloc (.cells #[.slice (some ⟨w.heap.size + 1 + 1, 0, none⟩) 1 1] 22)).alloc (.cells #[.int .i64 0] 32)) (w.heap.size + 1) (keyK (preT t)) 1 := by
    refine (cb.block _ (by omega)).trans ?_
    rw [b1, HS.out]
  have hO := of1_ok (M := w.heap.size) (gr := w.heap.size + 1) (g0 := w.heap.size + 1 + 1) (rv := w1.heap.size) hrd ((cb.block _ (by omega)).trans hz) hzk (cell_one0 c0) (by omega) (by omega) (by omega) hM2 HH.out.2.1 HH.out.2.2
  have hsz1 : (w1.alloc (.cells #[.slice (some ⟨w.heap.size + 1 + 1, 0, none⟩) 1 1] 22)).heap.size = w1.heap.size + 1 := World.size_alloc ..
  have HP := hid (stopped_ok (w := w1.alloc (.cells #[.slice (some ⟨w.heap.size + 1 + 1, 0, none⟩) 1 1] 22)) (F := 43) (fs := #[]) (cs := #[.pointer (some ⟨w.heap.size + 1, 0, none⟩), .pointer (some ⟨w1.heap.size, 0, none⟩)]) (P := fun w' => ∃ X, OfEnd ((w1.alloc (.cells #[.slice (some ⟨w.heap.size + 1 + 1, 0, none⟩) 1 1] 22)).alloc (.cells #[.int .i64 0] 32)) w.heap.size (w.heap.size + 1) (w.heap.size + 1 + 1) t X w') (enters_of Tryz.func43 (by kernel_rfl) rfl) hO (fun w' ⟨X, hX⟩ => by
    rw [hsz1]
    exact (hX.keep _ (by omega) (by omega) (by omega) (.of c1 (by decide))).trans c1))
  rw [hsz1] at HP
  have HC := hid (show _ ∧ _ ∧ _ ∧ _ from ⟨c0, c1, csz, cb⟩)
  clear hz hzk b0 b1 bb hs1 c0 c1 csz cb hM2 hrd hO hsz1
  refine HP.out.mono ?_
  rintro e w3 ⟨rfl, w2, ⟨X, hX⟩, rfl⟩
  obtain ⟨c0, c1, csz, cb⟩ := HC.out
  obtain ⟨hz, hzk, b0, b1, bb, hs1⟩ := HB.out
  have nb1 : NoBytes ((w1.alloc (.cells #[.slice (some ⟨w.heap.size + 1 + 1, 0, none⟩) 1 1] 22)).alloc (.cells #[.int .i64 0] 32)) (w1.heap.size + 1) := .of c1 (by decide)
  have nb0 : NoBytes ((w1.alloc (.cells #[.slice (some ⟨w.heap.size + 1 + 1, 0, none⟩) 1 1] 22)).alloc (.cells #[.int .i64 0] 32)) w.heap.size := .of ((cb.block _ (by omega)).trans b0) (by decide)
  have hXe : ∀ k, X k → k ≠ w1.heap.size + 1 ∧ k ≠ w.heap.size := fun k hk => by
    rcases hX.own k hk with h | h | h | h
    · omega
    · omega
    · rw [csz] at h; omega
    · exact ⟨fun e => h (e ▸ nb1), fun e => h (e ▸ nb0)⟩
  have hXn : ∀ k, X k → (w.heap.size ≤ k ∨ ¬ NoBytes w k) := fun k hk => by
    by_cases hkk : k < w.heap.size
    · refine .inr fun hn => ?_
      rcases hX.own k hk with h | h | h | h
      · omega
      · omega
      · rw [csz] at h; omega
      · exact h (hn.to ((cb.block _ (by omega)).trans (bb.block _ hkk)))
    · exact .inl (by omega)
  have r0 : (w2.setCell ⟨w1.heap.size + 1, 0, none⟩ (.int .i64 0)).heap[w.heap.size]? = some (.cells #[.int .u8 0, .string ⟨#[]⟩, .bool false, .slice none 0 0, .slice none 0 0] 28 (0, 0)) := (Below.heap_setCell _ _ _ _ (by show w.heap.size ≠ w1.heap.size + 1; omega)).trans ((hX.keep _ (by omega) (by omega) (by omega) nb0).trans ((cb.block _ (by omega)).trans b0))
  have rv0 : (w2.setCell ⟨w1.heap.size + 1, 0, none⟩ (.int .i64 0)).cell? ⟨w1.heap.size, 0, none⟩ = some (.slice (some ⟨w.heap.size + 1 + 1, 0, none⟩) 1 1) := cell_one0 ((Below.heap_setCell _ _ _ _ (by show w1.heap.size ≠ w1.heap.size + 1; omega)).trans ((hX.keep _ (by omega) (by omega) (by omega) (.of c0 (by decide))).trans c0))
  obtain ⟨u0, u1, u2, u3, u4, ⟨k0, k1, k2, k3, k4⟩, _⟩ := hX.term (w2.setCell ⟨w1.heap.size + 1, 0, none⟩ (.int .i64 0)) fun a v hv hx hg => (cell_congr (Below.heap_setCell _ _ _ _ (hXe _ hx).1)).trans hv
  rw [add_eq] at k1 k2 k3 k4
  obtain ⟨w3, hw3⟩ : ∃ w3, w3 = w2.setCell ⟨w1.heap.size + 1, 0, none⟩ (.int .i64 0) := ⟨_, rfl⟩
  have hbw : Below w.heap.size w w3 := by
    rw [hw3]
    exact (bb.trans (cb.mono (by omega))).trans (hX.below.trans ⟨rfl, rfl, rfl, by simp, fun k hk => Below.heap_setCell _ _ _ _ (by show k ≠ w1.heap.size + 1; omega)⟩)
  have hT : ∀ wf : World, (∀ k, k < w3.heap.size → k ≠ w.heap.size → (w.heap.size ≤ k ∨ ¬ NoBytes w k) → wf.heap[k]? = w3.heap[k]?) → TmV wf (.agg #[u0, u1, u2, u3, u4]) t := fun wf hk => by
    have hcell : ∀ a : Addr, a.block < w3.heap.size → a.block ≠ w.heap.size → (w.heap.size ≤ a.block ∨ ¬ NoBytes w a.block) → wf.cell? a = w3.cell? a := fun a hl ha hx => cell_congr (hk _ hl ha hx)
    obtain ⟨x0, x1, x2, x3, x4, ⟨y0, y1, y2, y3, y4⟩, ht⟩ := hX.term wf fun a v hv hx hg => by
      rw [hcell a (by rw [hw3]; simpa using cell_lt hv) (hXe _ hx).2 (hXn _ hx), hw3]
      exact (cell_congr (Below.heap_setCell _ _ _ _ (hXe _ hx).1)).trans hv
    rw [add_eq] at y1 y2 y3 y4
    have hne : w.heap.size + 1 + 1 ≠ w.heap.size := by omega
    have hge : w.heap.size ≤ w.heap.size + 1 + 1 ∨ ¬ NoBytes w (w.heap.size + 1 + 1) := .inl (by omega)
    have hlt2 : w.heap.size + 1 + 1 < w3.heap.size := by rw [hw3]; exact cell_lt k0
    rw [hcell _ hlt2 hne hge, hw3] at y0 y1 y2 y3 y4
    rw [k0] at y0; rw [k1] at y1; rw [k2] at y2; rw [k3] at y3; rw [k4] at y4
    injection y0 with y0; injection y1 with y1; injection y2 with y2; injection y3 with y3; injection y4 with y4
    rw [← y0, ← y1, ← y2, ← y3, ← y4] at ht
    exact ht
  rw [← hw3] at r0 rv0 k0 k1 k2 k3 k4 ⊢
  have s0 : w3.cell? ⟨w.heap.size, 0, none⟩ = some (.int .u8 0) := cell_of_row w3 _ 0 _ _ _ r0
  have s1 : w3.cell? ⟨w.heap.size, 1, none⟩ = some (.string ⟨#[]⟩) := cell_of_row w3 _ 1 _ _ _ r0
  have s2 : w3.cell? ⟨w.heap.size, 2, none⟩ = some (.bool false) := cell_of_row w3 _ 2 _ _ _ r0
  have s3 : w3.cell? ⟨w.heap.size, 3, none⟩ = some (.slice none 0 0) := cell_of_row w3 _ 3 _ _ _ r0
  have s4 : w3.cell? ⟨w.heap.size, 4, none⟩ = some (.slice none 0 0) := cell_of_row w3 _ 4 _ _ _ r0
  have ff : ∀ o, w3.frozen? ⟨w.heap.size, o, none⟩ = false := fun o => by simp [World.frozen?, r0]
  have f0 := ff 0
  have f1 := ff 1
  have f2 := ff 2
  have f3 := ff 3
  have f4 := ff 4
  obtain ⟨A, K, cA, cK, e, _⟩ := (hT w3 fun _ _ _ _ => rfl).parts
  simp only [Value.agg.injEq, Array.mk.injEq, List.cons.injEq, and_true] at e
  obtain ⟨rfl, rfl, rfl, rfl, rfl⟩ := e
  have HE := hid (show _ ∧ _ ∧ _ from ⟨hT, hbw, r0⟩)
  clear hX nb1 nb0 hXe hXn hT hbw hw3 r0 ff c0 c1 csz cb hz hzk b0 b1 bb hs1 HP HC HB
  go_wp2
  have HF := hid (show ∀ wf, wf = ((((w3.setCell ⟨w.heap.size, 0, none⟩ (.int .u8 t.kind)).setCell ⟨w.heap.size, 1, none⟩ (.string t.name)).setCell ⟨w.heap.size, 2, none⟩ (.bool t.neg)).setCell ⟨w.heap.size, 3, none⟩ (.slice A t.ds.length cA)).setCell ⟨w.heap.size, 4, none⟩ (.slice K t.kids.length cK) → wf.heap[w.heap.size]? = some (.cells #[.int .u8 t.kind, .string t.name, .bool t.neg, .slice A t.ds.length cA, .slice K t.kids.length cK] 28 (0, 0)) ∧ TmV wf (.agg #[.int .u8 t.kind, .string t.name, .bool t.neg, .slice A t.ds.length cA, .slice K t.kids.length cK]) t ∧ Below w.heap.size w wf ∧ ∀ wg : World, (∀ k, k < wf.heap.size → (w.heap.size ≤ k ∨ ¬ NoBytes w k) → wg.heap[k]? = wf.heap[k]?) → TmV wg (.agg #[.int .u8 t.kind, .string t.name, .bool t.neg, .slice A t.ds.length cA, .slice K t.kids.length cK]) t from by
    intro wf hwf
    subst hwf
    exact ⟨five_set HE.out.2.2, HE.out.1 _ fun k _ hk _ => five_off hk, HE.out.2.1.trans ⟨rfl, rfl, rfl, by simp, fun k hk => five_off (Nat.ne_of_lt hk)⟩, fun wg hg => HE.out.1 _ fun k hl hk hh => (hg k (by simpa using hl) hh).trans (five_off hk)⟩)
  obtain ⟨wf, hwf⟩ : ∃ wf, wf = ((((w3.setCell ⟨w.heap.size, 0, none⟩ (.int .u8 t.kind)).setCell ⟨w.heap.size, 1, none⟩ (.string t.name)).setCell ⟨w.heap.size, 2, none⟩ (.bool t.neg)).setCell ⟨w.heap.size, 3, none⟩ (.slice A t.ds.length cA)).setCell ⟨w.heap.size, 4, none⟩ (.slice K t.kids.length cK) := ⟨_, rfl⟩
  rw [← hwf]
  obtain ⟨q0, q1, q2, q3⟩ := HF.out wf hwf
  have t0 : wf.cell? ⟨w.heap.size, 0, none⟩ = some (.int .u8 t.kind) := cell_of_row wf _ 0 _ _ _ q0
  have t1 : wf.cell? ⟨w.heap.size, 1, none⟩ = some (.string t.name) := cell_of_row wf _ 1 _ _ _ q0
  have t2 : wf.cell? ⟨w.heap.size, 2, none⟩ = some (.bool t.neg) := cell_of_row wf _ 2 _ _ _ q0
  have t3 : wf.cell? ⟨w.heap.size, 3, none⟩ = some (.slice A t.ds.length cA) := cell_of_row wf _ 3 _ _ _ q0
  have t4 : wf.cell? ⟨w.heap.size, 4, none⟩ = some (.slice K t.kids.length cK) := cell_of_row wf _ 4 _ _ _ q0
  refine bodyPost_ret (v := .tuple #[.agg #[.int .u8 t.kind, .string t.name, .bool t.neg, .slice A t.ds.length cA, .slice K t.kids.length cK], .bool true]) (by simp [results, Tryz.results39, go_sem, t0, t1, t2, t3, t4]) rfl ⟨_, _, _, _, _, rfl, q1, q2, q3⟩
theorem of_ok {w : World} {t : Tm} (hM : LibM w.heap.size w) (hg : ∀ p ∈ preT t, Good p ∧ p.ds.length ≤ 1000000 ∧ p.kids.length ≤ 1000000) (hall : (keyK (preT t)).length ≤ 8000000) :
    Calls Tryz.prog 39 #[.string ⟨(keyK (preT t)).toArray⟩] w fun e w' => ∃ u0 u1 u2 u3 u4, e = .returned (.tuple #[.agg #[u0, u1, u2, u3, u4], .bool true]) ∧ TmV w' (.agg #[u0, u1, u2, u3, u4]) t ∧ Below w.heap.size w w' := (of_okX hM hg hall).mono fun e w' h => by
  obtain ⟨u0, u1, u2, u3, u4, h1, h2, h3, _⟩ := h
  exact ⟨u0, u1, u2, u3, u4, h1, h2, h3⟩
end Go.Proofs.YtlikpnaffpngiaaGreatDoor

namespace Go.Proofs.YtlikpnaffpngiaaGreatDoor
open Go.RowKit

theorem run_from_none {P : Program} {w : World} {base : Nat} {t ty e : TypeId} {i : TypeInfo} (ht : P.underlying t = some (.slice e)) (hi : P.info? e = some i) {v : Value} {n : Nat} {xs : List Value} (hown : w.ownsRow base e 1 v n xs) (c : Nat) :
    (Builtin.append_ #[t, t] ty #[v, .slice none 0 c]).run P w = .ok v w := by
  rcases hown.2 with ⟨rfl, rfl⟩ | ⟨g, cap, cur, rfl, _, _, hle, _⟩
  all_goals simp [Builtin.append_, run_underlying ht, sizeOf, typeInfo, Builtin.lenOf, Builtin.firstCells, storeCells, *]

theorem wpList_append_row {P : Program} {w : World} {ops : Array Oper} {rest : List Oper} {o : Oper} {a : Act} {Q : Exit → Act → World → Prop} (hgd : o.guard = none) (s x : Operand) (t : TypeId)
    (ho : o.op = .call { callee := .builtin .append, args := #[s, x], argTypes := #[t, t] })
    (base : Nat) (e : TypeId) (i : TypeInfo) (z : Value) (bytes : Nat) (ht : P.underlying t = some (.slice e)) (hi : P.info? e = some i) (hz : i.zero = some z) (hsize : i.size = 1) (hby : i.bytes = bytes) (hzs : z.cells.size = 1)
    (v : Value) (n : Nat) (xs : List Value) (hs : a.eval s = v) (hown : w.ownsRow base e 1 v n xs)
    (A : Option Addr) (m c : Nat) (news : List Value) (hx : a.eval x = .slice A m c) (hl : news.length = m) (hr : Row w A news) (h1 : ∀ u ∈ news, u.oneCell' = true)
    (h63 : n + m ≤ maxLen) (hbytes : (n + m) * bytes ≤ 140737488355328) (hbase : base ≤ w.heap.size)
    (h : ∀ v' w', w'.ownsRow base e 1 v' (n + m) (xs ++ news) → w.grownBy w' v.ownBlock → wpList P ops Q rest (a.put o.dst v') w') : wpList P ops Q (o :: rest) a w := by
  rcases A with _ | ad
  · have hn : news = [] := by
      cases news with
      | nil => rfl
      | cons u us =>
        obtain ⟨ad, h, _⟩ := hr 0 u rfl
        cases h
    subst hn
    obtain rfl : m = 0 := by simpa using hl.symm
    refine wpList_plain hgd fun K hK => ?_
    have hrun := run_from_none (P := P) (w := w) (base := base) (t := t) (ty := o.type) ht hi hown c
    unfold Oper.wp
    simp [execOp, ho, resolve, invoke, builtin, hs, hx, hrun, Result.andThen]
    exact hK _ _ (h v w (by simpa using hown) (World.grownBy.refl w _))
  · exact wpList_append_own w hgd s x t ho base e i z 1 bytes ht hi hz hsize hby hzs (by decide) v n xs hs hown ad m c news hx (by simpa using hl) (fun j u hj => by
      obtain ⟨ad', e', hc⟩ := hr j u hj
      injection e' with e'
      subst e'; exact hc) h1 h63 hbytes hbase (fun v' w' a b _ => h v' w' a b)
end Go.Proofs.YtlikpnaffpngiaaGreatDoor

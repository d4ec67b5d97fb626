/- Regions that draw their order and end in an append that is assigned to the very variable that the region reads: the region's law, with the last operation behind all others. No condition. -/
import Derived.Test.YtlikpnaffpngiaaGreatDoorPk
import Derived.Deep.AppendLies
namespace Go.Proofs.YtlikpnaffpngiaaGreatDoor
open Go.RowKit

def growOKA (ops : Array Oper) (W : Nat → Bool) (es : List (List (Nat × Option Tmp))) (all : List (Nat × Option Tmp)) (sz : Nat) : Bool :=
  decide (((List.range ops.size).map fun i => (i, dstOf ops i)) = all) && decide ((all.filterMap (·.2)).Nodup) && all.all (fun p => match p.2 with | some d => decide (d < sz) | none => true) &&
  (List.range ops.size).all fun i => match ops[i]? with
    | none => true
    | some o => (match o.guard with | none => W i | some g => (dstOf ops g.1).isSome && decide (g.1 < ops.size) && o.after.any (fun e => Region.binds .any e && e.on == g.1)) && (match o.op with | .select _ _ => false | _ => true) && o.after.all (fun e => !Region.binds .any e || decide (e.on < i)) &&
      (es.getD i []).all (fun p => decide (dstOf ops p.1 = p.2) && decide (p.1 < ops.size) && o.after.any (fun e => Region.binds .any e && e.on == p.1)) &&
      o.op.operands.all (fun x => match x with | .tmp t => (es.getD i []).any (fun p => decide (p.2 = some t)) || all.all (fun p => decide (p.2 ≠ some t) || (decide (i < p.1) && decide (p.1 + 1 = ops.size))) | _ => true)

theorem put_eval_not (a : Act) {d : Option Tmp} {t : Tmp} (v : Value) (h : d ≠ some t) : (a.put d v).eval (.tmp t) = a.eval (.tmp t) :=
  Act.eval_put fun d' hd e => h (by injection e with e; rw [hd, e])
theorem putAll_outL {dst : Nat → Option Tmp} {L : Nat → Bool} {x : Nat → Value} {t : Tmp} : ∀ (is : List Nat) (a : Act), (∀ j ∈ is, L j = true → dst j ≠ some t) → (putAll dst L x a is).eval (.tmp t) = a.eval (.tmp t)
  | [], _, _ => rfl
  | j :: is, a, h => by
    simp only [putAll]
    by_cases hL : L j = true
    · rw [if_pos hL, putAll_outL is _ fun k hk => h k (List.mem_cons_of_mem _ hk)]
      exact put_eval_not a _ (h j List.mem_cons_self hL)
    · rw [if_neg hL]
      exact putAll_outL is _ fun k hk => h k (List.mem_cons_of_mem _ hk)
section
variable {P : Program}
theorem wpAny_growA {ops : Array Oper} {Q : Exit → Act → World → Prop} {a0 : Act} (Inv : (Nat → Bool) → (Nat → Value) → World → Prop) (W : Nat → Bool) (es : List (List (Nat × Option Tmp))) (all : List (Nat × Option Tmp)) (hchk : growOKA ops W es all a0.tmps.size = true)
    (hord : ∀ L x w, Inv L x w → ∀ i j, i < j → j + 1 = ops.size → L i = false → L j = false)
    (hg : ∀ i o g, ops[i]? = some o → o.guard = some g → ∀ L x w, Inv L x w → L g.1 = true → (∃ c, x g.1 = .bool c ∧ (c == g.2) = W i) ∨ (x g.1 = undef ∧ W i = false))
    (hskip : ∀ i, i < ops.size → W i = false → ∀ L x w, Inv L x w → L i = false → Inv (upd L i true) (upd x i undef) w)
    (hs : ∀ i o, ops[i]? = some o → W i = true → GrowStep P Inv a0 i o (es.getD i [])) (hend : ∀ L x w', (∀ i, i < ops.size → L i = true) → Inv L x w' → Q .normal (putE x a0 all) w') :
    ∀ (fuel : Nat) (listed : Array Bool) (x : Nat → Value) (w : World), listed.size = ops.size → (List.range ops.size).countP (fun i => !listed.getD i true) ≤ fuel → Inv (fun i => listed.getD i true) x w →
      wpAny P .any ops Q fuel listed (putAll (dstOf ops) (fun i => listed.getD i true) x a0 (List.range ops.size)) w := by
  unfold growOKA at hchk
  simp only [Bool.and_eq_true, decide_eq_true_eq] at hchk
  obtain ⟨⟨⟨hall, hnd⟩, hsz⟩, hops⟩ := hchk
  have hdd := nodup_dst (ops := ops) (by rw [hall]; exact hnd)
  have hpair : ∀ p ∈ all, dstOf ops p.1 = p.2 := fun p hp => by
    rw [← hall] at hp
    obtain ⟨i, _, rfl⟩ := List.mem_map.1 hp
    rfl
  have hmap : all.map (·.1) = List.range ops.size := by
    rw [← hall, List.map_map]; exact List.map_id _
  have hdst : ∀ i d, dstOf ops i = some d → d < a0.tmps.size := fun i d hi => by
    have hl : i < ops.size := by
      rcases Nat.lt_or_ge i ops.size with h | h
      · exact h
      · simp [dstOf, Array.getElem?_eq_none h] at hi
    have := List.all_eq_true.1 hsz (i, dstOf ops i) (by rw [← hall]; exact List.mem_map.2 ⟨i, List.mem_range.2 hl, rfl⟩)
    simpa [hi] using this
  have hop : ∀ i o, ops[i]? = some o → i < ops.size ∧ ((o.guard = none ∧ W i = true) ∨ ∃ g d, o.guard = some g ∧ dstOf ops g.1 = some d ∧ g.1 < ops.size ∧ ∃ e ∈ o.after.toList, Region.binds .any e = true ∧ e.on = g.1) ∧ (∀ cs b, o.op ≠ .select cs b) ∧ (∀ e ∈ o.after.toList, Region.binds .any e = true → e.on < i) ∧
      (∀ p ∈ es.getD i [], dstOf ops p.1 = p.2 ∧ p.1 < ops.size ∧ ∃ e ∈ o.after.toList, Region.binds .any e = true ∧ e.on = p.1) ∧
      (∀ t, .tmp t ∈ o.op.operands → (∃ p ∈ es.getD i [], p.2 = some t) ∨ ∀ j, dstOf ops j = some t → i < j ∧ j + 1 = ops.size) := fun i o ho => by
    have hl : i < ops.size := (Array.getElem?_eq_some_iff.1 ho).1
    have h := List.all_eq_true.1 hops i (List.mem_range.2 hl)
    rw [ho] at h
    simp only [Bool.and_eq_true] at h
    obtain ⟨⟨⟨⟨h1, h2⟩, h3⟩, h4⟩, h5⟩ := h
    refine ⟨hl, ?_, fun cs b e => by rw [e] at h2; simp at h2, fun e he hb => ?_, fun p hp => ?_, fun t ht => ?_⟩
    · cases hgd : o.guard with
      | none => rw [hgd] at h1; exact .inl ⟨rfl, h1⟩
      | some g =>
        rw [hgd] at h1
        simp only [Bool.and_eq_true, decide_eq_true_eq] at h1
        obtain ⟨⟨q1, q2⟩, q3⟩ := h1
        obtain ⟨d, hd⟩ := Option.isSome_iff_exists.1 q1
        obtain ⟨e, he, hh⟩ := Array.any_eq_true'.1 q3
        simp only [Bool.and_eq_true, beq_iff_eq] at hh
        exact .inr ⟨g, d, rfl, hd, q2, e, Array.mem_toList_iff.2 he, hh⟩
    · have := Array.all_eq_true'.1 h3 e (Array.mem_toList_iff.1 he)
      simpa [hb] using this
    · have := List.all_eq_true.1 h4 p hp
      simp only [Bool.and_eq_true, decide_eq_true_eq] at this
      refine ⟨this.1.1, this.1.2, ?_⟩
      obtain ⟨e, he, hh⟩ := Array.any_eq_true'.1 this.2
      simp only [Bool.and_eq_true, beq_iff_eq] at hh
      exact ⟨e, Array.mem_toList_iff.2 he, hh⟩
    · have := Array.all_eq_true'.1 h5 _ ht
      simp only [Bool.or_eq_true] at this
      rcases this with h | h
      · left
        obtain ⟨p, hp, hh⟩ := List.any_eq_true.1 h
        exact ⟨p, hp, by simpa using hh⟩
      · right
        intro j hj
        have hlj : j < ops.size := by
          rcases Nat.lt_or_ge j ops.size with h | h
          · exact h
          · simp [dstOf, Array.getElem?_eq_none h] at hj
        have := List.all_eq_true.1 h (j, dstOf ops j) (by rw [← hall]; exact List.mem_map.2 ⟨j, List.mem_range.2 hlj, rfl⟩)
        simpa [hj] using this
  intro fuel
  induction fuel with
  | zero =>
    intro listed x w hl hc hI
    have hL : ∀ i, i < ops.size → listed.getD i true = true := fun i hi => by
      have := List.countP_eq_zero.1 (Nat.le_zero.1 hc) i (List.mem_range.2 hi)
      simpa using this
    refine ⟨List.filter_eq_nil_iff.2 fun i hi => by simp [hL i (List.mem_range.1 hi)], ?_⟩
    rw [putAll_true _ _ fun i hi => hL i (List.mem_range.1 hi), ← hmap, ← putE_eq all a0 hpair]
    exact hend _ _ _ hL hI
  | succ fuel ih =>
    intro listed x w hl hc hI
    refine ⟨fun hr => ?_, fun i hi => ?_⟩
    · have hL : ∀ i, i < ops.size → listed.getD i true = true := by
        intro i
        induction i using Nat.strongRecOn with
        | _ i ihi =>
          intro hi
          have hn := List.filter_eq_nil_iff.1 hr i (List.mem_range.2 hi)
          have ho : ops[i]? = some ops[i] := Array.getElem?_eq_getElem hi
          obtain ⟨_, _, _, h4, _⟩ := hop i _ ho
          cases hb : listed.getD i true with
          | true => rfl
          | false =>
            refine absurd ?_ hn
            rw [ho, hb]
            simp only [Bool.not_false, Bool.true_and, Option.map_some, Option.getD_some]
            refine Array.all_eq_true'.2 fun e he => ?_
            cases hbe : Region.binds .any e with
            | false => rfl
            | true =>
              have h5 := h4 e (Array.mem_toList_iff.2 he) hbe
              have h6 := ihi _ h5 (by omega)
              have h7 : listed.getD e.on false = listed.getD e.on true := by
                have : e.on < listed.size := by omega
                simp [Array.getD, this]
              rw [h7, h6]; rfl
      rw [putAll_true _ _ fun i hi => hL i (List.mem_range.1 hi), ← hmap, ← putE_eq all a0 hpair]
      exact hend _ _ _ hL hI
    · obtain ⟨hir, hi2⟩ := List.mem_filter.1 hi
      have hil : i < ops.size := List.mem_range.1 hir
      have ho : ops[i]? = some ops[i] := Array.getElem?_eq_getElem hil
      obtain ⟨_, hg0, hsel, h4, h5, h6⟩ := hop i _ ho
      generalize ops[i] = o at *
      rw [ho] at hi2
      simp only [Bool.and_eq_true, Bool.not_eq_true', Option.map_some, Option.getD_some] at hi2
      have hdep : ∀ p ∈ es.getD i [], listed.getD p.1 true = true := fun p hp => by
        obtain ⟨_, q2, e, he, hb, hon⟩ := h5 p hp
        have := Array.all_eq_true'.1 hi2.2 e (Array.mem_toList_iff.1 he)
        rw [hb, hon] at this
        have hlt : p.1 < listed.size := by omega
        simpa [Array.getD, hlt] using this
      have hnext : ∀ v w', Inv (upd (fun j => listed.getD j true) i true) (upd x i v) w' → wpAny P .any ops Q fuel (listed.setIfInBounds i true) ((putAll (dstOf ops) (fun i => listed.getD i true) x a0 (List.range ops.size)).put o.dst v) w' := fun v w' hI' => by
        have hLL : (fun j => (listed.setIfInBounds i true).getD j true) = upd (fun j => listed.getD j true) i true := by
          funext j
          unfold upd
          by_cases hj : j = i
          · subst hj
            have : j < listed.size := by omega
            simp [Array.getD, this]
          · rw [if_neg hj]
            simp only [Array.getD_eq_getD_getElem?]
            rw [Array.getElem?_setIfInBounds_ne (fun e => hj e.symm)]
        have hod : dstOf ops i = o.dst := by simp [dstOf, ho]
        have := ih (listed.setIfInBounds i true) (upd x i v) w' (by simpa using hl) (by
          have hc1 := count_one (p := fun j => !listed.getD j true) (q := fun j => !(listed.setIfInBounds i true).getD j true) (i := i) (by simp [hi2.1]) (by
            have := congrFun hLL i
            simp only [upd_same] at this
            simp [this]) (fun j hj => by
            have := congrFun hLL j
            rw [upd_ne _ _ hj] at this
            simp only [this]) (List.range ops.size) List.nodup_range hir
          omega) (by rw [hLL]; exact hI')
        rw [hLL, putAll_put hdd (L := fun j => listed.getD j true) hi2.1 _ _ hir List.nodup_range, hod] at this
        exact this
      have hdepG : ∀ g d, (∃ e ∈ o.after.toList, Region.binds .any e = true ∧ e.on = g) → dstOf ops g = some d → g < ops.size → listed.getD g true = true := fun g d ⟨e, he, hb, hon⟩ _ hgl => by
        have := Array.all_eq_true'.1 hi2.2 e (Array.mem_toList_iff.1 he)
        rw [hb, hon] at this
        have hlt : g < listed.size := by omega
        simpa [Array.getD, hlt] using this
      have hwant : Region.wanted o (yielded ops (putAll (dstOf ops) (fun i => listed.getD i true) x a0 (List.range ops.size)).tmps) = W i := by
        rcases hg0 with ⟨h1, h2⟩ | ⟨g, d, h1, h2, h3, h4⟩
        · rw [h2]; simp [Region.wanted, h1]
        · have hLg := hdepG g.1 d h4 h2 h3
          have hev := putAll_in (L := fun i => listed.getD i true) (x := x) hdd hLg h2 (List.range ops.size) a0 (List.mem_range.2 h3) (hdst _ _ h2)
          have hyx : (ops[g.1]?).bind (·.dst) = some d ∧ (putAll (dstOf ops) (fun i => listed.getD i true) x a0 (List.range ops.size)).tmps[d]? = some (x g.1) := by
            have hsz2 : d < (putAll (dstOf ops) (fun i => listed.getD i true) x a0 (List.range ops.size)).tmps.size := by rw [putAll_size]; exact hdst _ _ h2
            refine ⟨h2, ?_⟩
            rw [← hev]
            show _ = some (Array.getD _ d undef)
            rw [Array.getD, dif_pos hsz2]
            exact Array.getElem?_eq_getElem hsz2
          rcases hg i o g ho h1 (fun i => listed.getD i true) x w hI hLg with ⟨c, hc, hcw⟩ | ⟨hc, hcw⟩
          · have hyd : yielded ops (putAll (dstOf ops) (fun i => listed.getD i true) x a0 (List.range ops.size)).tmps g.1 = some c := by
              unfold yielded
              rw [hyx.1, Option.bind_some, hyx.2, hc]
            rw [← hcw]
            simp only [Region.wanted, h1, hyd]
            cases c <;> cases g.2 <;> rfl
          · have hyd : yielded ops (putAll (dstOf ops) (fun i => listed.getD i true) x a0 (List.range ops.size)).tmps g.1 = none := by
              unfold yielded
              rw [hyx.1, Option.bind_some, hyx.2, hc]; rfl
            rw [hcw]
            simp only [Region.wanted, h1, hyd]
            rfl
      unfold wpOp
      rw [ho]
      show if Region.wanted o _ = true then _ else _
      cases hWi : W i with
      | false =>
        rw [hwant, hWi, if_neg (by decide)]
        exact hnext _ _ (hskip i hil hWi _ _ _ hI hi2.1)
      | true =>
      rw [hwant, hWi, if_pos rfl]
      left
      have hst := hs i o ho hWi (fun i => listed.getD i true) x w hI hi2.1 hdep (fun v w' => wpAny P .any ops Q fuel (listed.setIfInBounds i true) ((putAll (dstOf ops) (fun i => listed.getD i true) x a0 (List.range ops.size)).put o.dst v) w') hnext
      refine wp_transfer ?_ ?_ (fun v w' hk => hk) hst
      · refine execOp_congr o hsel fun y hy => ?_
        cases y with
        | tmp t =>
          have hpe := putE_eq (x := x) (es.getD i []) a0 fun p hp => (h5 p hp).1
          rw [hpe]
          rcases h6 t hy with ⟨p, hp, hpt⟩ | hno
          · have hq := (h5 p hp).1
            rw [hpt] at hq
            rw [putAll_in hdd (hdep p hp) hq _ _ (List.mem_range.2 (h5 p hp).2.1) (hdst _ _ hq), putAll_in hdd (L := fun _ => true) rfl hq _ _ (List.mem_map.2 ⟨p, hp, rfl⟩) (hdst _ _ hq)]
          · refine (putAll_outL _ _ fun j _ hLj hj => ?_).trans (putAll_outL _ _ fun j hjm _ hj => ?_).symm
            · have h8 := hord _ _ _ hI i j (hno j hj).1 (hno j hj).2 hi2.1
              rw [show listed.getD j true = true from hLj] at h8
              cases h8
            · obtain ⟨p, hp, rfl⟩ := List.mem_map.1 hjm
              obtain ⟨_, _, e, he, hb, hon⟩ := h5 p hp
              have h9 := h4 e he hb
              have h10 := (hno _ hj).1
              omega
        | _ => rfl
      · intro d hd
        rw [putE_eq (dst := dstOf ops) _ _ fun p hp => (h5 p hp).1, putAll_size]
        exact hdst i d (by simp [dstOf, ho, hd])

theorem wp_region_growA {id : Nat} {draw : Bool} {ops : Array Oper} {Q : Exit → Act → World → Prop} {a0 : Act} {w : World} (hm : P.follows .mixedOrders = true) (Inv : (Nat → Bool) → (Nat → Value) → World → Prop) (W : Nat → Bool) (es : List (List (Nat × Option Tmp))) (all : List (Nat × Option Tmp)) (hchk : growOKA ops W es all a0.tmps.size = true)
    (hord : ∀ L x w, Inv L x w → ∀ i j, i < j → j + 1 = ops.size → L i = false → L j = false)
    (h0 : ∀ W', W' = w ∨ W' = w.drew → Inv (fun i => decide (ops.size ≤ i)) (fun _ => undef) W') (hg : ∀ i o g, ops[i]? = some o → o.guard = some g → ∀ L x w, Inv L x w → L g.1 = true → (∃ c, x g.1 = .bool c ∧ (c == g.2) = W i) ∨ (x g.1 = undef ∧ W i = false))
    (hskip : ∀ i, i < ops.size → W i = false → ∀ L x w, Inv L x w → L i = false → Inv (upd L i true) (upd x i undef) w) (hs : ∀ i o, ops[i]? = some o → W i = true → GrowStep P Inv a0 i o (es.getD i [])) (hend : ∀ L x w', (∀ i, i < ops.size → L i = true) → Inv L x w' → Q .normal (putE x a0 all) w') :
    (Code.region id ops draw).wp P Q a0 w := by
  have hLL : (fun i => (Array.replicate ops.size false).getD i true) = fun i => decide (ops.size ≤ i) := by
    funext i
    by_cases h : i < ops.size
    · simp [Array.getD, h]
    · simp [Array.getD, h]; omega
  have hmain : ∀ W', Inv (fun i => decide (ops.size ≤ i)) (fun _ => undef) W' → wpAny P .any ops Q ops.size (Array.replicate ops.size false) a0 W' := by
    intro W' h0
    have h := wpAny_growA Inv W es all hchk hord hg hskip hs hend ops.size (Array.replicate ops.size false) (fun _ => undef) W' (by simp) (Nat.le_trans List.countP_le_length (by simp)) (by rw [hLL]; exact h0)
    have hz : ∀ (is : List Nat) (a : Act), (∀ i ∈ is, i < ops.size) → putAll (dstOf ops) (fun i => (Array.replicate ops.size false).getD i true) (fun _ => undef) a is = a := by
      intro is
      induction is with
      | nil => intro a _; rfl
      | cons j is ih =>
        intro a h
        have hj := h j List.mem_cons_self
        simp only [putAll]
        rw [if_neg (by simp [Array.getD, hj])]
        exact ih a fun k hk => h k (List.mem_cons_of_mem _ hk)
    rw [hz _ _ fun i hi => List.mem_range.1 hi] at h
    exact h
  cases draw with
  | true => exact wp_region_any hm (hmain _ (h0 _ (.inr rfl)))
  | false =>
    refine wp_region ?_
    rw [List.range_eq_range']
    have hchk' := hchk
    unfold growOKA at hchk'
    simp only [Bool.and_eq_true, decide_eq_true_eq] at hchk'
    refine wpAny_ord (fun i o ho e he hb => ?_) ops.size 0 _ a0 w (by omega) (by simp) (fun j hj => by omega) (fun j _ hj => by simp [Array.getD, hj]) (hmain _ (h0 _ (.inl rfl)))
    have hl : i < ops.size := (Array.getElem?_eq_some_iff.1 ho).1
    have h := List.all_eq_true.1 hchk'.2 i (List.mem_range.2 hl)
    rw [ho] at h
    simp only [Bool.and_eq_true] at h
    have := Array.all_eq_true'.1 h.1.1.2 e (Array.mem_toList_iff.1 he)
    simpa [hb] using this

end
/-- What an operation leaves alone: no store. -/
def calm : PK → Bool
  | .p .. => true
  | .list .. => true
  | _ => false
def reach (es : List (List (Nat × Option Tmp))) : Nat → List Nat → List Nat
  | 0, l => l
  | k + 1, l => reach es k (l ++ l.flatMap fun i => (es.getD i []).map (·.1))
theorem reach_all {es : List (List (Nat × Option Tmp))} {L : Nat → Bool} (n : Nat) (hn : ∀ i, i < n → ∀ p ∈ es.getD i [], p.1 < n) (hL : ∀ i, i < n → L i = true → ∀ p ∈ es.getD i [], L p.1 = true) : ∀ (k : Nat) (l : List Nat), (∀ i ∈ l, i < n ∧ L i = true) → ∀ i ∈ reach es k l, L i = true
  | 0, _, h => fun i hi => (h i hi).2
  | k + 1, l, h => by
    refine reach_all n hn hL k _ fun i hi => ?_
    rcases List.mem_append.1 hi with hi | hi
    · exact h i hi
    · obtain ⟨j, hj, hij⟩ := List.mem_flatMap.1 hi
      obtain ⟨p, hp, rfl⟩ := List.mem_map.1 hij
      exact ⟨hn j (h j hj).1 p hp, hL j (h j hj).1 (h j hj).2 p hp⟩
def lastOK (es : List (List (Nat × Option Tmp))) (s : Nat) : Bool :=
  ((List.range s).all fun i => (reach es 8 ((es.getD s []).map (·.1))).contains i) && (List.range (s + 1)).all fun i => (es.getD i []).all fun p => decide (p.1 < s)
theorem calm_below {c : PK} (hc : calm c = true) {S0 : Nat} {x : Nat → Value} {v : Value} {w w' : World} (h : c.move S0 x v w w') : Below w.heap.size w w' := by
  cases c with
  | p f h1 h2 => exact h
  | list n f h1 h2 => exact h.1
  | cell g f h1 h2 => cases hc
  | fresh n => cases hc
  | put e f h1 h2 => cases hc
  | same e => cases hc
theorem calm_ref {c : PK} (hc : calm c = true) : c.ref = none := by
  cases c with
  | p f h1 h2 => rfl
  | list n f h1 h2 => rfl
  | cell g f h1 h2 => cases hc
  | fresh n => cases hc
  | put e f h1 h2 => cases hc
  | same e => cases hc

/-- A region whose last two operations are an append (s) and the assignment of what it gives. -/
theorem wp_region_app {P : Program} {id : Nat} {draw : Bool} {ops : Array Oper} {Q : Exit → Act → World → Prop} {a0 : Act} {W0 : World} {N l t : Nat} {T : TypeId} {pos : String} {af : Array Edge} (hN : a0.tmps.size = N) (B s : Nat) (ks : List PK) (es : List (List (Nat × Option Tmp))) (all : List (Nat × Option Tmp)) (hm : P.follows .mixedOrders = true) (hchk : growOKA ops (fun _ => true) es all N = true) (hs : s + 2 = ops.size)
    (hcalm : (List.range s).all (fun i => calm (at_ ks i)) = true) (hlast : lastOK es s = true) (hgu : (List.range ops.size).all (fun i => match ops[i]? with | some o => o.guard.isNone | none => true) = true) (hB0 : B ≤ W0.heap.size) (R : Value → World → Prop)
    {oa : Oper} {ea : List (Nat × Option Tmp)} (hoa : ops[s]? = some oa) (hea : es.getD s [] = ea)
    (hst : PkFrom P ops es [s, s + 1] (Reg B W0 []) W0.heap.size ks a0 0)
    (happ : ∀ x w, Reg B W0 [] w → (∀ i, i < s → (at_ ks i).sem W0.heap.size x (x i) w) → ∀ K : Value → World → Prop, (∀ v w', R v w' → K v w') → oa.wp P (putE x a0 ea) w (fun a' w' => a'.defers = (putE x a0 ea).defers ∧ K (retOf oa.dst a') w') (fun _ _ _ => False))
    (hasg : ops[s + 1]? = some { dst := some l, op := .assign (.tmp t), type := T, pos := pos, after := af, guard := none }) (hes : es.getD (s + 1) [] = [(s, some t)]) (ht : decide (t < N) = true) (hl : decide (l < N) = true)
    (hend : ∀ x w', R (x s) w' → x (s + 1) = x s → Q .normal (putE x a0 all) w') : (Code.region id ops draw).wp P Q a0 W0 := by
  subst hN
  unfold lastOK at hlast
  rw [Bool.and_eq_true] at hlast
  have hdl : ∀ i, i < s + 1 → ∀ p ∈ es.getD i [], p.1 < s := fun i hi p hp => of_decide_eq_true (List.all_eq_true.1 (List.all_eq_true.1 hlast.2 i (List.mem_range.2 hi)) p hp)
  have hcm : ∀ i, i < s → calm (at_ ks i) = true := fun i hi => List.all_eq_true.1 hcalm i (List.mem_range.2 hi)
  have hfull : ∀ L : Nat → Bool, (∀ i, i < s → L i = true → ∀ p ∈ es.getD i [], L p.1 = true) → (∀ p ∈ es.getD s [], L p.1 = true) → ∀ i, i < s → L i = true := fun L h1 h2 i hi => by
    refine reach_all s (fun i hi => hdl i (by omega)) h1 8 _ (fun j hj => ?_) i (by simpa using List.all_eq_true.1 hlast.1 i (List.mem_range.2 hi))
    obtain ⟨p, hp, rfl⟩ := List.mem_map.1 hj
    exact ⟨hdl s (by omega) p hp, h2 p hp⟩
  refine wp_region_growA hm (fun L x w => (∀ i, i < s → L i = true → ∀ p ∈ es.getD i [], L p.1 = true) ∧ (L s = true → (∀ i, i < s → L i = true) ∧ R (x s) w) ∧ (L s = false → Reg B W0 [] w ∧ ∀ i, i < s → L i = true → (at_ ks i).sem W0.heap.size x (x i) w) ∧ (L (s + 1) = true → L s = true ∧ x (s + 1) = x s)) (fun _ => true) es all hchk ?_ ?_ ?_ ?_ ?_ ?_
  · intro L x w hI i j hij hj hLi
    have ej : j = s + 1 := by omega
    subst ej
    cases hLj : L (s + 1) with
    | false => rfl
    | true =>
      obtain ⟨h1, _⟩ := hI.2.2.2 hLj
      rcases Nat.lt_or_ge i s with h | h
      · rw [(hI.2.1 h1).1 i h] at hLi; cases hLi
      · have : i = s := by omega
        subst this
        rw [h1] at hLi; cases hLi
  · intro W' hW'
    refine ⟨fun i hi h => absurd (of_decide_eq_true h) (by omega), fun h => absurd (of_decide_eq_true h) (by omega), fun _ => ⟨Reg.start (fun g hg => by cases hg) hW', fun i hi h => absurd (of_decide_eq_true h) (by omega)⟩, fun h => absurd (of_decide_eq_true h) (by omega)⟩
  · intro i o g ho hg
    have := List.all_eq_true.1 hgu i (List.mem_range.2 (Array.getElem?_eq_some_iff.1 ho).1)
    rw [ho] at this
    simp [hg] at this
  · intro i _ h; cases h
  · intro i o ho _ L x w hI hLi hd K hK
    have hil : i < ops.size := (Array.getElem?_eq_some_iff.1 ho).1
    rcases Nat.lt_or_ge i s with his | his
    · have hLs : L s = false := by
        cases h : L s with
        | false => rfl
        | true => rw [(hI.2.1 h).1 i his] at hLi; cases hLi
      obtain ⟨hR, hsem⟩ := hI.2.2.1 hLs
      have hl1 : L (s + 1) = false := by
        cases h : L (s + 1) with
        | false => rfl
        | true => rw [(hI.2.2.2 h).1] at hLs; cases hLs
      refine deps_use (es.getD i []) (fun p hp => hsem p.1 (hdl i (by omega) p hp) (hd p hp)) (hst i o (Nat.zero_le _) ho (by simp; omega) w x hR) K fun v w' h1 h2 => hK v w' ?_
      have hb := calm_below (hcm i his) h1
      refine ⟨fun j hj hLj p hp => ?_, fun h => ?_, fun _ => ⟨hR.step hB0 hb, fun j hj hLj => ?_⟩, fun h => ?_⟩
      · by_cases e : j = i
        · subst e
          by_cases e2 : p.1 = j
          · rw [e2, upd_same]
          · rw [upd_ne _ _ e2]; exact hd p hp
        · rw [upd_ne _ _ e] at hLj
          by_cases e2 : p.1 = i
          · rw [e2, upd_same]
          · rw [upd_ne _ _ e2]; exact hI.1 j hj hLj p hp
      · rw [upd_ne _ _ (show s ≠ i by omega), hLs] at h; cases h
      · by_cases e : j = i
        · subst e
          rw [upd_same]
          exact PK.sem_upd h2 fun e he => by rw [calm_ref (hcm j hj)] at he; cases he
        · rw [upd_ne _ _ e] at hLj ⊢
          exact PK.sem_upd (PK.step (hsem j hj hLj) hb) fun e he => by rw [calm_ref (hcm j hj)] at he; cases he
      · rw [upd_ne _ _ (show s + 1 ≠ i by omega), hl1] at h; cases h
    · rcases Nat.lt_or_ge s i with h | h
      · have e : i = s + 1 := by omega
        subst e
        rw [ho] at hasg
        injection hasg with hasg
        rw [hes] at hd ⊢
        have hLs := hd (s, some t) (List.mem_singleton.2 rfl)
        obtain ⟨hall, hR⟩ := hI.2.1 hLs
        have hev : (putE x a0 [(s, some t)]).eval (.tmp t) = x s := put_eval _ _ _ (of_decide_eq_true ht)
        subst hasg
        unfold Oper.wp
        have hx : (execOp (putE x a0 [(s, some t)]).eval { dst := some l, op := .assign (.tmp t), type := T, pos := pos, after := af, guard := none }).run P w = .ok (.value (x s)) w := by
          show (pure (Next.value ((putE x a0 [(s, some t)]).eval (.tmp t))) : Sem Next).run P w = _
          rw [hev]; rfl
        rw [hx]
        show ((putE x a0 [(s, some t)]).put (some l) (x s)).defers = _ ∧ K (((putE x a0 [(s, some t)]).put (some l) (x s)).eval (.tmp l)) w
        refine ⟨rfl, ?_⟩
        rw [put_eval _ _ _ (show l < (putE x a0 [(s, some t)]).tmps.size by
          show l < (a0.tmps.setIfInBounds t (x s)).size
          rw [Array.size_setIfInBounds]; exact of_decide_eq_true hl)]
        refine hK _ _ ⟨fun j hj hLj p hp => ?_, fun _ => ⟨fun j hj => ?_, ?_⟩, fun h => ?_, fun _ => ⟨?_, ?_⟩⟩
        · rw [upd_ne _ _ (show j ≠ s + 1 by omega)] at hLj
          rw [upd_ne _ _ (show p.1 ≠ s + 1 by have := hdl j (by omega) p hp; omega)]
          exact hI.1 j hj hLj p hp
        · rw [upd_ne _ _ (show j ≠ s + 1 by omega)]; exact hall j hj
        · rw [upd_ne _ _ (show s ≠ s + 1 by omega)]; exact hR
        · rw [upd_ne _ _ (show s ≠ s + 1 by omega), hLs] at h; cases h
        · rw [upd_ne _ _ (show s ≠ s + 1 by omega)]; exact hLs
        · rw [upd_same, upd_ne _ _ (show s ≠ s + 1 by omega)]
      · have e : i = s := by omega
        subst e
        obtain ⟨hR, hsem⟩ := hI.2.2.1 hLi
        have hall := hfull L hI.1 hd
        have hl1 : L (i + 1) = false := by
          cases h : L (i + 1) with
          | false => rfl
          | true => rw [(hI.2.2.2 h).1] at hLi; cases hLi
        rw [hoa] at ho
        injection ho with ho
        subst ho
        subst hea
        refine happ x w hR (fun j hj => hsem j hj (hall j hj)) K fun v w' h => hK v w' ⟨fun j hj hLj p hp => ?_, fun _ => ⟨fun j hj => ?_, ?_⟩, fun h => ?_, fun h => ?_⟩
        · rw [upd_ne _ _ (show j ≠ i by omega)] at hLj
          rw [upd_ne _ _ (show p.1 ≠ i by have := hdl j (by omega) p hp; omega)]
          exact hI.1 j hj hLj p hp
        · rw [upd_ne _ _ (show j ≠ i by omega)]; exact hall j hj
        · rw [upd_same]; exact h
        · rw [upd_same] at h; cases h
        · rw [upd_ne _ _ (show i + 1 ≠ i by omega), hl1] at h; cases h
  · intro L x w' hL hI
    have hLs := hL s (by omega)
    have h1 := hI.2.2.2 (hL (s + 1) (by omega))
    exact hend x w' (hI.2.1 hLs).2 h1.2
end Go.Proofs.YtlikpnaffpngiaaGreatDoor

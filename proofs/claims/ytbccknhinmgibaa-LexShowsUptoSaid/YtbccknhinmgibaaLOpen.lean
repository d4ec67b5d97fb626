/- Trees that came in, opened; what they weigh beside the bulk of what is read. No condition but of sizes. -/
import Derived.Test.YtbccknhinmgibaaLMany
import Derived.Test.YtbccknhinmgibaaRows
import Derived.SizedLaws
set_option linter.unusedVariables false
set_option linter.unusedSimpArgs false
namespace Go.Proofs.Ytbccknhinmgibaa
open Go.ChangeShapes Go.WideShapes Go.ChangeAt Go.WideMaps Go.WideElems Go.RowKit

theorem wt_all {H : Type} {P : Program} {t : TypeId} : ∀ {els : List (DataW H)} {i : Nat} {e : DataW H}, els[i]? = some e → ∀ n ∈ e.weights P t, n ∈ DataW.weightsAll P t els
  | d :: r, 0, e, h, n, hn => by
    simp only [List.getElem?_cons_zero, Option.some.injEq] at h
    subst h
    simp only [DataW.weightsAll, List.mem_append]
    exact .inl hn
  | d :: r, i + 1, e, h, n, hn => by
    simp only [DataW.weightsAll, List.mem_append]
    exact .inr (wt_all (els := r) (i := i) (by simpa using h) n hn)
theorem spot_none {W : World} {a : Addr} {u : Value} (h : W.cell? a = some u) : a.spot = none := by
  unfold World.cell? at h
  split at h
  · split at h
    · cases h
    · next hs => simpa using hs
  · cases h
theorem bulk_drop {H : Type} {l : List (DataW H)} {j : Nat} {d : DataW H} (h : l[j]? = some d) : Rows.uptoBulkAll (l.drop j) = Rows.uptoBulk d + Rows.uptoBulkAll (l.drop (j + 1)) := by
  obtain ⟨hj, hd⟩ := List.getElem?_eq_some_iff.1 h
  rw [List.drop_eq_getElem_cons hj, hd]
  simp only [Rows.uptoBulkAll]
theorem bulk_le {H : Type} (l : List (DataW H)) : ∀ j, Rows.uptoBulkAll (l.drop j) ≤ Rows.uptoBulkAll l
  | 0 => Nat.le_refl _
  | j + 1 => by
    cases h : l[j]? with
    | none =>
      rw [List.drop_eq_nil_of_le (by have := List.getElem?_eq_none_iff.1 h; omega)]
      exact Nat.zero_le _
    | some d =>
      have := bulk_drop h
      have := bulk_le l j
      omega
set_option maxRecDepth 100000 in
theorem open_fo {H : Type} {enc : TypeId × Value → H} {W : World} : ∀ (fuel : Nat) {c : Value} {x : DataW H × List MemPlace}, DataW.trod enc Try.prog W 0 (fun _ => true) true fuel 24 [c] = some x → (∀ n ∈ x.1.weights Try.prog 24, n ≤ 140737488355328) →
    ∃ (K : Option Addr) (k : Nat) (f : Fo), c = .slice K f.len k ∧ f.len ≤ k ∧ k ≤ maxLen ∧ f.len ≤ 140737488355328 ∧ FoAt W K 0 f ∧ f.tot ≤ Rows.uptoBulk x.1 := by
  intro fuel
  induction fuel using Nat.strongRecOn with
  | _ fuel ih =>
    intro c x h hw
    have kb : 1 ≤ Try.prog.bytesOf 39 := of_decide_eq_true (by kernel_rfl)
    have k4 : Try.prog.cellsOf 39 = 4 := by kernel_rfl
    have ks : Try.prog.cellsOf 9 = 1 := by kernel_rfl
    have kt : Try.prog.cellsOf 24 = 1 := by kernel_rfl
    have kbo : Try.prog.cellsOf 4 = 1 := by kernel_rfl
    have ki : Try.prog.cellsOf 3 = 1 := by kernel_rfl
    rcases DataW.trod_slice Try.underlying24 h with ⟨e4, _⟩ | ⟨a, len, cap, elems, rest, n', hn', e4, hx3, _, hlc, hcm, hel, hat, _, _⟩
    · injection e4 with e4
      exact ⟨none, 0, .nil, e4, Nat.le_refl _, Nat.zero_le _, Nat.zero_le _, trivial, Nat.zero_le _⟩
    · injection e4 with e4
      have e5 : x.1.weights Try.prog 24 = ((elems.map (·.1)).length + (rest.map (·.1)).length) * Try.prog.bytesOf 39 :: (DataW.weightsAll Try.prog 39 (elems.map (·.1)) ++ DataW.weightsAll Try.prog 39 (rest.map (·.1))) := by
        rw [hx3]
        show DataW.weights Try.prog 24 (.slice (elems.map (·.1)) (rest.map (·.1))) = _
        rw [DataW.weights, Try.underlying24 ]
      rw [e5] at hw
      have hkl : len ≤ 140737488355328 := by
        have h1 := hw _ (List.mem_cons_self ..)
        rw [List.length_map, hel] at h1
        have h2 : (len + (rest.map (·.1)).length) * 1 ≤ (len + (rest.map (·.1)).length) * Try.prog.bytesOf 39 := Nat.mul_le_mul_left _ kb
        omega
      have hone : ∀ i, i < len → ∃ (s : ByteArray) (A : Option Addr) (cA : Nat) (k : Fo) (b : Bool) (p : Int) (d : DataW H), (elems.map (·.1))[i]? = some d ∧ a.spot = none ∧ W.cell? ⟨a.block, a.off + i * 4, none⟩ = some (.string s) ∧ W.cell? ⟨a.block, a.off + i * 4 + 1, none⟩ = some (.slice A k.len cA) ∧ W.cell? ⟨a.block, a.off + i * 4 + 2, none⟩ = some (.bool b) ∧ W.cell? ⟨a.block, a.off + i * 4 + 3, none⟩ = some (.int .i64 p) ∧
          (s.size ≤ 140737488355328 ∧ k.len ≤ cA ∧ cA ≤ maxLen ∧ k.len ≤ 140737488355328) ∧ FoAt W A 0 k ∧ 1 + s.size / 8 + k.tot ≤ Rows.uptoBulk d := fun i hi => by
        have he := hat i hi
        have hil : i < elems.length := by omega
        rw [k4, List.getElem?_eq_getElem hil] at he
        obtain ⟨cs', hcs, htr⟩ := Option.bind_eq_some_iff.1 he
        obtain ⟨_, hl5, hcell⟩ := World.cells?_some hcs
        have hww : ∀ m ∈ elems[i].1.weights Try.prog 39, m ≤ 140737488355328 := fun m hm => hw m (List.mem_cons_of_mem _ (List.mem_append.2 (.inl (wt_all (i := i) (by rw [List.getElem?_map, List.getElem?_eq_getElem hil]; rfl) m hm))))
        obtain ⟨xs, n, hf, hxe, hlen, hxl, hfs⟩ := DataW.trod_struct Try.underlying39 htr
        match cs', hl5 with
        | [c0, c1, c2, c3], _ =>
          have hx4 : xs.length = 4 := hxl
          match xs, hx4 with
          | [y0, y1, y2, y3], _ =>
            have f0 : DataW.trod enc Try.prog W 0 (fun _ => true) true n 9 [c0] = some y0 := by simpa [ks] using hfs 0 _ rfl
            have f1 : DataW.trod enc Try.prog W 0 (fun _ => true) true n 24 [c1] = some y1 := by simpa [kt] using hfs 1 _ rfl
            have f2 : DataW.trod enc Try.prog W 0 (fun _ => true) true n 4 [c2] = some y2 := by simpa [kbo] using hfs 2 _ rfl
            have f3 : DataW.trod enc Try.prog W 0 (fun _ => true) true n 3 [c3] = some y3 := by simpa [ki] using hfs 3 _ rfl
            have hwe : elems[i].1.weights Try.prog 39 = DataW.weightsEach Try.prog [ 9, 24, 4, 3 ] [y0.1, y1.1, y2.1, y3.1] := by
              rw [hxe]
              show DataW.weights Try.prog 39 (.agg [y0.1, y1.1, y2.1, y3.1]) = _
              unfold DataW.weights
              rw [ Try.underlying39 ]
              rfl
            have hpt : ∀ (j : Nat) (tj : TypeId) (d : DataW H), [y0.1, y1.1, y2.1, y3.1][j]? = some d → [ 9, 24, 4, 3 ][j]? = some tj → ∀ m ∈ d.weights Try.prog tj, m ≤ 140737488355328 := fun j tj d hd ht m hm => by
              refine hww m ?_
              rw [hwe]
              exact DataW.weights_mem_each ht hd m hm
            obtain ⟨s, e1, hx1, _⟩ := DataW.trod_string Try.underlying9 f0
            obtain ⟨b, e2, _⟩ := DataW.trod_bool Try.underlying4 f2
            obtain ⟨p, e3, _, _⟩ := DataW.trod_int Try.underlying3 f3
            injection e1 with e1
            injection e2 with e2
            injection e3 with e3
            subst e1; subst e2; subst e3
            have hsz : s.size ≤ 140737488355328 := hpt 0 9 _ rfl rfl _ (by
              rw [hx1]
              show _ ∈ [s.data.toList.length]
              rw [List.mem_singleton, Array.length_toList]; rfl)
            obtain ⟨A, cA, k, rfl, hk1, hk2, hk3, hk4, hk5⟩ := ih n (by omega) f1 (hpt 1 24 _ rfl rfl)
            have g0 := hcell 0 (by decide)
            rw [Addr.add_zero'] at g0
            have hsp : a.spot = none := by
              by_cases hi0 : i = 0
              · subst hi0
                have := spot_none (u := .string s) (by simpa using g0)
                simpa [Addr.add] using this
              · have he0 := hat 0 (by omega)
                rw [k4, List.getElem?_eq_getElem (by omega)] at he0
                obtain ⟨cs0, hcs0, _⟩ := Option.bind_eq_some_iff.1 he0
                obtain ⟨_, hl0, hc0⟩ := World.cells?_some hcs0
                have h00 := hc0 0 (by decide)
                rw [Addr.add_zero', List.getElem?_eq_getElem (by omega)] at h00
                have := spot_none h00
                simpa [Addr.add] using this
            obtain ⟨ab, ao, asp⟩ := a
            obtain rfl : asp = none := hsp
            have ha : ((⟨ab, ao, none⟩ : Addr).add (i * 4)) = ⟨ab, ao + i * 4, none⟩ := add_eq1 _ _ _
            rw [ha] at g0 hcell
            refine ⟨s, A, cA, k, b, p, elems[i].1, by rw [List.getElem?_map, List.getElem?_eq_getElem hil]; rfl, rfl, g0, ?_, ?_, ?_, ⟨hsz, hk1, hk2, hk3⟩, hk4, ?_⟩
            · have := hcell 1 (by decide); rw [add_eq1] at this; exact this
            · have := hcell 2 (by decide); rw [add_eq1] at this; exact this
            · have := hcell 3 (by decide); rw [add_eq1] at this; exact this
            · rw [hxe]
              show _ ≤ Rows.uptoBulk (.agg [y0.1, y1.1, y2.1, y3.1])
              have hb0 : Rows.uptoBulk y0.1 = s.size + 1 := by
                rw [hx1]
                show s.data.toList.length + 1 = _
                simp
              simp only [Rows.uptoBulk, Rows.uptoBulkAll, hb0]
              omega
      have hall : ∀ m j, m + j = len → ∃ f : Fo, f.len = m ∧ FoAt W (some a) j f ∧ f.tot ≤ Rows.uptoBulkAll ((elems.map (·.1)).drop j) := by
        intro m
        induction m with
        | zero => intro j hj; exact ⟨.nil, rfl, trivial, Nat.zero_le _⟩
        | succ m ihm =>
          intro j hj
          obtain ⟨f, hfl, hfa, hft⟩ := ihm (j + 1) (by omega)
          obtain ⟨s, A, cA, k, b, p, d, hd, hsp, h0, h1, h2, h3, hb, hk, hbu⟩ := hone j (by omega)
          obtain ⟨ab, ao, asp⟩ := a
          obtain rfl : asp = none := hsp
          refine ⟨.cons s k b p f, by simp [Fo.len, hfl], ⟨⟨ab, ao, A, cA, rfl, h0, h1, h2, h3, hb, hk⟩, hfa⟩, ?_⟩
          rw [bulk_drop hd]
          simp only [Fo.tot]
          omega
      obtain ⟨f, hfl, hfa, hft⟩ := hall len 0 rfl
      refine ⟨some a, cap, f, by rw [e4, hfl], by omega, hcm, by omega, hfa, ?_⟩
      rw [hx3]
      show _ ≤ Rows.uptoBulk (.slice (elems.map (·.1)) (rest.map (·.1)))
      simp only [Rows.uptoBulk]
      rw [List.drop_zero] at hft
      omega
end Go.Proofs.Ytbccknhinmgibaa

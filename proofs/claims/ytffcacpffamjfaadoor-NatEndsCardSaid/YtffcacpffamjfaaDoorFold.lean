/- Contract of nat.fold: rows are put one behind the other to a number, by a function value of which a contract is known. Contract of nat.Add: the right row of the sum of all; rows of at most 10000 digits, the sum below 10^9 to the power of at most 100000. -/
import Derived.Test.YtffcacpffamjfaaDoorPlus
import Derived.Deep.RegionHeld3
namespace Go.Proofs.YtffcacpffamjfaaDoor
open Go.RowKit

/-- A row of a list of rows: where it lies, its capacity, its digits. -/
abbrev Arow := Option Addr × Nat × List Nat
def sl (r : Arow) : Value := .slice r.1 r.2.2.length r.2.1
/-- Of the slice of slices at A: each of its rows reads as a list of digits. -/
def Rows_ (w : World) (A : Option Addr) (L : List Arow) : Prop := Row w A (L.map sl) ∧ ∀ r ∈ L, Row w r.1 (u32s r.2.2) ∧ small 4294967296 r.2.2 ∧ r.2.2.length ≤ 10000
def vals (L : List Arow) : List Nat := L.map fun r => val r.2.2

theorem Rows_.below {w w' : World} {A : Option Addr} {L : List Arow} (h : Rows_ w A L) (hb : Below w.heap.size w w') : Rows_ w' A L :=
  ⟨h.1.below hb, fun r hr => ⟨(h.2 r hr).1.below hb, (h.2 r hr).2⟩⟩

/-- The number v, of a right row of its own from block B on. -/
def RetNumB (w : World) (B n : Nat) (e : Ending) (w' : World) : Prop := ∃ v, e = .returned (.agg #[v]) ∧ IsNat w' B v n ∧ Below w.heap.size w w'

set_option maxRecDepth 100000 in
set_option maxHeartbeats 2000000 in
theorem fold_plus {w : World} {B0 N : Nat} {A1 A : Option Addr} {c1 c : Nat} {xs : List Nat} {L : List Arow} (hx : right xs) (ho1 : Own w B0 23 (.slice A1 xs.length c1) (u32s xs)) (hB0 : B0 ≤ w.heap.size) (hL : Rows_ w A L)
    (hacc : ∀ k, k ≤ L.length → ((vals L).take k).foldl (fun a b => a + b) (val xs) < 1000000000 ^ N) (hN : N ≤ 100000) (hlen : L.length ≤ 100000) :
    Calls Tryd.prog 31 #[.agg #[.slice A1 xs.length c1], .func (.func 32) #[] #[], .slice A L.length c] w (RetNumB w B0 ((vals L).foldl (fun a b => a + b) (val xs))) := by
  have HAcc := Lib.hid hacc
  clear hacc
  go_enter Tryd.func31, Tryd.ntmps31
  go_wp2_with fail
  obtain ⟨w1, hw1⟩ : ∃ w1, w1 = (w.alloc (Obj.cells #[Value.slice A1 xs.length c1] 42)).alloc (Obj.cells #[Value.slice none 0 0] 42) := ⟨_, rfl⟩
  have hb1 : Below w.heap.size w w1 := by rw [hw1]; exact below_first ((Below.refl _ _).alloc (Nat.le_refl _) _)
  have hs1 : w1.heap.size = w.heap.size + 2 := by rw [hw1]; simp
  have HBox : Hid (w1.heap[w.heap.size]? = some (.cells #[Value.slice A1 xs.length c1] 42 (0, 0))) := by
    rw [hw1]; exact first_block ((Below.refl _ _).alloc (Nat.le_refl _) _)
  have HRes : Hid (w1.heap[w.heap.size + 1]? = some (.cells #[Value.slice none 0 0] 42 (0, 0))) := by
    rw [hw1]
    have := heap_alloc_new (w.alloc (Obj.cells #[Value.slice A1 xs.length c1] 42)) (Obj.cells #[Value.slice none 0 0] 42)
    rw [show (w.alloc (Obj.cells #[Value.slice A1 xs.length c1] 42)).heap.size = w.heap.size + 1 from by simp] at this
    exact this
  rw [← hw1]
  have HS1 := Lib.hid hs1
  clear hw1 hs1
  go_loopw [11] (fun i wr => ∃ (k : Nat) (A' : Option Addr) (c' : Nat) (rs : List Nat), k ≤ L.length ∧ i = .int .i64 k ∧ Hid (wr.heap[w.heap.size]? = some (.cells #[Value.slice A' rs.length c'] 42 (0, 0))) ∧ Hid (wr.heap[w.heap.size + 1]? = some (.cells #[Value.slice none 0 0] 42 (0, 0))) ∧
      right rs ∧ Hid (val rs = ((vals L).take k).foldl (fun a b => a + b) (val xs)) ∧ Own wr B0 23 (.slice A' rs.length c') (u32s rs) ∧ Below w.heap.size w wr ∧ w1.heap.size ≤ wr.heap.size)
    (fun i _ => L.length - (intOf i).toNat)
  case atStart => exact ⟨0, A1, c1, xs, Nat.zero_le _, rfl, HBox, HRes, hx, by simp [Hid], ho1.below hb1, hb1, Nat.le_refl _⟩
  case round =>
    obtain ⟨k, A', c', rs, hk, rfl, HB, HR, hrs, HV, hown, hb, hsz⟩ := hrel
    by_cases hlt : k < L.length
    · have hcb := cell_of_one HB.out
      have hfb := free_of_one HB.out
      obtain ⟨ad, rfl, hce⟩ := (hL.1.below hb).at_ (k := k) (by simpa using hlt)
      rw [List.getElem_map] at hce
      obtain ⟨r, hr⟩ : ∃ r, r = L[k] := ⟨_, rfl⟩
      rw [← hr] at hce
      have hrm : r ∈ L := by rw [hr]; exact List.getElem_mem _
      obtain ⟨Ar, cr, ds⟩ := r
      have hce' : wr.cell? (ad.add k) = some (.slice Ar ds.length cr) := hce
      obtain ⟨hrd0, hdsm, hdsl⟩ := hL.2 _ hrm
      have hrd : Row wr Ar (u32s ds) := Row.below hrd0 hb
      have hdsm' : small 4294967296 ds := hdsm
      have hdsl' : ds.length ≤ 10000 := hdsl
      have HVs : Hid ((vals L).take (k + 1) = (vals L).take k ++ [val ds]) := by
        show _ = _
        rw [List.take_add_one, List.getElem?_eq_getElem (by simpa [vals] using hlt)]
        simp only [vals, List.getElem_map, ← hr, Option.toList_some]
      have hrl : rs.length ≤ 100000 := Nat.le_trans (right_length_le hrs (by rw [HV.out]; exact HAcc.out k hk)) hN
      have hrr : Row wr.drew A' (u32s rs) := hown.row32
      have hlw : w.heap.size + 2 ≤ wr.heap.size := by rw [← HS1.out]; exact hsz
      clear hr hce hrm hrd0 hdsm hdsl
      go_wp2
      go_region_with (first
        | (go_at_call 27; refine (of_any (w := wr.drew) hrd hdsm' (by omega)).mono ?_; rintro e w2 ⟨v2, rfl, ⟨ys, hy, hyv, hyo⟩, hb2⟩; obtain ⟨A2, c2, rfl, hry, _⟩ := hyo.slice32; have hcb2 : w2.cell? ⟨w.heap.size, 0, none⟩ = some (.slice A' rs.length c') := (hb2.cell (p := ⟨w.heap.size, 0, none⟩) (show w.heap.size < wr.heap.size by omega)).trans hcb)
        | (go_at_call 32; refine (plus_any (Row.below hrr hb2) hry hrs.1 hy.1 hrl (Nat.le_trans (right_length_le hy (by rw [hyv]; exact val_lt32 hdsm')) (by omega))).mono ?_; rintro e w3 ⟨v3, rfl, ⟨zs, hz, hzv, hzo⟩, hb3⟩; obtain ⟨A3, c3, rfl, _⟩ := hzo.slice32; have hsz2 : wr.heap.size ≤ w2.heap.size := hb2.size; have hB3 := (hb3.block w.heap.size (by omega)).trans ((hb2.block w.heap.size (show w.heap.size < wr.heap.size by omega)).trans HB.out); have hcb3 := cell_of_one hB3; have hfb3 := free_of_one hB3; have HB3 := Lib.hid hB3; clear hB3))
      all_goals
        go_wp2
        go_roundw
        case rel =>
          refine ⟨k + 1, A3, c3, zs, by omega, by go_num, one_setCell HB3.out, ?_, hz, ?_, ?_, ?_, ?_⟩
          · exact (Below.heap_setCell _ _ _ _ (by simp)).trans ((hb3.block _ (by omega)).trans ((hb2.block (w.heap.size + 1) (show w.heap.size + 1 < wr.heap.size by omega)).trans HR.out))
          · show _ = _
            rw [HVs.out, List.foldl_append, ← HV.out, hzv, hyv]; rfl
          · exact (hzo.setBelow (show w.heap.size < w2.heap.size by omega) _).mono (by omega)
          · exact (((Below.drew hb).trans (hb2.mono (show w.heap.size ≤ wr.heap.size by omega))).trans (hb3.mono (by omega))).setCell (Nat.le_refl _) _
          · have := hb3.size
            simp; omega
        case measure => simp [intOf]; omega
    · have hcb := cell_of_one HB.out
      have hcr := cell_of_one HR.out
      have hfr := free_of_one HR.out
      have hcs := cell_of_one (one_setCell (u := .slice A' rs.length c') HR.out)
      have hk' : k = L.length := by omega
      have HK := Lib.hid hk'
      clear hk'
      go_wp2
      refine bodyPost_ret (v := .agg #[.slice A' rs.length c']) (by simp [results, Tryd.results31, go_sem, hcs]) rfl ?_
      refine ⟨_, rfl, ⟨rs, hrs, ?_, hown.setOther HR.out (by decide) _⟩, hb.setCell (Nat.le_succ _) _⟩
      rw [HV.out, HK.out]; congr 1; rw [List.take_of_length_le (by simp [vals])]
end Go.Proofs.YtffcacpffamjfaaDoor

namespace Go.Proofs.YtffcacpffamjfaaDoor
open Go.RowKit

set_option maxRecDepth 100000 in
theorem add_any {w : World} {N : Nat} {A : Option Addr} {c : Nat} {L : List Arow} (hL : Rows_ w A L) (hacc : ∀ k, k ≤ L.length → ((vals L).take k).foldl (fun a b => a + b) 0 < 1000000000 ^ N) (hN : N ≤ 100000) (hlen : L.length ≤ 100000) :
    Calls Tryd.prog 9 #[.slice A L.length c] w (RetNat w ((vals L).foldl (fun a b => a + b) 0)) := by
  have hf := fold_plus (w := w) (B0 := w.heap.size) (N := N) (A1 := none) (c1 := 0) (c := c) (xs := []) right_nil (Own.nil _ _ _) (Nat.le_refl _) hL hacc hN hlen
  have HF := Lib.hid hf
  have hfield := run_field
  clear hf hacc
  go_enter Tryd.func9, Tryd.ntmps9
  go_wp2_with fail
  refine HF.out.mono ?_
  rintro e w2 ⟨v, rfl, hv, hb⟩
  obtain ⟨rs, h1, h2, h3⟩ := hv
  obtain ⟨A2, c2, rfl, _⟩ := h3.slice32
  go_wp2
  go_ret
  exact ⟨_, rfl, ⟨rs, h1, h2, h3⟩, hb⟩
end Go.Proofs.YtffcacpffamjfaaDoor

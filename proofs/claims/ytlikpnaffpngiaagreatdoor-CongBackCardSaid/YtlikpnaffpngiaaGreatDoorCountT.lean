/- whetstonekit.TermOf, TermsOf: what they tell of terms, as far as 3000. Premise of the steps: terms in memory, of whatever shape. No other condition. -/
import Derived.Test.YtlikpnaffpngiaaGreatDoorStepT
set_option linter.unusedVariables false
set_option linter.unusedSimpArgs false
namespace Go.Proofs.YtlikpnaffpngiaaGreatDoor
open Go.RowKit

mutual
/-- What TermOf, TermsOf tell. -/
def cT : Tm → Int → Int
  | .mk _ s _ ds l, m => 1 + (s.size : Int) / 8 + ds.length + cTs l 0 (m - 1)
def cTs : List Tm → Int → Int → Int
  | [], n, _ => n
  | t :: l, n, m => if n ≤ m then cTs l (n + cT t (m - n)) m else n
end
theorem cT_eq (k : Int) (s : ByteArray) (b : Bool) (ds : List Nat) (l : List Tm) (m : Int) : cT (.mk k s b ds l) m = 1 + (s.size : Int) / 8 + ds.length + cTs l 0 (m - 1) := by rw [cT]
theorem cTs_nil (n m : Int) : cTs [] n m = n := by rw [cTs]
theorem cTs_cons (t : Tm) (l : List Tm) (n m : Int) : cTs (t :: l) n m = if n ≤ m then cTs l (n + cT t (m - n)) m else n := by rw [cTs]
mutual
/-- Names and digits are no longer than memory is. -/
def Fits : Tm → Prop
  | .mk _ s _ ds l => s.size ≤ 140737488355328 ∧ ds.length ≤ 140737488355328 ∧ FitsL l
def FitsL : List Tm → Prop
  | [] => True
  | t :: l => Fits t ∧ FitsL l
end
theorem fits_eq (k : Int) (s : ByteArray) (b : Bool) (ds : List Nat) (l : List Tm) : Fits (.mk k s b ds l) = (s.size ≤ 140737488355328 ∧ ds.length ≤ 140737488355328 ∧ FitsL l) := by rw [Fits]
theorem fitsL_cons (t : Tm) (l : List Tm) : FitsL (t :: l) = (Fits t ∧ FitsL l) := by rw [FitsL]
theorem fitsL_nil : FitsL [] := by rw [FitsL]; trivial
theorem fitsL_of {l : List Tm} (h : ∀ (j : Nat) t, l[j]? = some t → Fits t) : FitsL l := by
  induction l with
  | nil => exact fitsL_nil
  | cons t l ih => rw [fitsL_cons]; exact ⟨h 0 t rfl, ih fun j t' hj => h (j + 1) t' (by simpa using hj)⟩
theorem fitsL_at {l : List Tm} (h : FitsL l) : ∀ {j : Nat} {t : Tm}, l[j]? = some t → Fits t := by
  induction l with
  | nil => intro j t hj; simp at hj
  | cons t l ih =>
    rw [fitsL_cons] at h
    intro j t' hj
    cases j with
    | zero => simp at hj; subst hj; exact h.1
    | succ j => exact ih h.2 (by simpa using hj)
theorem TmV.fits {W : World} {v : Value} {t : Tm} (h : TmV W v t) : Fits t := by
  induction h with
  | mk kind name neg ds kids A K c c' u hkd hnm hr hs hdl hkl hc hk ih =>
    rw [fits_eq]
    exact ⟨hnm, hdl, fitsL_of ih⟩
mutual
theorem cnt_T : ∀ (t : Tm) {m : Int}, 0 ≤ m → m ≤ 3000 → Fits t → Cnt (wtT t) m (cT t m)
  | .mk k s b ds l, m, h0, h3, hf => by
    rw [fits_eq] at hf
    rw [cT_eq]
    have h := cnt_Ts l (Cnt.nil (m := m - 1) (by omega)) (by omega) (by omega) hf.2.2
    rw [Nat.zero_add] at h
    have e : wtT (.mk k s b ds l) = 1 + s.size / 8 + ds.length + wtL l := by rw [wtT]
    rw [e]
    exact Cnt.part h0 hf.1 hf.2.1 h
theorem cnt_Ts : ∀ (l : List Tm) {a : Nat} {n m : Int}, Cnt a m n → -1 ≤ m → m ≤ 3000 → FitsL l → Cnt (a + wtL l) m (cTs l n m)
  | [], a, n, m, h, _, _, _ => by rw [cTs_nil, wtL_nil, Nat.add_zero]; exact h
  | t :: l, a, n, m, h, h1, h3, hf => by
    rw [fitsL_cons] at hf
    rw [cTs_cons, wtL_cons, ← Nat.add_assoc]
    by_cases hn : n ≤ m
    · rw [if_pos hn]
      have h0 : 0 ≤ n := h.1
      rcases h.more hn (cnt_T t (m := m - n) (by omega) (by omega) hf.1) with ⟨h4, _⟩ | h4
      · exact cnt_Ts l h4 h1 h3 hf.2
      · omega
    · rw [if_neg hn]
      obtain ⟨q1, q2, q3, q4⟩ := h
      exact ⟨q1, q2, fun hN => absurd (q3 (by omega)) (by omega), fun _ => by omega⟩
end
theorem told_ts {W0 w : World} {S0 : Nat} {F : FuncId} {x : Nat → Value} {v1 v2 u1 u2 : Value} {r : Int} (HQ : Hid (∀ W, Below W0.heap.size W0 W → Calls Tryz.prog F #[u1, u2] W (SaysI W r))) (hb : Below W0.heap.size W0 w) (h1 : (kIs u1).sem S0 x v1 w) (h2 : (kIs u2).sem S0 x v2 w) : Calls Tryz.prog F #[v1, v2] w (Told (kIs (.int .i64 r)) S0 x w) := by
  obtain rfl : v1 = u1 := h1
  obtain rfl : v2 = u2 := h2
  exact ti (HQ.out w hb)

set_option maxRecDepth 100000 in
set_option maxHeartbeats 4000000 in
theorem termOf_step {w : World} {kind : Int} {s : ByteArray} {neg : Bool} {ds : List Nat} {l : List Tm} {A K : Option Addr} {c c' : Nat} {m r : Int} (hs : s.size ≤ 140737488355328) (hd : ds.length ≤ 140737488355328) (h0 : 0 ≤ m) (h3 : m ≤ 3000) (hr0 : 0 ≤ r) (hr : r ≤ 1000000000000000000)
    (HQ : Hid (∀ W, Below w.heap.size w W → Calls Tryz.prog 14 #[.slice K l.length c', .int .i64 (m - 1)] W (SaysI W r))) :
    Calls Tryz.prog 29 #[.agg #[.int .u8 kind, .string s, .bool neg, .slice A ds.length c, .slice K l.length c'], .int .i64 m] w (SaysI w (1 + (s.size : Int) / 8 + ds.length + r)) := by
  go_enter Tryz.func29, Tryz.ntmps29
  repeat (refine wp_seq ?_)
  refine region_k ?_
  intro K0 hK
  have HK := Lib.hid hK
  clear hK
  go_wp2
  refine HK.out _ _ ?_
  clear HK
  refine then_n ?_
  obtain ⟨W_0, hW⟩ : ∃ W, W = w.alloc (Obj.cells #[.int .u8 kind, .string s, .bool neg, .slice A ds.length c, .slice K l.length c'] 28) := ⟨_, rfl⟩
  have bb : Below w.heap.size w W_0 := by rw [hW]; exact bal (Below.refl _ _) _
  have q0 : W_0.heap[w.heap.size]? = some (Obj.cells #[.int .u8 kind, .string s, .bool neg, .slice A ds.length c, .slice K l.length c'] 28) := by rw [hW]; exact new_at (by simp)
  rw [← hW]
  have m1 : W_0.cell? ⟨w.heap.size, 1, none⟩ = some (.string s) := by simp [World.cell?, q0]
  have m3 : W_0.cell? ⟨w.heap.size, 3, none⟩ = some (.slice A ds.length c) := by simp [World.cell?, q0]
  have m4 : W_0.cell? ⟨w.heap.size, 4, none⟩ = some (.slice K l.length c') := by simp [World.cell?, q0]
  clear hW q0
  refine name_frame (G := fun a => Code.wp _ _ _ a _) ?_
  intro a0 ha
  have hN : a0.tmps.size = 21 := by subst ha; kernel_rfl
  have hD : a0.defers = [] := by subst ha; rfl
  have e1 : a0.eval (.tmp 1) = .int .i64 m := by subst ha; kernel_rfl
  have e2 : a0.eval (.tmp 2) = .pointer (some ⟨w.heap.size, 0, none⟩) := by subst ha; kernel_rfl
  clear ha
  repeat (first | refine wp_seq ?_ | (refine wp_skip ?_; refine then_n ?_))
  refine wp_region_law hN w.heap.size
    [kIs (.pointer (some ⟨w.heap.size, 1, none⟩)), kIs (.string s), kIs (.int .i64 (s.size : Int)), kIs (.int .i64 ((s.size : Int) / 8)), kIs (.int .i64 (1 + (s.size : Int) / 8)), kIs (.pointer (some ⟨w.heap.size, 2, none⟩)), kIs (.pointer (some ⟨w.heap.size, 3, none⟩)), kIs (.slice A ds.length c), kIs (.int .i64 (ds.length : Int)), kIs (.int .i64 (1 + (s.size : Int) / 8 + ds.length)), kIs (.pointer (some ⟨w.heap.size, 4, none⟩)), kIs (.slice K l.length c'), kIs (.int .i64 m), kIs (.int .i64 (m - 1)), kIs (.int .i64 r), kIs (.int .i64 (1 + (s.size : Int) / 8 + ds.length + r)), kIs (.int .i64 (1 + (s.size : Int) / 8 + ds.length + r))]
    [ [], [(0, some 5)], [(1, some 6)], [(2, some 7)], [(3, some 8)], [], [(5, some 10)], [(6, some 11)], [(7, some 12)], [(4, some 9), (8, some 13)], [], [(10, some 15)], [], [(12, some 17)], [(11, some 16), (13, some 18)], [(9, some 14), (14, some 19)], [(15, some 20)] ]
    [(0, some 5), (1, some 6), (2, some 7), (3, some 8), (4, some 9), (5, some 10), (6, some 11), (7, some 12), (8, some 13), (9, some 14), (10, some 15), (11, some 16), (12, some 17), (13, some 18), (14, some 19), (15, some 20), (16, some 4)] [] [] (by kernel_rfl) (by kernel_rfl) (by kernel_rfl) (by kernel_rfl) (by kernel_rfl) (by kernel_rfl) (by kernel_rfl) bb.size ?_ ?_
  ·
    refine pk_cons rfl rfl ?_ ?_
    · exact st_pure [] [(2, .pointer (some ⟨w.heap.size, 0, none⟩))] (.pointer (some ⟨w.heap.size, 1, none⟩)) rfl hN (by kernel_rfl) (by kernel_rfl) (by kernel_rfl) (old1 e2) (by kernel_rfl) (by kernel_rfl) (by kernel_rfl) (fun _ => by kernel_rfl)
    refine pk_cons rfl rfl ?_ ?_
    · exact st_load1 m1 (by simp) (fun _ => run_ldS) hN (by kernel_rfl) (by kernel_rfl) rfl rfl
    refine pk_cons rfl rfl ?_ ?_
    · exact st_pure [.string s] [] (.int .i64 (s.size : Int)) rfl hN (by kernel_rfl) (by kernel_rfl) (by kernel_rfl) old0 (by kernel_rfl) (by kernel_rfl) (by kernel_rfl) (fun _ => by kernel_rfl)
    refine pk_cons rfl rfl ?_ ?_
    · exact st_pure [.int .i64 (s.size : Int)] [] (.int .i64 ((s.size : Int) / 8)) rfl hN (by kernel_rfl) (by kernel_rfl) (by kernel_rfl) old0 (by kernel_rfl) (by kernel_rfl) (by kernel_rfl) (fun w => ex_bin (by kernel_rfl) (by kernel_rfl) rfl (quo8_run (by omega) w))
    refine pk_cons rfl rfl ?_ ?_
    · exact st_pure [.int .i64 ((s.size : Int) / 8)] [] (.int .i64 (1 + (s.size : Int) / 8)) rfl hN (by kernel_rfl) (by kernel_rfl) (by kernel_rfl) old0 (by kernel_rfl) (by kernel_rfl) (by kernel_rfl) (fun w => ex_bin (by kernel_rfl) (by kernel_rfl) rfl (addI_run rfl (by omega) (by omega) w))
    refine pk_cons rfl rfl ?_ ?_
    · exact st_pure [] [(2, .pointer (some ⟨w.heap.size, 0, none⟩))] (.pointer (some ⟨w.heap.size, 2, none⟩)) rfl hN (by kernel_rfl) (by kernel_rfl) (by kernel_rfl) (old1 e2) (by kernel_rfl) (by kernel_rfl) (by kernel_rfl) (fun _ => by kernel_rfl)
    refine pk_cons rfl rfl ?_ ?_
    · exact st_pure [.pointer (some ⟨w.heap.size, 2, none⟩)] [] (.pointer (some ⟨w.heap.size, 3, none⟩)) rfl hN (by kernel_rfl) (by kernel_rfl) (by kernel_rfl) old0 (by kernel_rfl) (by kernel_rfl) (by kernel_rfl) (fun _ => by kernel_rfl)
    refine pk_cons rfl rfl ?_ ?_
    · exact st_load1 m3 (by simp) (fun _ => run_ldD) hN (by kernel_rfl) (by kernel_rfl) rfl rfl
    refine pk_cons rfl rfl ?_ ?_
    · exact st_pure [.slice A ds.length c] [] (.int .i64 (ds.length : Int)) rfl hN (by kernel_rfl) (by kernel_rfl) (by kernel_rfl) old0 (by kernel_rfl) (by kernel_rfl) (by kernel_rfl) (fun _ => by kernel_rfl)
    refine pk_cons rfl rfl ?_ ?_
    · exact st_pure [.int .i64 (1 + (s.size : Int) / 8), .int .i64 (ds.length : Int)] [] (.int .i64 (1 + (s.size : Int) / 8 + ds.length)) rfl hN (by kernel_rfl) (by kernel_rfl) (by kernel_rfl) old0 (by kernel_rfl) (by kernel_rfl) (by kernel_rfl) (fun w => ex_bin (by kernel_rfl) (by kernel_rfl) rfl (addI_run rfl (by omega) (by omega) w))
    refine pk_cons rfl rfl ?_ ?_
    · exact st_pure [] [(2, .pointer (some ⟨w.heap.size, 0, none⟩))] (.pointer (some ⟨w.heap.size, 4, none⟩)) rfl hN (by kernel_rfl) (by kernel_rfl) (by kernel_rfl) (old1 e2) (by kernel_rfl) (by kernel_rfl) (by kernel_rfl) (fun _ => by kernel_rfl)
    refine pk_cons rfl rfl ?_ ?_
    · exact st_load1 m4 (by simp) (fun _ => run_ldK) hN (by kernel_rfl) (by kernel_rfl) rfl rfl
    refine pk_cons rfl rfl ?_ ?_
    · exact st_pure [] [(1, .int .i64 m)] (.int .i64 m) rfl hN (by kernel_rfl) (by kernel_rfl) (by kernel_rfl) (old1 e1) (by kernel_rfl) (by kernel_rfl) (by kernel_rfl) (fun _ => by kernel_rfl)
    refine pk_cons rfl rfl ?_ ?_
    · exact st_pure [.int .i64 m] [] (.int .i64 (m - 1)) rfl hN (by kernel_rfl) (by kernel_rfl) (by kernel_rfl) old0 (by kernel_rfl) (by kernel_rfl) (by kernel_rfl) (fun w => ex_bin (by kernel_rfl) (by kernel_rfl) rfl (subI_run rfl (by omega) (by omega) w))
    refine pk_cons rfl rfl ?_ ?_
    · exact st_call2 hN (by kernel_rfl) (by kernel_rfl) (by kernel_rfl) (by kernel_rfl) (by kernel_rfl) rfl rfl rfl fun w x v1 v2 hC h1 h2 => told_ts HQ (bb.trans hC.below) h1 h2
    refine pk_cons rfl rfl ?_ ?_
    · exact st_pure [.int .i64 (1 + (s.size : Int) / 8 + ds.length), .int .i64 r] [] (.int .i64 (1 + (s.size : Int) / 8 + ds.length + r)) rfl hN (by kernel_rfl) (by kernel_rfl) (by kernel_rfl) old0 (by kernel_rfl) (by kernel_rfl) (by kernel_rfl) (fun w => ex_bin (by kernel_rfl) (by kernel_rfl) rfl (addI_run rfl (by omega) (by omega) w))
    refine pk_cons rfl rfl ?_ ?_
    · exact st_pure [.int .i64 (1 + (s.size : Int) / 8 + ds.length + r)] [] (.int .i64 (1 + (s.size : Int) / 8 + ds.length + r)) rfl hN (by kernel_rfl) (by kernel_rfl) (by kernel_rfl) old0 (by kernel_rfl) (by kernel_rfl) (by kernel_rfl) (fun _ => by kernel_rfl)
    exact pk_nil rfl
  intro W x hC hall
  refine then_n ?_
  obtain ⟨a1, ha⟩ : ∃ a, a = putE x a0 [(0, some 5), (1, some 6), (2, some 7), (3, some 8), (4, some 9), (5, some 10), (6, some 11), (7, some 12), (8, some 13), (9, some 14), (10, some 15), (11, some 16), (12, some 17), (13, some 18), (14, some 19), (15, some 20), (16, some 4)] := ⟨_, rfl⟩
  rw [← ha]
  have hD1 := defers_behind ha hD
  have bb1 := bb.trans hC.below
  have i4 := (slot_new (t := 4) (i := 16) ha hN (by kernel_rfl) (by kernel_rfl)).trans (show x 16 = .int .i64 (1 + (s.size : Int) / 8 + ds.length + r) from hall 16 (of_decide_eq_true (by kernel_rfl)))
  repeat (first | refine wp_seq ?_ | (refine wp_skip ?_; refine then_n ?_))
  refine wp_ret ?_
  repeat (refine then_r ?_)
  exact ret_one (t := 4) rfl hD1 i4 ⟨rfl, bb1⟩
end Go.Proofs.YtlikpnaffpngiaaGreatDoor

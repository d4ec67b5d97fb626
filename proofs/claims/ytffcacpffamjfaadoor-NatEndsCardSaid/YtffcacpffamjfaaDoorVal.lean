/- What the laws over three rows share: rows written out in new memory, their sums, whether they are short. DivMod's one example that the law asks for: 1000000000 by 7. What the laws of sums, products and quotients share: products written out in new memory; DivMod for any rows. Contract of nat.Right: whether a row of 32-bit digits is right; at most 1000000 digits. Contract of whetstoneref01.Right: whether a row of 32-bit digits is right; at most 1000000 digits. Values that read as numbers, whatever row they are: 'Rd' any row of 32-bit digits, 'Rr' a right row; and the calls of package nat over them. Rows of at most 4000 digits. -/
import Derived.Test.YtffcacpffamjfaaDoorFew
import Derived.Test.YtffcacpffamjfaaDoorFold
import Derived.Test.YtffcacpffamjfaaDoorMinus
import Derived.Test.YtffcacpffamjfaaDoorAwake
import Derived.Test.YtffcacpffamjfaaDoorDivMod
import Derived.Test.YtffcacpffamjfaaDoorLong
import Derived.Test.YtffcacpffamjfaaDoorOf
import Derived.Test.YtffcacpffamjfaaDoorNat1
namespace Go.Proofs.YtffcacpffamjfaaDoor
open Go.RowKit

theorem lit_row (w : World) (cs : Array Value) (T : TypeId) (h : cs.size ≤ maxLen) : Row (w.alloc (.cells cs T)) (some ⟨w.heap.size, 0, none⟩) cs.toList := by
  have hs : cs.size = cs.size * 1 := (Nat.mul_one _).symm
  have ho : Own (w.alloc (.cells cs T)) w.heap.size T (.slice (some ⟨w.heap.size, 0, none⟩) cs.size cs.size) cs.toList := Own.mk_ (World.ownsRow_lit w cs cs.size (Nat.le_refl _) h hs)
  obtain ⟨A, c, e, hr, _⟩ := ho.slice
  injection e with e1
  rw [e1]; exact hr

theorem rows_lit {w : World} {L : List Arow} (T : TypeId) (h8 : L.length ≤ 8) (h : ∀ r ∈ L, Row w r.1 (u32s r.2.2) ∧ small 4294967296 r.2.2 ∧ r.2.2.length ≤ 10000) :
    Rows_ (w.alloc (.cells (L.map sl).toArray T)) (some ⟨w.heap.size, 0, none⟩) L :=
  ⟨by
    have := lit_row w (L.map sl).toArray T (by unfold maxLen; simp; omega)
    simpa using this, fun r hr => ⟨(h r hr).1.alloc _, (h r hr).2⟩⟩

theorem same_eq {w : World} {A1 A2 : Option Addr} {c1 c2 : Nat} {xs ys : List Nat} (hr1 : Row w A1 (u32s xs)) (hr2 : Row w A2 (u32s ys)) (hlen : xs.length ≤ 1000000) {b : Bool} (hb : b = true ↔ xs = ys) :
    Calls Tryd.prog 8 #[.slice A1 xs.length c1, .slice A2 ys.length c2] w fun e w' => e = .returned (.bool b) ∧ Drawn w w' := by
  by_cases h : xs = ys
  · subst h
    rw [hb.2 rfl]; exact same_yes hr1 hr2 hlen
  · have : b = false := by
      cases b with
      | false => rfl
      | true => exact absurd (hb.1 rfl) h
    rw [this]; exact same_no hr1 hr2 hlen h

/-- The sum of two rows, written out in new memory. -/
theorem add_two {w : World} {A1 A2 : Option Addr} {c1 c2 : Nat} {xs ys : List Nat} (hr1 : Row w A1 (u32s xs)) (hr2 : Row w A2 (u32s ys)) (hx : small 4294967296 xs) (hy : small 4294967296 ys) (hl1 : xs.length ≤ 1000) (hl2 : ys.length ≤ 1000) :
    Calls Tryd.prog 9 #[.slice (some ⟨w.heap.size, 0, none⟩) 2 2] (w.alloc (.cells #[.slice A1 xs.length c1, .slice A2 ys.length c2] 24)) (RetNat (w.alloc (.cells #[.slice A1 xs.length c1, .slice A2 ys.length c2] 24)) (val xs + val ys)) := by
  have hR : Rows_ (w.alloc (.cells #[.slice A1 xs.length c1, .slice A2 ys.length c2] 24)) (some ⟨w.heap.size, 0, none⟩) [(A1, c1, xs), (A2, c2, ys)] :=
    rows_lit (L := [(A1, c1, xs), (A2, c2, ys)]) 24 (by simp) fun r hr => by
      rcases List.mem_cons.1 hr with rfl | hr
      · exact ⟨hr1, hx, by show xs.length ≤ 10000; omega⟩
      · rw [List.mem_singleton.1 hr]; exact ⟨hr2, hy, by show ys.length ≤ 10000; omega⟩
  obtain ⟨M, hM1, hM2⟩ : ∃ M, M ≤ 1001 ∧ 1001 ≤ M := ⟨1001, Nat.le_refl _, Nat.le_refl _⟩
  have hv1 : val xs < 1000000000 ^ M := Nat.lt_of_lt_of_le (val_lt32 hx) (Nat.pow_le_pow_right (by decide) (by omega))
  have hv2 : val ys < 1000000000 ^ M := Nat.lt_of_lt_of_le (val_lt32 hy) (Nat.pow_le_pow_right (by decide) (by omega))
  have h := add_any (N := M + 1) (c := 2) hR (fun k hk => by
    have hp : 0 < 1000000000 ^ M := Nat.pow_pos (by decide)
    rw [Nat.pow_succ]
    match k, hk with
    | 0, _ => simp; omega
    | 1, _ => simp [vals]; omega
    | k + 2, hk => simp [vals]; omega) (by omega) (by simp)
  have e : (vals [(A1, c1, xs), (A2, c2, ys)]).foldl (fun a b => a + b) 0 = val xs + val ys := by simp [vals]
  rw [e] at h
  exact h

theorem few_three {w : World} {A1 A2 A3 : Option Addr} {c1 c2 c3 : Nat} {xs ys zs : List Nat} (h1 : xs.length < 9223372036854775808) (h2 : ys.length < 9223372036854775808) (h3 : zs.length < 9223372036854775808) :
    Calls Tryd.prog 11 #[.slice (some ⟨w.heap.size, 0, none⟩) 3 3] (w.alloc (.cells #[.slice A1 xs.length c1, .slice A2 ys.length c2, .slice A3 zs.length c3] 24)) fun e w' => FewRet [(A1, c1, xs), (A2, c2, ys), (A3, c3, zs)] e ∧ w' = w.alloc (.cells #[.slice A1 xs.length c1, .slice A2 ys.length c2, .slice A3 zs.length c3] 24) :=
  few_any (L := [(A1, c1, xs), (A2, c2, ys), (A3, c3, zs)]) (c := 3) (lit_row w #[.slice A1 xs.length c1, .slice A2 ys.length c2, .slice A3 zs.length c3] 24 (by unfold maxLen; simp)) (by simp) (fun r hr => by
    rcases List.mem_cons.1 hr with rfl | hr
    · exact h1
    rcases List.mem_cons.1 hr with rfl | hr
    · exact h2
    · rw [List.mem_singleton.1 hr]; exact h3)
end Go.Proofs.YtffcacpffamjfaaDoor

namespace Go.Proofs.YtffcacpffamjfaaDoor
open Go.RowKit

theorem dm_ex : DmEx := fun w A1 A2 c1 c2 h1 h2 => by
  have h := divMod_yes (w := w) (c1 := c1) (c2 := c2) (xs := [0, 1]) (ys := [7]) h1 h2 (fun d hd => by
    rcases List.mem_cons.1 hd with rfl | hd
    · decide
    · rw [List.mem_singleton.1 hd]; decide) (fun d hd => by rw [List.mem_singleton.1 hd]; decide) (by simp) (by simp) (by simp [val]) (.inl (by simp [val]))
  refine h.mono fun e w' hh => ?_
  obtain ⟨v, u, he, hv, hu, hb⟩ := hh
  have e1 : val [0, 1] / val [7] = 142857142 := by simp [val]
  have e2 : val [0, 1] % val [7] = 6 := by simp [val]
  rw [e1] at hv
  rw [e2] at hu
  exact ⟨v, u, he, hv, hu, hb⟩
end Go.Proofs.YtffcacpffamjfaaDoor

namespace Go.Proofs.YtffcacpffamjfaaDoor
open Go.RowKit

theorem bstep {w W w' : World} (h1 : Below w.heap.size w W) (h2 : Below W.heap.size W w') : Below w.heap.size w w' := h1.trans (h2.mono h1.size)

theorem small_mono' {rs : List Nat} (h : right rs) : small 4294967296 rs := small_mono h.1 (by decide)
/-- DivMod for any rows, the divisor above 0. -/
theorem divMod_all {w : World} {A1 A2 : Option Addr} {c1 c2 : Nat} {xs ys : List Nat} (hr1 : Row w A1 (u32s xs)) (hr2 : Row w A2 (u32s ys)) (hx : small 4294967296 xs) (hy : small 4294967296 ys) (hl1 : xs.length ≤ 10000) (hl2 : ys.length ≤ 10000) (h0 : 0 < val ys) :
    Calls Tryd.prog 7 #[.slice A1 xs.length c1, .slice A2 ys.length c2] w (RetQR w (val xs / val ys) (val xs % val ys)) :=
  divMod_yes hr1 hr2 hx hy hl1 hl2 h0 (.inr long_any)


/-- A nought behind a number's text. -/
theorem dtext_ten {m : Nat} (h : 0 < m) : dtext m ++ ⟨#[48]⟩ = dtext (m * 10) := by
  have e : Lib.decDigits (m * 10) = Lib.decDigits m ++ [48] := by
    rw [decDigits_big (by omega), Nat.mul_div_cancel _ (by decide), Nat.mul_mod_left]; rfl
  unfold dtext
  rw [e]
  apply ByteArray.ext
  simp
end Go.Proofs.YtffcacpffamjfaaDoor

namespace Go.Proofs.YtffcacpffamjfaaDoor
open Go.RowKit

def RightRet (xs : List Nat) (e : Ending) : Prop := (right xs ∧ e = .returned (.bool true)) ∨ (¬ right xs ∧ e = .returned (.bool false))

set_option maxRecDepth 100000 in
set_option maxHeartbeats 1000000 in
theorem right_any {w : World} {A : Option Addr} {c : Nat} {xs : List Nat} (hr : Row w A (u32s xs)) (hd : small 4294967296 xs) (hlen : xs.length ≤ 1000000) :
    Calls Tryd.prog 18 #[.slice A xs.length c] w fun e w' => RightRet xs e ∧ w = w' := by
  obtain ⟨n, hn⟩ : ∃ n, n = xs.length := ⟨_, rfl⟩
  have hn1 : n ≤ 1000000 := by omega
  rw [← hn]
  have HN := Lib.hid hn
  clear hn hlen
  go_enter Tryd.func18, Tryd.ntmps18
  go_wp2
  go_loop [7] (fun iv => ∃ k : Nat, k ≤ n ∧ iv = .int .i64 (k : Int) ∧ Hid (small 1000000000 (xs.take k))) (fun iv => n - (intOf iv).toNat)
  case atStart => exact ⟨0, Nat.zero_le _, rfl, small_nil _⟩
  case round =>
    obtain ⟨k, hk, rfl, HS⟩ := hrel
    by_cases hlt : k < n
    · obtain ⟨ad, x, rfl, hc, hx, hm⟩ := hr.dig (k := k) (by rw [← HN.out]; exact hlt)
      have hx32 := hd x hm
      have HM := Lib.hid hm
      have HST : Hid (xs.take (k + 1) = xs.take k ++ [x]) := by
        have hkx : k < xs.length := by rw [← HN.out]; exact hlt
        show _ = _
        rw [List.take_add_one, List.getElem?_eq_getElem hkx, ← hx.out, List.getD_eq_getElem?_getD, List.getElem?_eq_getElem hkx]; rfl
      clear hm
      by_cases hb : 1000000000 ≤ x
      · have hbd : decide ((1000000000 : Int) ≤ (x : Int)) = true := by rw [decide_eq_true_eq]; omega
        have HB := Lib.hid hb
        clear hb
        go_wp2
        go_ret
        exact ⟨.inr ⟨fun h => by have := h.1 x HM.out; have := HB.out; omega, rfl⟩, rfl⟩
      · have hbd : decide ((1000000000 : Int) ≤ (x : Int)) = false := by rw [decide_eq_false_iff_not]; omega
        have HB := Lib.hid (Nat.lt_of_not_le hb)
        clear hb
        go_wp2
        go_round
        case rel => exact ⟨k + 1, by omega, by go_num, by
          show small 1000000000 (xs.take (k + 1))
          rw [HST.out]; exact small_snoc HS.out HB.out⟩
        case measure => simp [intOf]; omega
    · have hkn : k = n := by omega
      have hsm : small 1000000000 xs := by
        have := HS.out
        rw [hkn, HN.out, List.take_length] at this; exact this
      have HSM := Lib.hid hsm
      clear hkn hsm
      by_cases h0 : n = 0
      · have hl0 : ((n : Int) == 0) = true := by rw [h0]; rfl
        have hx0 : xs = [] := List.eq_nil_of_length_eq_zero (by rw [← HN.out]; exact h0)
        have HX := Lib.hid hx0
        clear h0 hx0
        go_wp2
        go_ret
        exact ⟨.inl ⟨⟨HSM.out, .inl HX.out⟩, rfl⟩, rfl⟩
      · have hl0 : ((n : Int) == 0) = false := by rw [beq_eq_false_iff_ne]; omega
        obtain ⟨ad, x, rfl, hc, hx, hm⟩ := hr.dig (k := n - 1) (by rw [← HN.out]; omega)
        have hx32 := hd x hm
        have hlast : xs.getLast? = some x := by
          rw [List.getLast?_eq_getElem?, ← HN.out, List.getElem?_eq_getElem (by rw [← HN.out]; omega), ← hx.out, List.getD_eq_getElem?_getD, List.getElem?_eq_getElem (by rw [← HN.out]; omega)]; rfl
        have HL := Lib.hid hlast
        have hne : xs ≠ [] := fun h => h0 (by rw [HN.out, h]; rfl)
        have HNE := Lib.hid hne
        have hn1' : 1 ≤ n := by omega
        clear hlast hne hm h0
        by_cases hx0 : x = 0
        · have ht : ((x : Int) != 0) = false := by rw [bne_eq_false_iff_eq]; omega
          have HX := Lib.hid hx0
          clear hx0
          go_wp2
          go_ret
          exact ⟨.inr ⟨fun h => by
            rcases h.2 with h1 | h1
            · exact HNE.out h1
            · exact h1 (by rw [HL.out, HX.out]), by simp [HX.out]⟩, rfl⟩
        · have ht : ((x : Int) != 0) = true := by rw [bne_iff_ne]; omega
          have HX := Lib.hid hx0
          clear hx0
          go_wp2
          go_ret
          exact ⟨.inl ⟨⟨HSM.out, .inr (fun h => HX.out (by rw [HL.out] at h; injection h))⟩, by simp⟩, rfl⟩
end Go.Proofs.YtffcacpffamjfaaDoor

namespace Go.Proofs.YtffcacpffamjfaaDoor
open Go.RowKit


set_option maxRecDepth 100000 in
set_option maxHeartbeats 1000000 in
theorem refRight {w : World} {A : Option Addr} {c : Nat} {xs : List Nat} (hr : Row w A (u32s xs)) (hd : small 4294967296 xs) (hlen : xs.length ≤ 1000000) :
    Calls Tryd.prog 19 #[.slice A xs.length c] w fun e w' => RightRet xs e ∧ w = w' := by
  obtain ⟨n, hn⟩ : ∃ n, n = xs.length := ⟨_, rfl⟩
  have hn1 : n ≤ 1000000 := by omega
  rw [← hn]
  have HN := Lib.hid hn
  clear hn hlen
  go_enter Tryd.func19, Tryd.ntmps19
  go_wp2
  go_loop [3] (fun iv => ∃ k : Nat, k ≤ n ∧ iv = .int .i64 (k : Int) ∧ Hid (small 1000000000 (xs.take k))) (fun iv => n - (intOf iv).toNat)
  case atStart => exact ⟨0, Nat.zero_le _, rfl, small_nil _⟩
  case round =>
    obtain ⟨k, hk, rfl, HS⟩ := hrel
    by_cases hlt : k < n
    · obtain ⟨ad, x, rfl, hc, hx, hm⟩ := hr.dig (k := k) (by rw [← HN.out]; exact hlt)
      have hx32 := hd x hm
      have HM := Lib.hid hm
      have HST : Hid (xs.take (k + 1) = xs.take k ++ [x]) := by
        have hkx : k < xs.length := by rw [← HN.out]; exact hlt
        show _ = _
        rw [List.take_add_one, List.getElem?_eq_getElem hkx, ← hx.out, List.getD_eq_getElem?_getD, List.getElem?_eq_getElem hkx]; rfl
      clear hm
      by_cases hb : 1000000000 ≤ x
      · have hbd : decide ((1000000000 : Int) ≤ (x : Int)) = true := by rw [decide_eq_true_eq]; omega
        have HB := Lib.hid hb
        clear hb
        go_wp2
        go_ret
        exact ⟨.inr ⟨fun h => by have := h.1 x HM.out; have := HB.out; omega, rfl⟩, rfl⟩
      · have hbd : decide ((1000000000 : Int) ≤ (x : Int)) = false := by rw [decide_eq_false_iff_not]; omega
        have HB := Lib.hid (Nat.lt_of_not_le hb)
        clear hb
        go_wp2
        go_round
        case rel => exact ⟨k + 1, by omega, by go_num, by
          show small 1000000000 (xs.take (k + 1))
          rw [HST.out]; exact small_snoc HS.out HB.out⟩
        case measure => simp [intOf]; omega
    · have hkn : k = n := by omega
      have hsm : small 1000000000 xs := by
        have := HS.out
        rw [hkn, HN.out, List.take_length] at this; exact this
      have HSM := Lib.hid hsm
      clear hkn hsm
      by_cases h0 : n = 0
      · have hl0 : ((n : Int) == 0) = true := by rw [h0]; rfl
        have hx0 : xs = [] := List.eq_nil_of_length_eq_zero (by rw [← HN.out]; exact h0)
        have HX := Lib.hid hx0
        clear h0 hx0
        go_wp2
        go_ret
        exact ⟨.inl ⟨⟨HSM.out, .inl HX.out⟩, rfl⟩, rfl⟩
      · have hl0 : ((n : Int) == 0) = false := by rw [beq_eq_false_iff_ne]; omega
        obtain ⟨ad, x, rfl, hc, hx, hm⟩ := hr.dig (k := n - 1) (by rw [← HN.out]; omega)
        have hx32 := hd x hm
        have hlast : xs.getLast? = some x := by
          rw [List.getLast?_eq_getElem?, ← HN.out, List.getElem?_eq_getElem (by rw [← HN.out]; omega), ← hx.out, List.getD_eq_getElem?_getD, List.getElem?_eq_getElem (by rw [← HN.out]; omega)]; rfl
        have HL := Lib.hid hlast
        have hne : xs ≠ [] := fun h => h0 (by rw [HN.out, h]; rfl)
        have HNE := Lib.hid hne
        have hn1' : 1 ≤ n := by omega
        clear hlast hne hm h0
        by_cases hx0 : x = 0
        · have ht : ((x : Int) != 0) = false := by rw [bne_eq_false_iff_eq]; omega
          have HX := Lib.hid hx0
          clear hx0
          go_wp2
          go_ret
          exact ⟨.inr ⟨fun h => by
            rcases h.2 with h1 | h1
            · exact HNE.out h1
            · exact h1 (by rw [HL.out, HX.out]), by simp [HX.out]⟩, rfl⟩
        · have ht : ((x : Int) != 0) = true := by rw [bne_iff_ne]; omega
          have HX := Lib.hid hx0
          clear hx0
          go_wp2
          go_ret
          exact ⟨.inl ⟨⟨HSM.out, .inr (fun h => HX.out (by rw [HL.out] at h; injection h))⟩, by simp⟩, rfl⟩
end Go.Proofs.YtffcacpffamjfaaDoor

namespace Go.Proofs.YtffcacpffamjfaaDoor
open Go.RowKit

/-- v is a row that stands for n. -/
def Rd (W : World) (v : Value) (n : Nat) : Prop := ∃ A c xs, v = .slice A xs.length c ∧ Row W A (u32s xs) ∧ small 4294967296 xs ∧ xs.length ≤ 4000 ∧ val xs = n
/-- v is the right row of n. -/
def Rr (W : World) (v : Value) (n : Nat) : Prop := ∃ A c xs, v = .slice A xs.length c ∧ Row W A (u32s xs) ∧ right xs ∧ xs.length ≤ 4000 ∧ val xs = n
theorem Rr.rd {W : World} {v : Value} {n : Nat} (h : Rr W v n) : Rd W v n := by
  obtain ⟨A, c, xs, h1, h2, h3, h4, h5⟩ := h
  exact ⟨A, c, xs, h1, h2, small_mono' h3, h4, h5⟩
theorem Rd.below {W w' : World} {v : Value} {n : Nat} (h : Rd W v n) (hb : Below W.heap.size W w') : Rd w' v n := by
  obtain ⟨A, c, xs, h1, h2, h3⟩ := h
  exact ⟨A, c, xs, h1, h2.below hb, h3⟩
theorem Rr.below {W w' : World} {v : Value} {n : Nat} (h : Rr W v n) (hb : Below W.heap.size W w') : Rr w' v n := by
  obtain ⟨A, c, xs, h1, h2, h3⟩ := h
  exact ⟨A, c, xs, h1, h2.below hb, h3⟩
theorem Rd.alloc {W : World} {v : Value} {n : Nat} (h : Rd W v n) (o : Obj) : Rd (W.alloc o) v n := h.below ((Below.refl _ _).alloc (Nat.le_refl _) _)
theorem Rr.alloc {W : World} {v : Value} {n : Nat} (h : Rr W v n) (o : Obj) : Rr (W.alloc o) v n := h.below ((Below.refl _ _).alloc (Nat.le_refl _) _)
theorem bal {w W : World} (h : Below w.heap.size w W) (o : Obj) : Below w.heap.size w (W.alloc o) := h.alloc h.size o
theorem rd_of {W : World} {A : Option Addr} {c : Nat} {xs : List Nat} (h : Row W A (u32s xs)) (hd : small 4294967296 xs) (hl : xs.length ≤ 4000) : Rd W (.slice A xs.length c) (val xs) := ⟨A, c, xs, rfl, h, hd, hl, rfl⟩
/-- A row of one digit, written out. -/
theorem rr_one (W : World) (d : Nat) (h0 : d ≠ 0) (h : d < 1000000000) : Rr (W.alloc (.cells #[.int .u32 (d : Int)] 23)) (.slice (some ⟨W.heap.size, 0, none⟩) 1 1) d :=
  ⟨_, 1, [d], rfl, row_lit W 23 #[.int .u32 (d : Int)] [d] rfl, right_one h0 h, by simp, by simp [val]⟩

theorem rr_lit1 (W : World) : Rr (W.alloc (.cells #[.int .u32 1] 23)) (.slice (some ⟨W.heap.size, 0, none⟩) 1 1) 1 := rr_one W 1 (by decide) (by decide)

/-- A call that tells the right row of n. -/
def RetR (W : World) (n : Nat) (e : Ending) (w' : World) : Prop := ∃ A k c, e = .returned (.slice A k c) ∧ Rr w' (.slice A k c) n ∧ Below W.heap.size W w'
theorem Rr.shape {W : World} {v : Value} {n : Nat} (h : Rr W v n) : ∃ A k c, v = .slice A k c := by
  obtain ⟨A, c, xs, h1, _⟩ := h
  exact ⟨A, _, c, h1⟩
theorem rr_isNat {W : World} {B n N : Nat} {v : Value} (h : IsNat W B v n) (hn : n < 1000000000 ^ N) (hN : N ≤ 4000) : Rr W v n := by
  obtain ⟨rs, h1, h2, h3⟩ := h
  obtain ⟨A, c, e, hr, _⟩ := h3.slice32
  exact ⟨A, c, rs, e, hr, h1, Nat.le_trans (right_length_le h1 (by rw [h2]; exact hn)) hN, h2⟩
theorem retR_of {W w' : World} {n N : Nat} {e : Ending} (h : RetNat W n e w') (hn : n < 1000000000 ^ N) (hN : N ≤ 4000) : RetR W n e w' := by
  obtain ⟨v, he, hi, hb⟩ := h
  have hr := rr_isNat hi hn hN
  obtain ⟨A, k, c, rfl⟩ := hr.shape
  exact ⟨A, k, c, he, hr, hb⟩

theorem rows_of2 {W : World} {v1 v2 : Value} {n1 n2 : Nat} (h1 : Rd W v1 n1) (h2 : Rd W v2 n2) (T : TypeId) : ∃ L : List Arow, L.length = 2 ∧ Rows_ (W.alloc (.cells #[v1, v2] T)) (some ⟨W.heap.size, 0, none⟩) L ∧ vals L = [n1, n2] := by
  obtain ⟨A1, c1, xs, rfl, r1, d1, l1, e1⟩ := h1
  obtain ⟨A2, c2, ys, rfl, r2, d2, l2, e2⟩ := h2
  refine ⟨[(A1, c1, xs), (A2, c2, ys)], rfl, rows_lit (L := [(A1, c1, xs), (A2, c2, ys)]) T (by simp) fun r hr => ?_, by simp [vals, e1, e2]⟩
  rcases List.mem_cons.1 hr with rfl | hr
  · exact ⟨r1, d1, by show xs.length ≤ 10000; omega⟩
  · rw [List.mem_singleton.1 hr]; exact ⟨r2, d2, by show ys.length ≤ 10000; omega⟩
theorem rows_of3 {W : World} {v1 v2 v3 : Value} {n1 n2 n3 : Nat} (h1 : Rd W v1 n1) (h2 : Rd W v2 n2) (h3 : Rd W v3 n3) (T : TypeId) : ∃ L : List Arow, L.length = 3 ∧ Rows_ (W.alloc (.cells #[v1, v2, v3] T)) (some ⟨W.heap.size, 0, none⟩) L ∧ vals L = [n1, n2, n3] := by
  obtain ⟨A1, c1, xs, rfl, r1, d1, l1, e1⟩ := h1
  obtain ⟨A2, c2, ys, rfl, r2, d2, l2, e2⟩ := h2
  obtain ⟨A3, c3, zs, rfl, r3, d3, l3, e3⟩ := h3
  refine ⟨[(A1, c1, xs), (A2, c2, ys), (A3, c3, zs)], rfl, rows_lit (L := [(A1, c1, xs), (A2, c2, ys), (A3, c3, zs)]) T (by simp) fun r hr => ?_, by simp [vals, e1, e2, e3]⟩
  rcases List.mem_cons.1 hr with rfl | hr
  · exact ⟨r1, d1, by show xs.length ≤ 10000; omega⟩
  rcases List.mem_cons.1 hr with rfl | hr
  · exact ⟨r2, d2, by show ys.length ≤ 10000; omega⟩
  · rw [List.mem_singleton.1 hr]; exact ⟨r3, d3, by show zs.length ≤ 10000; omega⟩

theorem val_add2 {W : World} {v1 v2 : Value} {n1 n2 N : Nat} (h1 : Rd W v1 n1) (h2 : Rd W v2 n2) (hn : n1 + n2 < 1000000000 ^ N) (hN : N ≤ 4000) :
    Calls Tryd.prog 9 #[.slice (some ⟨W.heap.size, 0, none⟩) 2 2] (W.alloc (.cells #[v1, v2] 24)) (RetR (W.alloc (.cells #[v1, v2] 24)) (n1 + n2)) := by
  obtain ⟨L, hl, hL, hv⟩ := rows_of2 h1 h2 24
  have h := add_any (N := N) (c := 2) hL (fun k hk => by
    rw [hv]; rw [hl] at hk
    match k, hk with
    | 0, _ => simp; omega
    | 1, _ => simp; omega
    | k + 2, hk => simp; exact hn) (by omega) (by omega)
  rw [hl, hv] at h
  have e : [n1, n2].foldl (fun a b => a + b) 0 = n1 + n2 := by simp
  rw [e] at h
  exact h.mono fun _ _ k => retR_of k hn hN
theorem val_add3 {W : World} {v1 v2 v3 : Value} {n1 n2 n3 N : Nat} (h1 : Rd W v1 n1) (h2 : Rd W v2 n2) (h3 : Rd W v3 n3) (hn : n1 + n2 + n3 < 1000000000 ^ N) (hN : N ≤ 4000) :
    Calls Tryd.prog 9 #[.slice (some ⟨W.heap.size, 0, none⟩) 3 3] (W.alloc (.cells #[v1, v2, v3] 24)) (RetR (W.alloc (.cells #[v1, v2, v3] 24)) (n1 + n2 + n3)) := by
  obtain ⟨L, hl, hL, hv⟩ := rows_of3 h1 h2 h3 24
  have h := add_any (N := N) (c := 3) hL (fun k hk => by
    rw [hv]; rw [hl] at hk
    match k, hk with
    | 0, _ => simp; omega
    | 1, _ => simp; omega
    | 2, _ => simp; omega
    | k + 3, hk => simp; exact hn) (by omega) (by omega)
  rw [hl, hv] at h
  have e : [n1, n2, n3].foldl (fun a b => a + b) 0 = n1 + n2 + n3 := by simp
  rw [e] at h
  exact h.mono fun _ _ k => retR_of k hn hN

theorem val_same {W : World} {v1 v2 : Value} {n1 n2 : Nat} (h1 : Rr W v1 n1) (h2 : Rr W v2 n2) (hn : n1 = n2) :
    Calls Tryd.prog 8 #[v1, v2] W fun e w' => e = .returned (.bool true) ∧ Drawn W w' := by
  obtain ⟨A1, c1, xs, rfl, r1, p1, l1, e1⟩ := h1
  obtain ⟨A2, c2, ys, rfl, r2, p2, l2, e2⟩ := h2
  obtain rfl : xs = ys := right_unique p1 p2 (by rw [e1, e2, hn])
  exact same_yes r1 r2 (by omega)
theorem val_trim {W : World} {v : Value} {n N : Nat} (h : Rd W v n) (hn : n < 1000000000 ^ N) (hN : N ≤ 4000) :
    Calls Tryd.prog 20 #[v] W (RetR W n) := by
  obtain ⟨A, c, xs, rfl, r, d, l, e⟩ := h
  have := trimRow_any (c := c) r d (by omega)
  rw [e] at this
  exact this.mono fun _ _ k => retR_of k hn hN
theorem val_cmp {W : World} {v1 v2 : Value} {n1 n2 : Nat} (h1 : Rd W v1 n1) (h2 : Rd W v2 n2) :
    Calls Tryd.prog 16 #[v1, v2] W fun e w' => e = .returned (.int .i64 (ordI (n1 : Int) (n2 : Int))) ∧ Below W.heap.size W w' := by
  obtain ⟨A1, c1, xs, rfl, r1, p1, l1, e1⟩ := h1
  obtain ⟨A2, c2, ys, rfl, r2, p2, l2, e2⟩ := h2
  have := cmp_any (c1 := c1) (c2 := c2) r1 r2 p1 p2 (by omega) (by omega)
  rw [e1, e2] at this
  exact this
theorem val_right {W : World} {v : Value} {n : Nat} (h : Rr W v n) : Calls Tryd.prog 18 #[v] W fun e w' => e = .returned (.bool true) ∧ W = w' := by
  obtain ⟨A, c, xs, rfl, r, p, l, e⟩ := h
  exact (right_any r (small_mono' p) (by omega)).mono fun _ _ k => ⟨by
    rcases k.1 with ⟨_, h⟩ | ⟨h, _⟩
    · exact h
    · exact absurd p h, k.2⟩
/-- Two values and true. -/
def RetS (W : World) (n : Nat) (e : Ending) (w' : World) : Prop := ∃ A k c, e = .returned (.tuple #[.slice A k c, .bool true]) ∧ Rr w' (.slice A k c) n ∧ Below W.heap.size W w'
theorem val_sub {W : World} {v1 v2 : Value} {n1 n2 N : Nat} (h1 : Rd W v1 n1) (h2 : Rd W v2 n2) (hle : n2 ≤ n1) (hn : n1 < 1000000000 ^ N) (hN : N ≤ 4000) :
    Calls Tryd.prog 13 #[v1, v2] W (RetS W (n1 - n2)) := by
  obtain ⟨A1, c1, xs, rfl, r1, p1, l1, e1⟩ := h1
  obtain ⟨A2, c2, ys, rfl, r2, p2, l2, e2⟩ := h2
  have := sub_yes (c1 := c1) (c2 := c2) r1 r2 p1 p2 (by omega) (by omega) (by rw [e1, e2]; exact hle)
  rw [e1, e2] at this
  refine this.mono fun _ _ ⟨v, he, hi, hb⟩ => ?_
  have hr := rr_isNat hi (Nat.lt_of_le_of_lt (Nat.sub_le _ _) hn) hN
  obtain ⟨A, k, c, rfl⟩ := hr.shape
  exact ⟨A, k, c, he, hr, hb⟩
theorem val_sub_no {W : World} {v1 v2 : Value} {n1 n2 : Nat} (h1 : Rd W v1 n1) (h2 : Rd W v2 n2) (hlt : n1 < n2) :
    Calls Tryd.prog 13 #[v1, v2] W fun e w' => e = .returned (.tuple #[.slice none 0 0, .bool false]) ∧ Below W.heap.size W w' := by
  obtain ⟨A1, c1, xs, rfl, r1, p1, l1, e1⟩ := h1
  obtain ⟨A2, c2, ys, rfl, r2, p2, l2, e2⟩ := h2
  exact sub_no (c1 := c1) (c2 := c2) r1 r2 p1 p2 (by omega) (by omega) (by rw [e1, e2]; exact hlt)
def RetD (W : World) (q r : Nat) (e : Ending) (w' : World) : Prop := ∃ A k c B j d, e = .returned (.tuple #[.slice A k c, .slice B j d, .bool true]) ∧ Rr w' (.slice A k c) q ∧ Rr w' (.slice B j d) r ∧ Below W.heap.size W w'
theorem val_div {W : World} {v1 v2 : Value} {n1 n2 N : Nat} (h1 : Rd W v1 n1) (h2 : Rd W v2 n2) (h0 : 0 < n2) (hn : n1 < 1000000000 ^ N) (hN : N ≤ 4000) :
    Calls Tryd.prog 7 #[v1, v2] W (RetD W (n1 / n2) (n1 % n2)) := by
  obtain ⟨A1, c1, xs, rfl, r1, p1, l1, e1⟩ := h1
  obtain ⟨A2, c2, ys, rfl, r2, p2, l2, e2⟩ := h2
  have := divMod_all (c1 := c1) (c2 := c2) r1 r2 p1 p2 (by omega) (by omega) (by rw [e2]; exact h0)
  rw [e1, e2] at this
  refine this.mono fun _ _ ⟨v, u, he, hv, hu, hb⟩ => ?_
  have hr := rr_isNat hv (Nat.lt_of_le_of_lt (Nat.div_le_self _ _) hn) hN
  have hs := rr_isNat hu (Nat.lt_of_le_of_lt (Nat.mod_le _ _) hn) hN
  obtain ⟨A, k, c, rfl⟩ := hr.shape
  obtain ⟨B, j, d, rfl⟩ := hs.shape
  exact ⟨A, k, c, B, j, d, he, hr, hs, hb⟩
theorem val_div_no {W : World} {v1 v2 : Value} {n1 : Nat} (h1 : Rd W v1 n1) (h2 : Rd W v2 0) :
    Calls Tryd.prog 7 #[v1, v2] W fun e w' => e = .returned (.tuple #[.slice none 0 0, .slice none 0 0, .bool false]) ∧ Below W.heap.size W w' := by
  obtain ⟨A1, c1, xs, rfl, r1, p1, l1, e1⟩ := h1
  obtain ⟨A2, c2, ys, rfl, r2, p2, l2, e2⟩ := h2
  exact divMod_no r2 p2 (by omega) e2
theorem rr_nil (W : World) : Rr W (.slice none 0 0) 0 := ⟨none, 0, [], rfl, Row.nil _ _, right_nil, by simp, rfl⟩
/-- A difference, and whether there is one. -/
def RetSB (W : World) (n : Nat) (b : Bool) (e : Ending) (w' : World) : Prop := ∃ A k c, e = .returned (.tuple #[.slice A k c, .bool b]) ∧ Rr w' (.slice A k c) n ∧ Below W.heap.size W w'
theorem all_sub {W : World} {v1 v2 : Value} {n1 n2 N : Nat} (h1 : Rd W v1 n1) (h2 : Rd W v2 n2) (hn : n1 < 1000000000 ^ N) (hN : N ≤ 4000) :
    Calls Tryd.prog 13 #[v1, v2] W (RetSB W (n1 - n2) (decide (n2 ≤ n1))) := by
  by_cases h : n2 ≤ n1
  · rw [decide_eq_true h]; exact val_sub h1 h2 h hn hN
  · rw [decide_eq_false h, Nat.sub_eq_zero_of_le (by omega)]
    exact (val_sub_no h1 h2 (by omega)).mono fun _ _ ⟨a, b⟩ => ⟨none, 0, 0, a, rr_nil _, b⟩
/-- The rest, 0 where there is no quotient. -/
def restOf (a b : Nat) : Nat := if b = 0 then 0 else a % b
def RetDB (W : World) (q r : Nat) (b : Bool) (e : Ending) (w' : World) : Prop := ∃ A k c B j d, e = .returned (.tuple #[.slice A k c, .slice B j d, .bool b]) ∧ Rr w' (.slice A k c) q ∧ Rr w' (.slice B j d) r ∧ Below W.heap.size W w'
theorem all_div {W : World} {v1 v2 : Value} {n1 n2 N : Nat} (h1 : Rd W v1 n1) (h2 : Rd W v2 n2) (hn : n1 < 1000000000 ^ N) (hN : N ≤ 4000) :
    Calls Tryd.prog 7 #[v1, v2] W (RetDB W (n1 / n2) (restOf n1 n2) (decide (0 < n2))) := by
  by_cases h : n2 = 0
  · subst h
    rw [decide_eq_false (by omega), Nat.div_zero, restOf, if_pos rfl]
    exact (val_div_no h1 h2).mono fun _ _ ⟨a, b⟩ => ⟨none, 0, 0, none, 0, 0, a, rr_nil _, rr_nil _, b⟩
  · rw [decide_eq_true (show 0 < n2 by omega), restOf, if_neg h]; exact val_div h1 h2 (by omega) hn hN
end Go.Proofs.YtffcacpffamjfaaDoor

/- Contracts of package num's common (the greatest common divisor of two sizes), of Gcd's closure, and what a list of numbers reads as. Contract of package num's Text: the decimal text, with its sign. -/
import Derived.Test.YthjgfkmnelefpaaGreatDoorNum4
import Derived.Test.YthjgfkmnelefpaaGreatDoorReg
namespace Go.Proofs.YthjgfkmnelefpaaGreatDoor
open Go.RowKit

/-- The number that a right row reads as. -/
noncomputable def valOf (W : World) (v : Value) : Nat := by
  classical exact if h : ∃ n, Rr W v n then h.choose else 0
theorem rr_unique {W : World} {v : Value} {n m : Nat} (h1 : Rr W v n) (h2 : Rr W v m) : n = m := by
  obtain ⟨A, c, xs, e1, r1, _, _, v1⟩ := h1
  obtain ⟨A', c', ys, e2, r2, _, _, v2⟩ := h2
  rw [e1] at e2
  injection e2 with e2 e3
  subst e2
  have : xs = ys := List.ext_getElem e3 fun j hj hj' => by
    obtain ⟨ad, ha, hc⟩ := r1.u32 hj
    obtain ⟨ad', ha', hc'⟩ := r2.u32 hj'
    rw [ha] at ha'
    injection ha' with ha'
    subst ha'
    rw [hc] at hc'
    injection hc' with hc'
    injection hc' with _ hc'
    have := Int.ofNat_inj.1 hc'
    simpa [List.getD, hj, hj'] using this
  rw [← v1, ← v2, this]
theorem valOf_eq {W : World} {v : Value} {n : Nat} (h : Rr W v n) : valOf W v = n := by
  unfold valOf
  have hex : ∃ n, Rr W v n := ⟨n, h⟩
  rw [dif_pos hex]
  exact rr_unique hex.choose_spec h

set_option maxRecDepth 100000 in
set_option maxHeartbeats 1600000 in
theorem common_any {w : World} {A1 A2 : Option Addr} {k1 c1 k2 c2 n1 n2 N : Nat} (h1 : Rr w (.slice A1 k1 c1) n1) (h2 : Rr w (.slice A2 k2 c2) n2) (hn1 : n1 < 1000000000 ^ N) (hn2 : n2 < 1000000000 ^ N) (hN : N ≤ 4000) :
    Calls Tryz.prog 41 #[.slice A1 k1 c1, .slice A2 k2 c2] w (RetR w (Nat.gcd n1 n2)) := by
  have HB := Lib.hid (show n1 < 1000000000 ^ N ∧ n2 < 1000000000 ^ N ∧ N ≤ 4000 from ⟨hn1, hn2, hN⟩)
  have H1 := Lib.hid h1
  have H2 := Lib.hid h2
  clear hn1 hn2 hN h1 h2
  go_enter Tryz.func41, Tryz.ntmps41
  go_wp2_with fail
  go_loopw [0, 1] (fun sv tv wr => ∃ (A : Option Addr) (k c : Nat) (B : Option Addr) (j d a b : Nat), sv = .slice A k c ∧ tv = .slice B j d ∧ Hid (Rr wr (.slice A k c) a) ∧ Hid (Rr wr (.slice B j d) b) ∧ Hid (Nat.gcd a b = Nat.gcd n1 n2 ∧ a < 1000000000 ^ N ∧ b < 1000000000 ^ N) ∧ Below w.heap.size w wr) (fun _ tv wr => valOf wr tv)
  case atStart => exact ⟨_, _, _, _, _, _, n1, n2, rfl, rfl, H1, H2, ⟨rfl, HB.out.1, HB.out.2.1⟩, Below.refl _ _⟩
  case round =>
    obtain ⟨A, k, c, B, j, d, a, b, rfl, rfl, HA, HBB, HG, hb⟩ := hrel
    have hj := (rr_len HBB.out).1
    by_cases h0 : b = 0
    · have hk0 : ((j : Int) == 0) = true := by rw [hj.2 h0]; rfl
      have hG : a = Nat.gcd n1 n2 := by rw [← HG.out.1, h0, Nat.gcd_zero_right]
      have HGG := Lib.hid hG
      clear hj h0 hG
      go_wp2_with (go_at_call 52; refine (sizeNone_any _ _ _ _).mono ?_; rintro e w' ⟨rfl, rfl⟩)
      go_ret
      exact ⟨A, k, c, rfl, HGG.out ▸ HA.out, hb⟩
    · have hk0 : ((j : Int) == 0) = false := by
        rw [beq_eq_false_iff_ne]; intro h; exact h0 (hj.1 (by omega))
      have hsp := split_any HA.out.rd HBB.out.rd (by omega) HG.out.2.1 HB.out.2.2
      have HSP := Lib.hid hsp
      have H0 := Lib.hid h0
      clear hj h0 hsp
      go_wp2_with (first
        | (go_at_call 52; refine (sizeNone_any _ _ _ _).mono ?_; rintro e w' ⟨rfl, rfl⟩)
        | (go_at_call 65; refine HSP.out.mono ?_; rintro e w2 ⟨Aq, kq, cq, Ar, kr, cr, rfl, hq, hr, hb2⟩; have hBB := HBB.out.below hb2; have HR := Lib.hid hr; have HBB2 := Lib.hid hBB; have hb3 := bstep hb hb2; clear hq hr hb2 hBB hb))
      go_roundw
      case rel =>
        refine ⟨_, _, _, _, _, _, b, a % b, rfl, rfl, HBB2, HR, ⟨?_, HG.out.2.2, ?_⟩, hb3⟩
        · rw [← HG.out.1, Nat.gcd_comm a b, Nat.gcd_rec b a, Nat.gcd_comm]
        · exact Nat.lt_of_lt_of_le (Nat.mod_lt _ (Nat.pos_of_ne_zero H0.out)) (Nat.le_of_lt HG.out.2.2)
      case measure =>
        rw [valOf_eq HBB.out, valOf_eq HR.out]
        exact Nat.mod_lt _ (Nat.pos_of_ne_zero H0.out)

/-- A list of numbers: what its cells hold. -/
def Ints (W : World) (g : Nat) (L : List (Nat × Bool)) : Prop := ∀ j p, L[j]? = some p → ∃ A k c, W.cell? ⟨g, j * 2, none⟩ = some (.bool p.2) ∧ W.cell? ⟨g, j * 2 + 1, none⟩ = some (.slice A k c) ∧ Rd W (.slice A k c) p.1
theorem Ints.below {W w' : World} {g : Nat} {L : List (Nat × Bool)} (h : Ints W g L) (hb : Below W.heap.size W w') : Ints w' g L := fun j p hp => by
  obtain ⟨A, k, c, h1, h2, h3⟩ := h j p hp
  exact ⟨A, k, c, (hb.cell (cell_lt h1)).trans h1, (hb.cell (cell_lt h2)).trans h2, h3.below hb⟩

set_option maxRecDepth 100000 in
set_option maxHeartbeats 1600000 in
theorem gcdStep {w : World} {g : Nat} {A1 A2 : Option Addr} {k1 c1 k2 c2 n1 n2 N : Nat} {b1 : Bool} {T : TypeId} (h1 : Rr w (.slice A1 k1 c1) n1) (hg : w.heap[g]? = some (.cells #[.slice A2 k2 c2] T (0, 0))) (h2 : Rr w (.slice A2 k2 c2) n2) (hn1 : n1 < 1000000000 ^ N) (hn2 : n2 < 1000000000 ^ N) (hN : N ≤ 4000) :
    Calls Tryz.prog 40 #[.agg #[.slice A1 k1 c1, .bool b1], .pointer (some ⟨g, 0, none⟩)] w fun e w' => (∃ v, e = .returned v) ∧ ∃ A k c w2, Rr w2 (.slice A k c) (Nat.gcd n1 n2) ∧ Below w.heap.size w w2 ∧ w' = w2.setCell ⟨g, 0, none⟩ (.slice A k c) := by
  have hcm := fun (W : World) (hW : Below w.heap.size w W) => common_any (h1.below hW) (h2.below hW) hn1 hn2 hN
  have hlt := lt_block hg
  have hc := cell_of_one hg
  have hf := free_of_one hg
  have HG := Lib.hid hg
  have HCM := Lib.hid hcm
  clear hcm h1 h2 hg hn1 hn2 hN
  go_enter Tryz.func40, Tryz.ntmps40
  go_wp2_with fail
  refine (HCM.out _ (bal (Below.refl _ _) _)).mono ?_
  rintro e w2 ⟨A, k, c, rfl, hr, hb⟩
  have hb := bstep (bal (Below.refl _ _) _) hb
  have hg2 := (hb.block g hlt).trans HG.out
  have hc2 := cell_of_one hg2
  have hf2 := free_of_one hg2
  clear hg2
  go_wp2
  go_end0
  exact ⟨⟨_, rfl⟩, A, k, c, w2, hr, hb, rfl⟩

def gcds (L : List (Nat × Bool)) (n : Nat) : Nat := L.foldl (fun d p => Nat.gcd p.1 d) n
theorem gcds_lt {L : List (Nat × Bool)} {n M : Nat} (hn : n < M) (hL : ∀ p ∈ L, p.1 < M) : gcds L n < M := by
  induction L generalizing n with
  | nil => exact hn
  | cons p L ih =>
    refine ih ?_ fun q hq => hL q (List.mem_cons_of_mem _ hq)
    show Nat.gcd p.1 n < M
    rcases Nat.eq_zero_or_pos p.1 with h | h
    · rw [h, Nat.gcd_zero_left]; exact hn
    · exact Nat.lt_of_le_of_lt (Nat.gcd_le_left _ h) (hL p List.mem_cons_self)
theorem gcds_succ {L : List (Nat × Bool)} {n k : Nat} (hk : k < L.length) : gcds (L.take (k + 1)) n = Nat.gcd L[k].1 (gcds (L.take k) n) := by
  unfold gcds
  rw [List.take_add_one, List.getElem?_eq_getElem hk, Option.toList_some, List.foldl_append]; rfl

set_option maxRecDepth 100000 in
set_option maxHeartbeats 1600000 in
theorem each_gcd {w0 w : World} {g g0 n N c0 : Nat} {A : Option Addr} {k c : Nat} {T : TypeId} {L : List (Nat × Bool)} (hL : Ints w0 g0 L) (hb0 : Below w0.heap.size w0 w) (hlt : w0.heap.size ≤ g) (hg : w.heap[g]? = some (.cells #[.slice A k c] T (0, 0))) (h : Rr w (.slice A k c) n) (hn : n < 1000000000 ^ N) (hLn : ∀ p ∈ L, p.1 < 1000000000 ^ N) (hN : N ≤ 4000) (hlen : L.length ≤ 100000) :
    Calls Tryz.prog 28 #[.func (.func 40) #[] #[.pointer (some ⟨g, 0, none⟩)], .slice (some ⟨g0, 0, none⟩) L.length c0] w fun e w' => (∃ v, e = .returned v) ∧ ∃ A k c, w'.heap[g]? = some (.cells #[.slice A k c] T (0, 0)) ∧ Rr w' (.slice A k c) (gcds L n) ∧ Below w0.heap.size w0 w' ∧ w.heap.size ≤ w'.heap.size := by
  have HL := Lib.hid hL
  have HB := Lib.hid (show n < 1000000000 ^ N ∧ (∀ p ∈ L, p.1 < 1000000000 ^ N) ∧ N ≤ 4000 from ⟨hn, hLn, hN⟩)
  have HG := Lib.hid hg
  have HH := Lib.hid h
  have HB0 := Lib.hid hb0
  obtain ⟨l, hl⟩ : ∃ l, l = L.length := ⟨_, rfl⟩
  rw [← hl] at hlen ⊢
  have HLL := Lib.hid hl
  clear hL hn hLn hN hg h hb0 hl
  go_enter Tryz.func28, Tryz.ntmps28
  go_wp2_with fail
  go_loopw [8] (fun i wr => ∃ (k' : Nat) (A' : Option Addr) (j d : Nat), k' ≤ l ∧ i = .int .i64 k' ∧ Hid (wr.heap[g]? = some (.cells #[.slice A' j d] T (0, 0))) ∧ Hid (Rr wr (.slice A' j d) (gcds (L.take k') n)) ∧ Hid (Below w0.heap.size w0 wr) ∧ w.heap.size ≤ wr.heap.size) (fun i _ => l - (intOf i).toNat)
  case atStart => exact ⟨0, _, _, _, Nat.zero_le _, rfl, HG, HH, HB0, Nat.le_refl _⟩
  case round =>
    obtain ⟨k', A', j, d, hk, rfl, HG1, HR1, HB1, hsz⟩ := hrel
    by_cases hlt2 : k' < l
    · have hkL : k' < L.length := by rw [← HLL.out]; exact hlt2
      obtain ⟨⟨n1, b1⟩, hp⟩ : ∃ p, p = L[k'] := ⟨_, rfl⟩
      obtain ⟨B, m, e, hc1, hc2, hrd⟩ := (HL.out.below HB1.out) k' (n1, b1) (by rw [List.getElem?_eq_getElem hkL, hp])
      have hc1 : wr.cell? ⟨g0, k' * 2, none⟩ = some (.bool b1) := hc1
      have hrd : Rd wr (.slice B m e) n1 := hrd
      have HRD := Lib.hid hrd
      have hGS := gcds_succ (n := n) hkL
      rw [← hp] at hGS
      have HGS := Lib.hid hGS
      have HPL := Lib.hid (hp ▸ List.getElem_mem hkL : (n1, b1) ∈ L)
      clear hp hrd hGS
      go_wp2_with fail
      refine (numOf_any b1 (HRD.out.below (bal (Below.refl _ _) _)) (HB.out.2.1 _ HPL.out) HB.out.2.2).mono ?_
      rintro e w2 ⟨A3, k3, c3, rfl, hr3, _, hb3⟩
      have hb30 := bstep (bal (Below.refl _ _) _) hb3
      have hgr := lt_block HG1.out
      have hg3 := (hb30.block g hgr).trans HG1.out
      have hz3 := hb30.size
      have HB3 := Lib.hid (bstep HB1.out hb30)
      clear hb3
      have hlt3 := gcds_lt (L := L.take k') HB.out.1 fun p hp => HB.out.2.1 p (List.mem_of_mem_take hp)
      have hst := gcdStep (b1 := sgn n1 b1) hr3 hg3 (HR1.out.below hb30) (HB.out.2.1 _ HPL.out) hlt3 HB.out.2.2
      have HST := Lib.hid hst
      have HG3 := Lib.hid hg3
      clear hst hg3 hr3 hlt3 hb30
      go_wp2_with fail
      refine HST.out.mono ?_
      rintro e w3 ⟨⟨v, rfl⟩, A4, k4, c4, w4, hr4, hb4, rfl⟩
      have hg4 := (hb4.block g (by omega)).trans HG3.out
      have HG4 := Lib.hid (one_setCell (u := .slice A4 k4 c4) hg4)
      have HR4 := Lib.hid (hr4.set_not (v := .slice A4 k4 c4) (cell_of_one hg4) (fun d h => by cases h))
      have HB4 := Lib.hid ((bstep HB3.out hb4).setCell (p := ⟨g, 0, none⟩) hlt (.slice A4 k4 c4))
      have hz4 := hb4.size
      have hz5 : w.heap.size ≤ (w4.setCell ⟨g, 0, none⟩ (.slice A4 k4 c4)).heap.size := by rw [World.size_setCell]; omega
      clear hb4 hg4 hr4 HST HG3
      go_wp2
      go_roundw
      case rel => exact ⟨k' + 1, _, _, _, by omega, by go_num, HG4, by show Rr _ _ _; rw [HGS.out]; exact HR4.out, HB4, hz5⟩
      case measure => simp [intOf]; omega
    · have hk' : k' = l := by omega
      have HK := Lib.hid hk'
      clear hk'
      go_wp2
      go_end0
      exact ⟨⟨_, rfl⟩, A', j, d, HG1.out, by rw [← List.take_length (l := L), ← HLL.out, ← HK.out]; exact HR1.out, HB1.out, hsz⟩

set_option maxRecDepth 100000 in
set_option maxHeartbeats 1600000 in
/-- Gcd of a list of numbers that lies in old memory. -/
theorem gcd_any {w : World} {g0 c0 N : Nat} {L : List (Nat × Bool)} (hL : Ints w g0 L) (hLn : ∀ p ∈ L, p.1 < 1000000000 ^ N) (hN : N ≤ 4000) (hlen : L.length ≤ 100000) :
    Calls Tryz.prog 14 #[.slice (some ⟨g0, 0, none⟩) L.length c0] w (RetInt w (gcds L 0) false) := by
  have hmf : ∀ (fn : Fn) (first cap : Array Value) (w : World), (Instr.makeFunc fn first cap).run Tryz.prog w = .ok (.func fn first cap) w := fun _ _ _ _ => rfl
  have h0 : 0 < 1000000000 ^ N := Nat.pow_pos (by decide)
  obtain ⟨w1, hw1⟩ : ∃ w1, w1 = w.alloc (Obj.cells #[Value.bool false, Value.slice none 0 0] 29) := ⟨_, rfl⟩
  have b1 : Below w.heap.size w w1 := by rw [hw1]; exact bal (Below.refl _ _) _
  have s1 : w1.heap.size = w.heap.size + 1 := by rw [hw1]; simp
  have K1 : w1.heap[w.heap.size]? = some (Obj.cells #[Value.bool false, Value.slice none 0 0] 29) := by rw [hw1]; exact heap_alloc_new _ _
  have hea := each_gcd (T := 47) (c0 := c0) (hL.below b1) (bal (Below.refl _ _) (.cells #[.slice none 0 0] 47)) (Nat.le_refl _) (heap_alloc_new _ _) (rr_nil _) h0 hLn hN hlen
  rw [s1] at hea
  obtain ⟨l, hl⟩ : ∃ l, l = L.length := ⟨_, rfl⟩
  rw [← hl] at hea ⊢
  clear hl hlen
  have HEA := Lib.hid hea
  have HW1 := Lib.hid hw1
  have HK1 := Lib.hid K1
  clear hea hL hLn hN h0 hw1 K1
  go_enter Tryz.func14, Tryz.ntmps14
  go_wp2_with fail
  rw [← HW1.out]
  refine HEA.out.mono ?_
  rintro e w2 ⟨⟨v, rfl⟩, A, k, c, hg, hr, hb, _⟩
  rw [← s1] at hb
  have K2 := (hb.block w.heap.size (by omega)).trans HK1.out
  have hcg := cell_of_one hg
  have bw2 := b1.trans (hb.mono (by omega))
  have hz := hb.size
  have HK2 := Lib.hid K2
  clear hb hg HK1 K2
  have hss : sgn (gcds L 0) false = false := rfl
  have hsg := signed_s false hr
  rw [hss] at hsg
  have HSG := Lib.hid hsg
  clear hsg hr hss
  go_wp2_with fail
  refine HSG.out.mono ?_
  rintro e w3 ⟨A3, k3, c3, rfl, h3, z3, hb3⟩
  have HT := Lib.hid (told_any h3 z3)
  have K3 := (hb3.block w.heap.size (by omega)).trans HK2.out
  have bw3 := bstep bw2 hb3
  have hz3 := hb3.size
  have HK3 := Lib.hid K3
  clear hb3 h3 HSG bw2 K3 HK2
  go_wp2_with fail
  refine HT.out.mono ?_
  rintro e w4 ⟨A4, k4, c4, rfl, h4, z4, hb4⟩
  have K4 := (hb4.block w.heap.size (by omega)).trans HK3.out
  have bw4 := bstep bw3 hb4
  obtain ⟨m1, m2, m3, m4⟩ := cell_of_two K4
  obtain ⟨n1, n2, n3⟩ := two_stored (a' := .bool false) (b' := .slice A4 k4 c4) K4 (fun d h => by cases h) (fun d h => by cases h) h4
  clear hb4 K4
  go_wp2
  refine bodyPost_ret (v := .agg #[.bool false, .slice A4 k4 c4]) (by simp [results, Tryz.results14, go_sem, n1, n2]) rfl ?_
  exact ⟨A4, k4, c4, rfl, n3, fun _ => rfl, (bw4.setCell (Nat.le_refl _) _).setCell (Nat.le_refl _) _⟩
end Go.Proofs.YthjgfkmnelefpaaGreatDoor

namespace Go.Proofs.YthjgfkmnelefpaaGreatDoor
open Go.RowKit

/-- The text of a number. -/
def ntext (n : Nat) (b : Bool) : ByteArray := if b = true then ⟨#[45]⟩ ++ dtext n else dtext n

theorem val_text {w : World} {A : Option Addr} {k c n : Nat} (h : Rd w (.slice A k c) n) (htab : Tab w) (hw : 3 ≤ w.heap.size) :
    Calls Tryz.prog 85 #[.slice A k c] w fun e w' => e = .returned (.string (dtext n)) ∧ Below w.heap.size w w' := by
  obtain ⟨A', c', xs, e, r, d, l, hv⟩ := h
  injection e with e1 e2 e3
  subst e1; subst e2; subst e3
  have := text_any (c := c) r d (by omega) htab hw
  rw [hv] at this
  exact this

set_option maxRecDepth 100000 in
set_option maxHeartbeats 1600000 in
theorem sizeDec_any {w : World} {A : Option Addr} {k c n : Nat} (h : Rd w (.slice A k c) n) (htab : Tab w) (hw : 3 ≤ w.heap.size) :
    Calls Tryz.prog 72 #[.slice A k c] w fun e w' => e = .returned (.string (dtext n)) ∧ Below w.heap.size w w' := by
  have ht := val_text h htab hw
  have HT := Lib.hid ht
  clear ht htab h
  go_enter Tryz.func72, Tryz.ntmps72
  go_wp2_with fail
  refine HT.out.mono ?_
  rintro e w' ⟨rfl, hb⟩
  go_wp2
  go_ret
  exact ⟨rfl, hb⟩

theorem dtext_short {n N : Nat} (hn : n < 1000000000 ^ N) (hN : N ≤ 4000) : (dtext n).size ≤ 36009 := by
  rw [dtext_size]
  refine Nat.le_trans (decDigits_len (k := N + 1) (Nat.lt_trans hn ?_) (Nat.succ_pos _)) (by omega)
  exact Nat.pow_lt_pow_right (by decide) (Nat.lt_succ_self _)

set_option maxRecDepth 100000 in
set_option maxHeartbeats 1600000 in
theorem numDec_any {w : World} {A : Option Addr} {k c n : Nat} (b : Bool) (h : Rd w (.slice A k c) n) (hs : (dtext n).size ≤ 36009) (htab : Tab w) (hw : 3 ≤ w.heap.size) :
    Calls Tryz.prog 49 #[.agg #[.slice A k c, .bool b]] w fun e w' => e = .returned (.string (ntext n b)) ∧ Below w.heap.size w w' := by
  have ht := fun (W : World) (hW : Below w.heap.size w W) => sizeDec_any (h.below hW) (htab.below hW hw) (Nat.le_trans hw hW.size)
  have HT := Lib.hid ht
  have HS := Lib.hid hs
  clear ht htab h hs
  cases b
  · have e1 : ntext n false = dtext n := rfl
    rw [e1]
    clear e1
    go_enter Tryz.func49, Tryz.ntmps49
    go_wp2_with fail
    refine (HT.out _ (bal (Below.refl _ _) _)).mono ?_
    rintro e w' ⟨rfl, hb⟩
    have hb := bstep (bal (Below.refl w.heap.size w) _) hb
    go_wp2
    go_returns
    exact ⟨rfl, hb⟩
  · have e1 : ntext n true = ⟨#[45]⟩ ++ dtext n := rfl
    rw [e1]
    clear e1
    go_enter Tryz.func49, Tryz.ntmps49
    go_wp2_with fail
    refine (HT.out _ (bal (Below.refl _ _) _)).mono ?_
    rintro e w' ⟨rfl, hb⟩
    have hb := bstep (bal (Below.refl w.heap.size w) _) hb
    go_wp2
    · exfalso
      rename_i hh
      have := HS.out
      omega
    · go_returns
      exact ⟨rfl, hb⟩

set_option maxRecDepth 100000 in
set_option maxHeartbeats 1600000 in
theorem numText_any {w : World} {A : Option Addr} {k c n N : Nat} (b : Bool) (h : Rd w (.slice A k c) n) (hn : n < 1000000000 ^ N) (hN : N ≤ 4000) (htab : Tab w) (hw : 3 ≤ w.heap.size) :
    Calls Tryz.prog 20 #[.agg #[.bool b, .slice A k c]] w fun e w' => e = .returned (.string (ntext n (sgn n b))) ∧ Below w.heap.size w w' := by
  have hof := fun (W : World) (hW : Below w.heap.size w W) => numOf_any b (h.below hW) hn hN
  have hdc := fun (W : World) (hW : Below w.heap.size w W) (A : Option Addr) (k c : Nat) (h : Rr W (.slice A k c) n) => numDec_any (sgn n b) h.rd (dtext_short hn hN) (htab.below hW hw) (Nat.le_trans hw hW.size)
  have HOF := Lib.hid hof
  have HDC := Lib.hid hdc
  clear hof hdc htab h hn hN
  go_enter Tryz.func20, Tryz.ntmps20
  go_wp2_with fail
  refine (HOF.out _ (bal (Below.refl _ _) _)).mono ?_
  rintro e w1 ⟨A1, k1, c1, rfl, hr, _, hb⟩
  have hb := bstep (bal (Below.refl w.heap.size w) _) hb
  have HD := Lib.hid (HDC.out _ hb _ _ _ hr)
  clear hr
  go_wp2_with fail
  refine HD.out.mono ?_
  rintro e w2 ⟨rfl, hb2⟩
  have hb3 := bstep hb hb2
  clear hb hb2
  go_wp2
  go_ret
  exact ⟨rfl, hb3⟩
end Go.Proofs.YthjgfkmnelefpaaGreatDoor

/- The law NatPowers, walked: of any row and any number the call returns true. Premise: the table of powers of ten reads as it is laid. -/
import Derived.Test.YtpamcdfbcglflaaDoorLawMore
import Derived.WalkLawsBesides
namespace Go.Proofs.YtpamcdfbcglflaaDoor
open Go.RowKit

theorem few_one {w : World} {A1 : Option Addr} {c1 : Nat} {xs : List Nat} (h1 : xs.length < 9223372036854775808) :
    Calls Tryd.prog 9 #[.slice (some ⟨w.heap.size, 0, none⟩) 1 1] (w.alloc (.cells #[.slice A1 xs.length c1] 22)) fun e w' => FewRet [(A1, c1, xs)] e ∧ w' = w.alloc (.cells #[.slice A1 xs.length c1] 22) :=
  few_any (L := [(A1, c1, xs)]) (c := 1) (lit_row w #[.slice A1 xs.length c1] 22 (by unfold maxLen; simp)) (by simp) (fun r hr => by
    rw [List.mem_singleton.1 hr]; exact h1)

set_option maxRecDepth 100000 in
set_option maxHeartbeats 4000000 in
theorem lawPow_out {A1 : Option Addr} {c1 : Nat} {xs : List Nat} (w : World) (htab : Tab w) (hw : 3 ≤ w.heap.size) (r1 : Row w A1 (u32s xs)) (d1 : small 4294967296 xs) (l1 : xs.length < 9223372036854775808) (n : Int)
    (hout : ¬ short [(A1, c1, xs)] ∨ n < 0 ∨ 60 < n ∨ val xs = 0) :
    Calls Tryd.prog 6 #[.slice A1 xs.length c1, .int .i64 n] w fun e w' => e = .returned (.bool true) ∧ Below w.heap.size w w' := by
  have haw := awake_any dm_ex w htab hw
  have HA := Lib.hid haw
  have hfew := fun (W : World) => few_one (w := W) (A1 := A1) (c1 := c1) l1
  have HF := Lib.hid hfew
  have HO := Lib.hid hout
  clear haw hfew htab hout
  by_cases hsh : short [(A1, c1, xs)]
  · have m1 : xs.length ≤ 40 := hsh.2 (A1, c1, xs) (by simp)
    have tra := fun (W : World) (hW : Below w.heap.size w W) => trimRow_any (c := c1) (r1.below hW) d1 (by omega)
    have TRA := Lib.hid tra
    have HSH := Lib.hid hsh
    clear tra hsh r1 d1
    by_cases hn0 : n < 0
    · have hn0' : decide (n < 0) = true := decide_eq_true hn0
      clear HO
      go_enter Tryd.func6, Tryd.ntmps6
      go_wp2_with fail
      refine HA.out.mono ?_
      rintro e w1 ⟨rfl, b1⟩
      go_wp2_with fail
      refine (HF.out _).mono ?_
      rintro e w1' ⟨hf, rfl⟩
      rcases hf with ⟨_, rfl⟩ | ⟨hno, _⟩
      rotate_left 1
      exact absurd HSH.out hno
      have b2 := b1.alloc b1.size
      clear b1
      go_wp2
      go_returns
      exact ⟨rfl, b2 _⟩
    · by_cases hn1 : 60 < n
      · clear HO
        have hn0' : decide (n < 0) = false := decide_eq_false hn0
        have hn1' : decide (60 < n) = true := decide_eq_true hn1
        go_enter Tryd.func6, Tryd.ntmps6
        go_wp2_with fail
        refine HA.out.mono ?_
        rintro e w1 ⟨rfl, b1⟩
        go_wp2_with fail
        refine (HF.out _).mono ?_
        rintro e w1' ⟨hf, rfl⟩
        rcases hf with ⟨_, rfl⟩ | ⟨hno, _⟩
        rotate_left 1
        exact absurd HSH.out hno
        have b2 := b1.alloc b1.size
        clear b1
        go_wp2
        go_returns
        exact ⟨rfl, b2 _⟩
      · have hv : val xs = 0 := by
          rcases HO.out with h | h | h | h
          · exact absurd HSH.out h
          · exact absurd h hn0
          · exact absurd h hn1
          · exact h
        have HV := Lib.hid hv
        have hn0' : decide (n < 0) = false := decide_eq_false hn0
        have hn1' : decide (60 < n) = false := decide_eq_false hn1
        clear HO hv
        go_enter Tryd.func6, Tryd.ntmps6
        go_wp2_with fail
        refine HA.out.mono ?_
        rintro e w1 ⟨rfl, b1⟩
        go_wp2_with fail
        refine (HF.out _).mono ?_
        rintro e w1' ⟨hf, rfl⟩
        rcases hf with ⟨_, rfl⟩ | ⟨hno, _⟩
        rotate_left 1
        exact absurd HSH.out hno
        have b2 := b1.alloc b1.size
        clear b1
        go_wp2_with fail
        refine (TRA.out _ (b2 _)).mono ?_
        rintro e w2 ⟨v, rfl, ⟨rs, p1, p2, p3⟩, h2⟩
        obtain rfl : rs = [] := right_zero p1 (by rw [p2, HV.out])
        have b3 := bstep (b2 _) h2
        obtain ⟨B1, e1, rfl, q1, _⟩ := p3.slice32
        go_wp2
        go_returns
        exact ⟨rfl, b3⟩
  · have HSH := Lib.hid hsh
    clear hsh HO
    go_enter Tryd.func6, Tryd.ntmps6
    go_wp2_with fail
    refine HA.out.mono ?_
    rintro e w1 ⟨rfl, b1⟩
    go_wp2_with fail
    refine (HF.out _).mono ?_
    rintro e w1' ⟨hf, rfl⟩
    rcases hf with ⟨hyes, _⟩ | ⟨_, rfl⟩
    exact absurd hyes HSH.out
    have b2 := b1.alloc b1.size
    clear b1
    go_wp2
    go_returns
    exact ⟨rfl, b2 _⟩

theorem pow_bd {k : Nat} (h : k ≤ 60) : 10 ^ k < 1000000000 ^ 7 := Nat.lt_of_le_of_lt (Nat.pow_le_pow_right (by decide) h) (by decide)
theorem small_mono' {rs : List Nat} (h : right rs) : small 4294967296 rs := small_mono h.1 (by decide)

set_option maxRecDepth 100000 in
set_option maxHeartbeats 4000000 in
theorem lawPow_in {A1 : Option Addr} {c1 : Nat} {xs : List Nat} (w : World) (htab : Tab w) (hw : 3 ≤ w.heap.size) (r1 : Row w A1 (u32s xs)) (d1 : small 4294967296 xs) (l1 : xs.length < 9223372036854775808) (n : Nat) (hn60 : n ≤ 60)
    (hsh : short [(A1, c1, xs)]) (hpos : 0 < val xs) :
    Calls Tryd.prog 6 #[.slice A1 xs.length c1, .int .i64 (n : Int)] w fun e w' => e = .returned (.bool true) ∧ Below w.heap.size w w' := by
  have haw := awake_any dm_ex w htab hw
  have HA := Lib.hid haw
  have hfew := fun (W : World) => few_one (w := W) (A1 := A1) (c1 := c1) l1
  have HF := Lib.hid hfew
  have m1 : xs.length ≤ 40 := hsh.2 (A1, c1, xs) (by simp)
  obtain ⟨V, hV⟩ : ∃ V, V = val xs := ⟨_, rfl⟩
  obtain ⟨M, hM1, hM2⟩ : ∃ M, M ≤ 41 ∧ 41 ≤ M := ⟨41, Nat.le_refl _, Nat.le_refl _⟩
  have hVM : V < 1000000000 ^ M := by rw [hV]; exact Nat.lt_of_lt_of_le (val_lt32 d1) (Nat.pow_le_pow_right (by decide) (by omega))
  have hVk : ∀ k, k ≤ 60 → V * 10 ^ k < 1000000000 ^ (M + 7) := fun k hk => by rw [Nat.pow_add]; exact Nat.mul_lt_mul'' hVM (pow_bd hk)
  have hV0 : 0 < V := by omega
  have hVk0 : ∀ k, 0 < V * 10 ^ k := fun k => Nat.mul_pos hV0 (Nat.pow_pos (by decide))
  have hsz : ∀ k, k ≤ 60 → (dtext (V * 10 ^ k)).size ≤ 1000 := fun k hk => by
    rw [dtext_size]
    exact Nat.le_trans (decDigits_len (hVk k hk) (by omega)) (by omega)
  have tra := fun (W : World) (hW : Below w.heap.size w W) => trimRow_any (c := c1) (r1.below hW) d1 (by omega)
  have txa := fun (W : World) (hW : Below w.heap.size w W) => text_any (c := c1) (r1.below hW) d1 (by omega) (htab.below hW hw) (Nat.le_trans hw hW.size)
  rw [← hV] at tra txa
  have ofs : ∀ W, Calls Tryd.prog 29 #[.string (dtext (V * 10 ^ n))] W fun e w' => ∃ v, e = .returned (.tuple #[v, .bool true]) ∧ IsNat w' W.heap.size v (V * 10 ^ n) ∧ Below W.heap.size W w' := fun W => by
    have := of_yes (s := dtext (V * 10 ^ n)) W (Nat.le_trans (hsz n hn60) (by decide)) (dtext_isDec _)
    rw [dtext_val] at this; exact this
  have ml : ∀ (W : World) (B1 B2 : Option Addr) (e1 e2 : Nat) (ts us : List Nat), Row W B1 (u32s ts) → Row W B2 (u32s us) → right ts → right us → ts.length ≤ 7 → us.length ≤ 7 →
      Calls Tryd.prog 28 #[.slice (some ⟨W.heap.size, 0, none⟩) 2 2] (W.alloc (.cells #[.slice B1 ts.length e1, .slice B2 us.length e2] 22)) (RetNat (W.alloc (.cells #[.slice B1 ts.length e1, .slice B2 us.length e2] 22)) (val ts * val us)) := fun W B1 B2 e1 e2 ts us q1 q2 h1 h2 k1 k2 =>
    mul_two q1 q2 (small_mono' h1) (small_mono' h2) (by omega) (by omega)
  have mla : ∀ (W : World) (hW : Below w.heap.size w W) (B2 : Option Addr) (e2 : Nat) (us : List Nat), Row W B2 (u32s us) → right us → us.length ≤ 7 →
      Calls Tryd.prog 28 #[.slice (some ⟨W.heap.size, 0, none⟩) 2 2] (W.alloc (.cells #[.slice A1 xs.length c1, .slice B2 us.length e2] 22)) (RetNat (W.alloc (.cells #[.slice A1 xs.length c1, .slice B2 us.length e2] 22)) (V * val us)) := fun W hW B2 e2 us q2 h2 k2 => by
    rw [hV]; exact mul_two (r1.below hW) q2 d1 (small_mono' h2) (by omega) (by omega)
  have dm : ∀ (W : World) (B1 B2 : Option Addr) (e1 e2 : Nat) (bs ts : List Nat), Row W B1 (u32s bs) → Row W B2 (u32s ts) → right bs → right ts → val bs = V * 10 ^ n → val ts = 10 ^ n → ts.length ≤ 7 →
      Calls Tryd.prog 13 #[.slice B1 bs.length e1, .slice B2 ts.length e2] W (RetQR W V 0) := fun W B1 B2 e1 e2 bs ts q1 q2 h1 h2 v1 v2 k2 => by
    have k1 := right_length_le h1 (by rw [v1]; exact hVk n hn60)
    have := divMod_all (c1 := e1) (c2 := e2) q1 q2 (small_mono' h1) (small_mono' h2) (by omega) (by omega) (by rw [v2]; exact Nat.pow_pos (by decide))
    rw [v1, v2, Nat.mul_div_cancel _ (Nat.pow_pos (by decide)), Nat.mul_mod_left] at this
    exact this
  have sm : ∀ (W : World) (B1 B2 : Option Addr) (e1 e2 : Nat) (rs ts : List Nat) (x : Nat), Row W B1 (u32s rs) → Row W B2 (u32s ts) → right rs → right ts → val rs = x → val ts = x → x < 1000000000 ^ (M + 7) →
      Calls Tryd.prog 15 #[.slice B1 rs.length e1, .slice B2 ts.length e2] W fun e w' => e = .returned (.bool true) ∧ Drawn W w' := fun W B1 B2 e1 e2 rs ts x q1 q2 h1 h2 v1 v2 hx => by
    have k1 := right_length_le h1 (by rw [v1]; exact hx)
    obtain rfl : rs = ts := right_unique h1 h2 (by rw [v1, v2])
    exact same_yes q1 q2 (by omega)
  have hVn := hVk n hn60
  have hV1 := hVk 0 (by decide)
  rw [Nat.pow_zero, Nat.mul_one] at hV1
  have HVN := Lib.hid hVn
  have HV1 := Lib.hid hV1
  have HK0 := Lib.hid hVk0
  have HSZ := Lib.hid hsz
  have TRA := Lib.hid tra
  have TXA := Lib.hid txa
  have OFS := Lib.hid ofs
  have ML := Lib.hid ml
  have MLA := Lib.hid mla
  have DM := Lib.hid dm
  have SM := Lib.hid sm
  have HSH := Lib.hid hsh
  have HV0 := Lib.hid hV0
  clear haw hfew htab tra txa ofs ml mla dm sm hsh r1 d1 l1 hVk hVk0 hsz hV hVM hpos hVn hV1 hV0 hM1 hM2
  have hn0' : decide ((n : Int) < 0) = false := decide_eq_false (by omega)
  have hn1' : decide ((60 : Int) < (n : Int)) = false := decide_eq_false (by omega)
  go_enter Tryd.func6, Tryd.ntmps6
  go_wp2_with fail
  refine HA.out.mono ?_
  rintro e w1 ⟨rfl, b1⟩
  go_wp2_with fail
  refine (HF.out _).mono ?_
  rintro e w1' ⟨hf, rfl⟩
  rcases hf with ⟨_, rfl⟩ | ⟨hno, _⟩
  rotate_left 1
  exact absurd HSH.out hno
  have b2 := b1.alloc b1.size
  clear b1
  go_wp2_with fail
  refine (TRA.out _ (b2 _)).mono ?_
  rintro e w2 ⟨v, rfl, ⟨rs, p1, p2, p3⟩, h2⟩
  have hrs : ((rs.length : Int) == 0) = false := by
    rw [beq_eq_false_iff_ne]
    intro h
    have : rs = [] := List.eq_nil_of_length_eq_zero (by omega)
    rw [this] at p2
    have := HV0.out
    rw [← p2] at this
    simp [val] at this
  have b3 := bstep (b2 _) h2
  obtain ⟨B1, e1, rfl, q1, _⟩ := p3.slice32
  clear b2 h2 p3 q1 p1 p2
  go_wp2_with fail
  refine (TXA.out _ b3).mono ?_
  rintro e w3 ⟨rfl, h3⟩
  have b4 := bstep b3 h3
  clear b3 h3 hrs
  go_wp2_with fail
  go_loopw [5, 6, 7] (fun sv tv iv wr => ∃ (k : Nat) (At : Option Addr) (ct : Nat) (ts : List Nat), k ≤ n ∧ iv = .int .i64 (k : Int) ∧ sv = .string (dtext (V * 10 ^ k)) ∧ tv = .slice At ts.length ct ∧ Row wr At (u32s ts) ∧ Hid (right ts ∧ val ts = 10 ^ k) ∧ Below w.heap.size w wr)
    (fun _ _ iv _ => n - (intOf iv).toNat)
  case atStart => exact ⟨0, some ⟨w3.heap.size, 0, none⟩, 1, [1], Nat.zero_le _, rfl, by rw [Nat.pow_zero, Nat.mul_one]; rfl, rfl, row_lit w3 35 #[.int .u32 1] [1] rfl, ⟨right_one (by decide) (by decide), by simp [val]⟩, b4.alloc b4.size _⟩
  case round =>
    obtain ⟨k, At, ct, ts, hk, rfl, rfl, rfl, hrt, HT, hb⟩ := hrel
    have htl : ts.length ≤ 7 := right_length_le HT.out.1 (by rw [HT.out.2]; exact pow_bd (by omega))
    by_cases hlt : k < n
    · have hsk := HSZ.out k (by omega)
      have hap := dtext_ten (HK0.out k)
      rw [Nat.mul_assoc, ← Nat.pow_succ] at hap
      have HAP := Lib.hid hap
      clear hap
      have hml := ML.out (wr.alloc (.cells #[.int .u32 10] 35)) At (some ⟨wr.heap.size, 0, none⟩) ct 1 ts [10] (hrt.alloc _) (row_lit wr 35 #[.int .u32 10] [10] rfl) HT.out.1 (right_one (by decide) (by decide)) htl (by simp)
      rw [World.size_alloc] at hml
      have HML := Lib.hid hml
      have hrs1 := hb.size
      clear hml hrt
      go_wp2_with fail
      refine HML.out.mono ?_
      rintro e w5 ⟨v, rfl, ⟨us, p1, p2, p3⟩, h5⟩
      have b5 := bstep ((hb.alloc hb.size _).alloc (by rw [World.size_alloc]; omega) _) h5
      obtain ⟨B5, e5, rfl, q5, _⟩ := p3.slice32
      have HP2 := Lib.hid p2
      clear h5 p3 hb HML p2
      go_wp2
      go_roundw
      case rel => exact ⟨k + 1, B5, e5, us, by omega, by go_num, by rw [← HAP.out], rfl, q5, ⟨p1, by rw [HP2.out, HT.out.2, Nat.pow_succ]; simp [val]⟩, b5⟩
      case measure => first | (simp [intOf]; done) | (simp [intOf]; omega)
    · obtain rfl : k = n := by omega
      have htv := HT.out.2
      have HTV := Lib.hid htv
      clear htv
      go_wp2_with fail
      refine (OFS.out _).mono ?_
      rintro e w5 ⟨v, rfl, ⟨bs, p1, p2, p3⟩, h5⟩
      have b5 := bstep hb h5
      have hrt5 := hrt.below h5
      obtain ⟨B5, e5, rfl, q5, _⟩ := p3.slice32
      clear h5 p3 hb hrt
      go_wp2_with fail
      refine (DM.out _ B5 At e5 ct bs ts q5 hrt5 p1 HT.out.1 p2 HTV.out htl).mono ?_
      rintro e w6 ⟨v, u, rfl, ⟨qs, g1, g2, g3⟩, ⟨rs6, f1, f2, f3⟩, h6⟩
      have b6 := bstep b5 h6
      have q6 := q5.below h6
      have hrt6 := hrt5.below h6
      obtain rfl : rs6 = [] := right_zero f1 f2
      obtain ⟨B6, e6, rfl, qq6, _⟩ := g3.slice32
      obtain ⟨B7, e7, rfl, _, _⟩ := f3.slice32
      clear h6 g3 f1 f2 f3 b5 q5 hrt5
      go_wp2_with fail
      refine (MLA.out _ b6 At ct ts hrt6 HT.out.1 htl).mono ?_
      rintro e w7 ⟨v, rfl, ⟨ms, d1, d2, d3⟩, h7⟩
      have b7 := bstep (b6.alloc b6.size _) h7
      have q7 := (q6.alloc _).below h7
      have qq7 := (qq6.alloc _).below h7
      obtain ⟨B8, e8, rfl, q8, _⟩ := d3.slice32
      rw [HTV.out] at d2
      clear h7 d3 b6 q6 qq6 hrt6
      go_wp2_with fail
      refine (SM.out _ B5 B8 e5 e8 bs ms _ q7 q8 p1 d1 p2 d2 HVN.out).mono ?_
      rintro e w8 ⟨rfl, h8⟩
      have b8 := bstep b7 h8.below
      have qq8 := qq7.below h8.below
      clear h8 b7 qq7 q7 q8 p1 d1 p2 d2
      go_wp2_with fail
      refine (TRA.out _ b8).mono ?_
      rintro e w9 ⟨v, rfl, ⟨ts9, p1, p2, p3⟩, h9⟩
      have b9 := bstep b8 h9
      have qq9 := qq8.below h9
      obtain ⟨B9, e9, rfl, q9, _⟩ := p3.slice32
      clear h9 b8 qq8 p3
      go_wp2_with fail
      refine (SM.out _ B6 B9 e6 e9 qs ts9 _ qq9 q9 g1 p1 g2 p2 HV1.out).mono ?_
      rintro e w10 ⟨rfl, h10⟩
      have b10 := bstep b9 h10.below
      clear h10 b9 qq9 q9 g1 p1 g2 p2
      go_wp2
      go_returns
      exact ⟨rfl, b10⟩

theorem lawPow {A1 : Option Addr} {c1 : Nat} {xs : List Nat} (w : World) (htab : Tab w) (hw : 3 ≤ w.heap.size) (r1 : Row w A1 (u32s xs)) (d1 : small 4294967296 xs) (l1 : xs.length < 9223372036854775808) (n : Int) :
    Calls Tryd.prog 6 #[.slice A1 xs.length c1, .int .i64 n] w fun e w' => e = .returned (.bool true) ∧ Below w.heap.size w w' := by
  by_cases h : ¬ short [(A1, c1, xs)] ∨ n < 0 ∨ 60 < n ∨ val xs = 0
  · exact lawPow_out w htab hw r1 d1 l1 n h
  · have h1 : short [(A1, c1, xs)] := Classical.byContradiction fun k => h (.inl k)
    have h2 : ¬ n < 0 := fun k => h (.inr (.inl k))
    have h3 : ¬ 60 < n := fun k => h (.inr (.inr (.inl k)))
    have h4 : val xs ≠ 0 := fun k => h (.inr (.inr (.inr k)))
    obtain ⟨m, rfl⟩ := Int.eq_ofNat_of_zero_le (show 0 ≤ n by omega)
    exact lawPow_in w htab hw r1 d1 l1 m (by omega) h1 (by omega)
end Go.Proofs.YtpamcdfbcglflaaDoor

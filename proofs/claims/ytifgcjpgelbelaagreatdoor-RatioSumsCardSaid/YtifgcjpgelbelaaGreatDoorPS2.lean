/- Plain numbers: Contract of math/bits.Div64: Plain numbers: Contracts of nat.isDecimal, nat.read, nat.Of, and of whetstoneref01.Of: Contract of nat.digits.giveBack: Contract of nat.guess: Contract of slices.Clone at nat.digits: What the laws over three rows share: Contracts of package num's small calls: Contracts of package num's common (the greatest common divisor of two sizes), of Gcd's closure, and what a list of numbers reads as. Contract of package num's divide: -/
import Derived.Test.YtifgcjpgelbelaaGreatDoorPS1
import Derived.Laws.Bits64b
import Derived.Lib.BitFns
import Derived.Deep.DeepCutAuto
import Derived.Deep.QuietTactic
import Derived.BigQuiet
import Derived.Deep.CutBlock
import Derived.Lib.MinMax
import Derived.Lib.ItoaMem
import Derived.Laws.Externs
import Derived.Lib.SliceRun
import Derived.Deep.RegionWith
import Derived.RegionTactic
set_option maxRecDepth 100000
set_option maxHeartbeats 16000000
set_option linter.unusedVariables false
set_option linter.unusedSimpArgs false
namespace Go.Proofs.YtifgcjpgelbelaaGreatDoor
theorem guess_math {P D K B p d : Nat} (hK : 0 < K) (hp : p = P / K) (hd : d = D / K) (hB : 0 < B) (hBd : B ≤ d) (hPD : P < D * B) : P / D ≤ p / d ∧ p / d ≤ P / D + 1 ∧ p / d ≤ B:=by
 have hd0 : 0 < d:=by omega
 have h1 : d * K ≤ D:=by rw [hd]; exact Nat.div_mul_le_self D K
 have h2 : D < (d + 1) * K:=by
   have h:=Nat.div_add_mod D K; have hm:=Nat.mod_lt D hK; rw [← hd,Nat.mul_comm] at h; rw [Nat.add_mul,Nat.one_mul]; omega
 have h3 : p * K ≤ P:=by rw [hp]; exact Nat.div_mul_le_self P K
 have hD0 : 0 < D:=Nat.lt_of_lt_of_le (Nat.mul_pos hd0 hK) h1
 have hgB : p / d ≤ B:=by
   have h4 : p < (B + 1) * d:=by
     have h5 : p < (d + 1) * B:=by
       rw [hp,Nat.div_lt_iff_lt_mul hK]; refine Nat.lt_of_lt_of_le hPD ?_; have h6 : D * B ≤ (d + 1) * K * B:=Nat.mul_le_mul_right _ (Nat.le_of_lt h2); rw [Nat.mul_assoc,Nat.mul_comm B K,← Nat.mul_assoc]; exact h6
     have h7 : (d + 1) * B = d * B + B:=by rw [Nat.add_mul,Nat.one_mul]
     have h8 : (B + 1) * d = d * B + d:=by rw [Nat.add_mul,Nat.one_mul,Nat.mul_comm]
     omega
   have:=(Nat.div_lt_iff_lt_mul hd0).2 h4; omega
 refine ⟨?_,?_,hgB⟩
 · rw [Nat.le_div_iff_mul_le hd0,hp,Nat.le_div_iff_mul_le hK]; have h4 : P / D * (d * K) ≤ P / D * D:=Nat.mul_le_mul_left _ h1; have h5:=Nat.div_mul_le_self P D; rw [Nat.mul_assoc]; omega
 · obtain ⟨g,hg⟩ : ∃ g,g = p / d:=⟨_,rfl⟩
   rw [← hg] at hgB ⊢
   cases g with
   | zero=>exact Nat.zero_le _
   | succ e =>
     have h4 : (e + 1) * d ≤ p:=by rw [hg]; exact Nat.div_mul_le_self p d
     have h5 : (e + 1) * d * K ≤ p * K:=Nat.mul_le_mul_right _ h4; have h6 : e * D ≤ e * ((d + 1) * K):=Nat.mul_le_mul_left _ (Nat.le_of_lt h2); have h7 : e * K ≤ d * K:=Nat.mul_le_mul_right _ (by omega); have h8 : e * ((d + 1) * K) = e * (d * K) + e * K:=by rw [Nat.add_mul,Nat.one_mul,Nat.mul_add]
     have h9 : (e + 1) * d * K = e * (d * K) + d * K:=by rw [Nat.add_mul,Nat.one_mul,Nat.add_mul,Nat.mul_assoc]
     have h10 : e ≤ P / D:=by rw [Nat.le_div_iff_mul_le hD0]; omega
     exact Nat.succ_le_succ h10
end Go.Proofs.YtifgcjpgelbelaaGreatDoor
namespace Go.Proofs.YtifgcjpgelbelaaGreatDoor
def DivInv (R yn1 yn0 U u q r : Nat) : Prop:=q * yn1 + r = U ∧ r < R ∧ (U * R + u) / (yn1 * R + yn0) ≤ q
theorem divInv_start {R yn1 yn0 U u : Nat} (h1 : 0 < yn1) (h1R : yn1 < R) (hu : u < R) : DivInv R yn1 yn0 U u (U / yn1) (U % yn1):=by
 have hR : 0 < R:=by omega
 refine ⟨?_,Nat.lt_trans (Nat.mod_lt _ h1) h1R,?_⟩
 · have:=Nat.div_add_mod U yn1; rw [Nat.mul_comm] at this; exact this
 · have hY : 0 < yn1 * R:=Nat.mul_pos h1 hR; have e1 : (U * R + u) / (yn1 * R + yn0) ≤ (U * R + u) / (yn1 * R):=Nat.div_le_div_left (Nat.le_add_right _ _) hY
   have e2 : (U * R + u) / (yn1 * R) = U / yn1:=by
     rw [Nat.mul_comm yn1 R,← Nat.div_div_eq_div_mul,Nat.mul_comm U R,Nat.mul_add_div hR,Nat.div_eq_of_lt hu,Nat.add_zero]
   omega
theorem digit_lt {R Y U u : Nat} (hU : U < Y) (hu : u < R) : (U * R + u) / Y < R:=by
 rw [Nat.div_lt_iff_lt_mul (by omega)]
 have h1 : (U + 1) * R ≤ Y * R:=Nat.mul_le_mul_right R hU
 rw [Nat.add_mul,Nat.one_mul,Nat.mul_comm Y R] at h1
 omega
theorem jc {R yn1 yn0 U q r : Nat} (h : q * yn1 + r = U) : q * (yn1 * R + yn0) + R * r = U * R + q * yn0:=by
 rw [← h,Nat.mul_add,← Nat.mul_assoc,Nat.add_mul,Nat.mul_comm r R]
 omega
theorem divInv_down {R yn1 yn0 U u q r : Nat} (hi : DivInv R yn1 yn0 U u q r) (hY : 0 < yn1 * R + yn0) (hU : U < yn1 * R + yn0) (hu : u < R) (ht : R ≤ q ∨ R * r + u < q * yn0) (hr : r + yn1 < R) :
   0 < q ∧ DivInv R yn1 yn0 U u (q - 1) (r + yn1):=by
 have h0 : 0 < q:=by
   rcases Nat.eq_zero_or_pos q with h | h
   · subst h; rcases ht with h | h <;> omega
   · exact h
 have hlt : (U * R + u) / (yn1 * R + yn0) < q:=by
   rcases ht with h | h
   · exact Nat.lt_of_lt_of_le (digit_lt hU hu) h
   · rw [Nat.div_lt_iff_lt_mul hY]; have:=jc (R:=R) (yn0:=yn0) hi.1; omega
 refine ⟨h0,?_,hr,by omega⟩
 obtain ⟨p,rfl⟩ : ∃ p,q = p + 1:=⟨q - 1,by omega⟩
 have:=hi.1
 rw [Nat.add_mul,Nat.one_mul] at this
 rw [Nat.add_sub_cancel]; omega
theorem divInv_last {R yn1 yn0 U u q r : Nat} (hi : DivInv R yn1 yn0 U u q r) (hY : 0 < yn1 * R + yn0) (hU : U < yn1 * R + yn0) (hy0 : yn0 < R) (hu : u < R) (ht : R ≤ q ∨ R * r + u < q * yn0) (hr : R ≤ r + yn1) :
   0 < q ∧ q - 1 = (U * R + u) / (yn1 * R + yn0):=by
 have h0 : 0 < q:=by
   rcases Nat.eq_zero_or_pos q with h | h
   · subst h; rcases ht with h | h <;> omega
   · exact h
 have hlt : (U * R + u) / (yn1 * R + yn0) < q:=by
   rcases ht with h | h
   · exact Nat.lt_of_lt_of_le (digit_lt hU hu) h
   · rw [Nat.div_lt_iff_lt_mul hY]; have:=jc (R:=R) (yn0:=yn0) hi.1; omega
 refine ⟨h0,?_⟩
 obtain ⟨p,rfl⟩ : ∃ p,q = p + 1:=⟨q - 1,by omega⟩
 have h1:=hi.1
 rw [Nat.add_mul,Nat.one_mul] at h1
 have h2 : p * yn1 + (r + yn1) = U:=by omega
 have hs:=jc (R:=R) (yn0:=yn0) h2
 have hp : p * yn1 < R * yn1:=by rw [Nat.mul_comm R]; omega
 have hpR : p < R:=Nat.lt_of_mul_lt_mul_right hp
 have h3 : p * yn0 ≤ R * R:=Nat.le_trans (Nat.mul_le_mul (Nat.le_of_lt hpR) (Nat.le_of_lt hy0)) (Nat.le_refl _)
 have h4 : R * R ≤ R * (r + yn1):=Nat.mul_le_mul_left R hr
 have hle : p ≤ (U * R + u) / (yn1 * R + yn0):=by
   rw [Nat.le_div_iff_mul_le hY]; omega
 rw [Nat.add_sub_cancel]; omega
theorem divInv_exit {R yn1 yn0 U u q r : Nat} (hi : DivInv R yn1 yn0 U u q r) (hY : 0 < yn1 * R + yn0) (ht : ¬ R * r + u < q * yn0) : q = (U * R + u) / (yn1 * R + yn0):=by
 have hs:=jc (R:=R) (yn0:=yn0) hi.1
 have hle : q ≤ (U * R + u) / (yn1 * R + yn0):=by
   rw [Nat.le_div_iff_mul_le hY]; omega
 have:=hi.2.2
 omega
theorem two_digits {R Y U u1 u0 : Nat} (hY : 0 < Y) : (U * (R * R) + (u1 * R + u0)) / Y = (U * R + u1) / Y * R + ((U * R + u1) % Y * R + u0) / Y:=by
 have e : U * (R * R) + (u1 * R + u0) = Y * ((U * R + u1) / Y * R) + ((U * R + u1) % Y * R + u0):=by
   have h:=Nat.div_add_mod (U * R + u1) Y; have h2 : (Y * ((U * R + u1) / Y) + (U * R + u1) % Y) * R = (U * R + u1) * R:=by rw [h]
   rw [Nat.add_mul,Nat.add_mul,Nat.mul_assoc,Nat.mul_assoc U R R] at h2; omega
 rw [e,Nat.mul_add_div hY]
theorem shifted (N y s : Nat) : (N * 2 ^ s) / (y * 2 ^ s) = N / y:=Nat.mul_div_mul_right N y (Nat.pow_pos (by decide))
end Go.Proofs.YtifgcjpgelbelaaGreatDoor
namespace Go.Proofs.YtifgcjpgelbelaaGreatDoor
theorem long_part {P part T : List Nat} {p m Y : Nat} (hP : P.length = p) (hpart : part.length = m + 1) (hs : small 1000000000 part) (hY : Y < 1000000000 ^ m) (htop : val ((P ++ part ++ T).drop (p + 1)) < Y) : val part < Y * 1000000000 ∧ val T = 0:=by
 match part,hpart with
 | d :: part1,hpart =>
   have h1 : part1.length = m:=by simpa using hpart
   have e : (P ++ d :: part1 ++ T).drop (p + 1) = part1 ++ T:=by
     rw [List.append_assoc,← hP,← List.drop_drop,List.drop_left']
     · simp
     · rfl
   rw [e,dp,h1] at htop; have hd:=hs d (List.mem_cons_self ..)
   have hT : val T = 0:=by
     rcases Nat.eq_zero_or_pos (val T) with h | h
     · exact h
     · have : 1000000000 ^ m * 1 ≤ 1000000000 ^ m * val T:=Nat.mul_le_mul_left _ h; omega
   refine ⟨?_,hT⟩; rw [hT,Nat.mul_zero,Nat.add_zero] at htop; simp only [val]; omega
theorem long_right {V V' Y dg bo ca M : Nat} (hM : Y * 1000000000 < M * 1000000000) (hdg : dg ≤ 1000000000) (h1 : V / Y ≤ dg) (h2 : V' + Y * dg = V + M * 1000000000 * (bo + ca)) (h3 : M * 1000000000 * ca ≤ Y * dg) (hbo : bo = 0) (hY : 0 < Y) : dg = V / Y ∧ V' = V % Y:=by
 have k1 : Y * dg ≤ Y * 1000000000:=Nat.mul_le_mul_left _ hdg
 have hca : ca = 0:=by
   rcases Nat.eq_zero_or_pos ca with h | h
   · exact h
   · have : M * 1000000000 * 1 ≤ M * 1000000000 * ca:=Nat.mul_le_mul_left _ h; omega
 subst hbo
 rw [hca,Nat.add_zero,Nat.mul_zero,Nat.add_zero] at h2
 have hle : dg ≤ V / Y:=by rw [Nat.le_div_iff_mul_le hY,Nat.mul_comm]; omega
 have he : dg = V / Y:=Nat.le_antisymm hle h1
 refine ⟨he,?_⟩
 have:=Nat.div_add_mod V Y
 rw [← he] at this
 omega
theorem long_back {V V' V2 Y dg bo ca cy M : Nat} (hM : Y * 1000000000 < M * 1000000000) (hdg : dg ≤ 1000000000) (h1 : V / Y ≤ dg) (h1' : dg ≤ V / Y + 1) (h2 : V' + Y * dg = V + M * 1000000000 * (bo + ca)) (h3 : M * 1000000000 * ca ≤ Y * dg) (h4 : V' < M * 1000000000) (hbo : bo = 1) (hY : 0 < Y)
   (h5 : V2 + M * 1000000000 * cy = V' + Y) (h6 : V2 < M * 1000000000) (hcy : cy ≤ 1) : 0 < dg ∧ dg - 1 = V / Y ∧ V2 = V % Y:=by
 have k1 : Y * dg ≤ Y * 1000000000:=Nat.mul_le_mul_left _ hdg
 have hca : ca = 0:=by
   rcases Nat.eq_zero_or_pos ca with h | h
   · exact h
   · have : M * 1000000000 * 1 ≤ M * 1000000000 * ca:=Nat.mul_le_mul_left _ h; omega
 subst hbo
 rw [hca,Nat.add_zero,Nat.mul_one] at h2
 have hdm:=Nat.div_add_mod V Y
 have hml:=Nat.mod_lt V hY
 have hne : dg ≠ V / Y:=by
   intro h; rw [h] at h2; omega
 have he : dg = V / Y + 1:=by omega
 rw [he,Nat.mul_add,Nat.mul_one] at h2
 refine ⟨by rw [he]; exact Nat.succ_pos _,by rw [he]; rfl,?_⟩
 clear he h1 h1' hne h3 k1
 generalize V / Y = z at *
 generalize V % Y = r at *
 have h01 : cy = 0 ∨ cy = 1:=by omega
 rcases h01 with h | h
 · rw [h,Nat.mul_zero,Nat.add_zero] at h5
   exfalso; omega
 · rw [h,Nat.mul_one] at h5; omega
theorem dg_pos {V V' Y dg bo ca M : Nat} (h2 : V' + Y * dg = V + M * 1000000000 * (bo + ca)) (h4 : V' < M * 1000000000) (hbo : bo = 1) : 1 ≤ dg:=by
 rcases Nat.eq_zero_or_pos dg with h | h
 · exfalso
   subst h; subst hbo; rw [Nat.mul_zero,Nat.mul_add] at h2; omega
 · exact h
theorem long_step {P part part' T qs : List Nat} {p Y X : Nat} (hP : P.length = p) (hq : p < qs.length) (hT : val T = 0) (hv : val part' = val part % Y)
   (h : val (qs.drop (p + 1)) * Y * 1000000000 ^ (p + 1) + val (P ++ part ++ T) = X) :
   val ((qs.set p (val part / Y)).drop p) * Y * 1000000000 ^ p + val (P ++ part' ++ T) = X:=by
 have e1 : (qs.set p (val part / Y)).drop p = (val part / Y) :: qs.drop (p + 1):=by
   have hl : p < (qs.set p (val part / Y)).length:=by rw [List.length_set]; omega
   rw [List.drop_eq_getElem_cons hl]; congr 1
   · simp
   · rw [List.drop_set_of_lt (by omega)]
 rw [e1,val,dp,dp,hT,Nat.mul_zero,Nat.add_zero,hP,hv]
 rw [dp,dp,hT,Nat.mul_zero,Nat.add_zero,hP,Nat.pow_succ] at h
 rw [← h]
 have hdm:=Nat.div_add_mod (val part) Y
 generalize val (qs.drop (p + 1)) = Q
 generalize 1000000000 ^ p = K
 have e2 : K * val part = val part / Y * Y * K + K * (val part % Y):=by
   have e3 : K * val part = K * (Y * (val part / Y) + val part % Y):=by rw [hdm]
   rw [e3,Nat.mul_add]; congr 1; rw [Nat.mul_comm Y]; exact Nat.mul_comm _ _
 rw [e2,Nat.add_mul,Nat.add_mul]
 have e4 : 1000000000 * Q * Y * K = Q * Y * (K * 1000000000):=by ac_rfl
 omega
theorem long_top {P part' T : List Nat} {p Y : Nat} (hP : P.length = p) (hT : val T = 0) (h : val part' < Y) : val ((P ++ part' ++ T).drop p) < Y:=by
 rw [List.append_assoc,← hP,List.drop_left' rfl,dp,hT,Nat.mul_zero,Nat.add_zero]; exact h
theorem three_parts {L : List Nat} {p m : Nat} (h : p + m ≤ L.length) : ∃ P part T,L = P ++ part ++ T ∧ P.length = p ∧ part.length = m:=by
 refine ⟨L.take p,(L.drop p).take m,(L.drop p).drop m,?_,?_,?_⟩
 · rw [List.append_assoc,List.take_append_drop,List.take_append_drop]
 · rw [List.length_take]; omega
 · rw [List.length_take,List.length_drop]; omega
end Go.Proofs.YtifgcjpgelbelaaGreatDoor
namespace Go.Proofs.YtifgcjpgelbelaaGreatDoor
open Go.RowKit
theorem bitLen_pow : ∀ (n y : Nat), y ≤ n → 0 < y → y < 2 ^ 64 → 0 < Lib.bitLen y ∧ 2 ^ (Lib.bitLen y - 1) ≤ y ∧ y < 2 ^ Lib.bitLen y
 | 0,y,h,h0,_=>by omega
 | n + 1,y,h,h0,h64=>by
   have e:=Lib.bitLen_half y (by omega) h64; rcases Nat.lt_or_ge y 2 with h1 | h1
   · have : y = 1:=by omega
     subst this; have e1 : Lib.bitLen 1 = 1:=by decide
     rw [e1]; decide
   · obtain ⟨i1,i2,i3⟩:=bitLen_pow n (y / 2) (by omega) (by omega) (by omega)
     obtain ⟨m,hm⟩ : ∃ m,Lib.bitLen (y / 2) = m + 1:=⟨Lib.bitLen (y / 2) - 1,by omega⟩
     rw [hm] at i2 i3 e; rw [e,show 1 + (m + 1) = m + 2 from by omega]; simp only [Nat.add_sub_cancel,show m + 2 - 1 = m + 1 from by omega,Nat.pow_succ] at i2 i3 ⊢; omega
theorem norm_y {y s : Nat} (h0 : 0 < y) (hy : y < 1000000000000000000) (hs : s = 64 - Lib.bitLen y) : 4 ≤ s ∧ s < 64 ∧ 9223372036854775808 ≤ y * 2 ^ s ∧ y * 2 ^ s < 18446744073709551616:=by
 obtain ⟨i1,i2,i3⟩:=bitLen_pow y y (Nat.le_refl _) h0 (by omega)
 have hl:=Lib.bitLen_le y 60 (by omega) (by omega)
 obtain ⟨L,hL⟩ : ∃ L,L = Lib.bitLen y:=⟨_,rfl⟩
 rw [← hL] at i1 i2 i3 hl hs
 refine ⟨by omega,by omega,?_,?_⟩
 · have h1 : 2 ^ (L - 1) * 2 ^ s ≤ y * 2 ^ s:=Nat.mul_le_mul_right _ i2; rw [← Nat.pow_add,show L - 1 + s = 63 from by omega] at h1; exact h1
 · have h1 : y * 2 ^ s < 2 ^ L * 2 ^ s:=Nat.mul_lt_mul_of_pos_right i3 (Nat.pow_pos (by decide)); rw [← Nat.pow_add,show L + s = 64 from by omega] at h1; exact h1
theorem norm_x {hi lo y s : Nat} (hhi : hi < y) (hlo : lo < 18446744073709551616) (hs : s < 64) :
   lo / 2 ^ (64 - s) < 2 ^ s ∧ hi * 2 ^ s + lo / 2 ^ (64 - s) < y * 2 ^ s ∧ (hi * 2 ^ s + lo / 2 ^ (64 - s)) * 18446744073709551616 + lo * 2 ^ s % 18446744073709551616 = (hi * 18446744073709551616 + lo) * 2 ^ s:=by
 obtain ⟨a,ha⟩ : ∃ a,a = 2 ^ s:=⟨_,rfl⟩
 obtain ⟨b,hb⟩ : ∃ b,b = 2 ^ (64 - s):=⟨_,rfl⟩
 have hab : b * a = 18446744073709551616:=by rw [ha,hb,← Nat.pow_add,show 64 - s + s = 64 from by omega]
 have ha0 : 0 < a:=by rw [ha]; exact Nat.pow_pos (by decide)
 have hb0 : 0 < b:=by rw [hb]; exact Nat.pow_pos (by decide)
 rw [← ha,← hb]
 have e : lo * a / 18446744073709551616 = lo / b:=by rw [← hab]; exact Nat.mul_div_mul_right lo b ha0
 have e2:=Nat.div_add_mod (lo * a) 18446744073709551616
 rw [e] at e2
 have h3 : (hi * a + lo / b) * 18446744073709551616 + lo * a % 18446744073709551616 = (hi * 18446744073709551616 + lo) * a:=by
   rw [Nat.add_mul,Nat.add_mul,Nat.mul_right_comm hi a]; omega
 refine ⟨?_,?_,h3⟩
 · rw [Nat.div_lt_iff_lt_mul hb0,Nat.mul_comm,hab]; exact hlo
 · have h4 : (hi + 1) * 18446744073709551616 * a ≤ y * 18446744073709551616 * a:=Nat.mul_le_mul_right _ (Nat.mul_le_mul_right _ hhi); have h5 : (hi * 18446744073709551616 + lo) * a < (hi + 1) * 18446744073709551616 * a:=Nat.mul_lt_mul_of_pos_right (by omega) ha0; have h6 : y * 18446744073709551616 * a = y * a * 18446744073709551616:=Nat.mul_right_comm _ _ _; omega
theorem or_shift {hi s c : Nat} (hs : s < 64) (hc : c < 2 ^ s) (hh : hi * 2 ^ s + c < 18446744073709551616) : bits .or .u64 ((hi * 2 ^ s : Nat) : Int) (c : Int) = ((hi * 2 ^ s + c : Nat) : Int):=by
 have h1 : 2 ^ s < 2 ^ 64:=Nat.pow_lt_pow_right (by decide) hs
 rw [bits_or_u64_nat _ _ (by omega) (by omega),Nat.mul_comm hi,← Nat.two_pow_add_eq_or_of_lt hc]
theorem mask32 (a : Nat) (ha : a < 18446744073709551616) : bits .and .u64 (a : Int) 4294967295 = ((a % 4294967296 : Nat) : Int):=by
 have h:=bits_and_u64_nat a 4294967295 ha (by omega)
 have e : a &&& 4294967295 = a % 4294967296:=Nat.and_two_pow_sub_one_eq_mod a 32
 rw [e] at h
 exact h
theorem wrap_small {g : Nat} (h : g < 18446744073709551616) : IntKind.u64.wrap (g : Int) = (g : Int):=by rw [IntKind.wrap_u64]; omega
theorem split32 {Y a b : Nat} (ha : a = Y / 4294967296) (hb : b = Y % 4294967296) : a * 4294967296 + b = Y:=by omega
theorem wrap_left {U u q Y : Nat} (hY : 0 < Y) (hY2 : Y < 18446744073709551616) (hq : q = (U * 4294967296 + u) / Y) :
   IntKind.u64.wrap (IntKind.u64.wrap (IntKind.u64.wrap ((U : Int) * 4294967296) + (u : Int)) - IntKind.u64.wrap ((q : Int) * (Y : Int))) = (((U * 4294967296 + u) % Y : Nat) : Int):=by
 have h:=Nat.div_add_mod (U * 4294967296 + u) Y
 rw [← hq] at h
 have hl:=Nat.mod_lt (U * 4294967296 + u) hY
 obtain ⟨p,hp⟩ : ∃ p,p = Y * q:=⟨_,rfl⟩
 have e : (q : Int) * (Y : Int) = (p : Int):=by rw [hp,Nat.mul_comm]; simp
 rw [e,IntKind.wrap_u64,IntKind.wrap_u64,IntKind.wrap_u64,IntKind.wrap_u64]
 rw [← hp] at h
 omega
def DivRet (hi lo y : Nat) (e : Ending) : Prop:=e = .returned (.tuple #[.int .u64 (((hi * 18446744073709551616 + lo) / y : Nat) : Int),.int .u64 (((hi * 18446744073709551616 + lo) % y : Nat) : Int)])
theorem div_ret {hi lo y : Nat} {a r : Int} (h : a = (((hi * 18446744073709551616 + lo) / y : Nat) : Int)) (h2 : r = (((hi * 18446744073709551616 + lo) % y : Nat) : Int)) : DivRet hi lo y (.returned (.tuple #[.int .u64 a,.int .u64 r])):=by
 unfold DivRet; rw [h,h2]
theorem rest_back {N U u1 u0 y Y s R : Nat} (hY : Y = y * 2 ^ s) (hx : U * (R * R) + (u1 * R + u0) = N * 2 ^ s) : ((U * R + u1) % Y * R + u0) % Y / 2 ^ s = N % y:=by
 have e : U * (R * R) + (u1 * R + u0) = Y * ((U * R + u1) / Y * R) + ((U * R + u1) % Y * R + u0):=by
   have h:=Nat.div_add_mod (U * R + u1) Y; have h2 : (Y * ((U * R + u1) / Y) + (U * R + u1) % Y) * R = (U * R + u1) * R:=by rw [h]
   rw [Nat.add_mul,Nat.add_mul,Nat.mul_assoc,Nat.mul_assoc U R R] at h2; omega
 have e2 : ((U * R + u1) % Y * R + u0) % Y = (N * 2 ^ s) % Y:=by rw [← hx,e,Nat.mul_add_mod]
 rw [e2,hY,Nat.mul_mod_mul_right,Nat.mul_div_cancel _ (Nat.pow_pos (by decide))]
theorem div64_s {hi lo y : Nat} (h0 : 0 < y) (hy : y < 1000000000000000000) (hhi : hi < y) (hlo : lo < 18446744073709551616) (w : World)
  (HLZ : Hid (∀ w,Calls Tryz.prog 212 #[.int .u64 y] w fun e w'=>e = .returned (.int .i64 ((64 - Lib.bitLen y : Nat) : Int)) ∧ w = w')) :
   Calls Tryz.prog 205 #[.int .u64 hi,.int .u64 lo,.int .u64 y] w fun e w'=>DivRet hi lo y e ∧ Drawn w w':=by
 have hy0 : ((y : Int) == 0) = false:=by rw [beq_eq_false_iff_ne]; omega
 have hyh : ¬ (y : Int) ≤ (hi : Int):=by omega
 by_cases hz : hi = 0
 · subst hz
   obtain ⟨q,hq⟩ : ∃ q,q = lo / y:=⟨_,rfl⟩
   have e1 : (lo : Int) / (y : Int) = (q : Int):=by rw [hq]; simp
   have hql:=wrap_small (g:=q) (by rw [hq]; exact Nat.lt_of_le_of_lt (Nat.div_le_self _ _) hlo); have HQL:=Lib.hid hql; have HQ:=Lib.hid hq; clear hq hql
   go_enter Tryz.func205,Tryz.ntmps205
   go_wp2
   go_quiet (fail)
   go_wp2
   go_ret2
   exact ⟨div_ret (by rw [HQL.out,HQ.out]; simp) (by rw [Nat.zero_mul,Nat.zero_add]; simp),⟨_,rfl⟩⟩
 · have hz0 : ((hi : Int) == 0) = false:=by rw [beq_eq_false_iff_ne]; omega
   obtain ⟨s,hs⟩ : ∃ s : Nat,s = 64 - Lib.bitLen y:=⟨_,rfl⟩
   obtain ⟨Y,hY⟩ : ∃ Y : Nat,Y = y * 2 ^ s:=⟨_,rfl⟩
   obtain ⟨yn1,hyn1⟩ : ∃ n : Nat,n = Y / 4294967296:=⟨_,rfl⟩
   obtain ⟨yn0,hyn0⟩ : ∃ n : Nat,n = Y % 4294967296:=⟨_,rfl⟩
   obtain ⟨hs1,hs2,b1,b2⟩:=norm_y h0 hy hs; rw [← hY] at b1 b2; obtain ⟨x1,x2,x3⟩:=norm_x (s:=s) hhi hlo hs2; rw [← hY] at x2
   obtain ⟨U,hU⟩ : ∃ U : Nat,U = hi * 2 ^ s + lo / 2 ^ (64 - s):=⟨_,rfl⟩
   obtain ⟨V,hV⟩ : ∃ V : Nat,V = lo * 2 ^ s % 18446744073709551616:=⟨_,rfl⟩
   rw [← hU] at x2; rw [← hU,← hV] at x3; have hVl : V < 18446744073709551616:=by rw [hV]; exact Nat.mod_lt _ (by decide)
   obtain ⟨u1,hu1⟩ : ∃ n : Nat,n = V / 4294967296:=⟨_,rfl⟩
   obtain ⟨u0,hu0⟩ : ∃ n : Nat,n = V % 4294967296:=⟨_,rfl⟩
   have e1 : IntKind.u64.wrap ((y : Int) * 2 ^ s) = (Y : Int):=by
     rw [show (y : Int) * 2 ^ s = ((y * 2 ^ s : Nat) : Int) from by simp,← hY,IntKind.wrap_u64]; omega
   have e2 : (Y : Int) / 4294967296 = (yn1 : Int):=by omega
   have e3 : bits .and .u64 (Y : Int) 4294967295 = (yn0 : Int):=by rw [mask32 _ b2,← hyn0]
   have e4 : bits .or .u64 (IntKind.u64.wrap ((hi : Int) * 2 ^ s)) ((lo : Int) / 2 ^ (64 - s)) = (U : Int):=by
     have k1 : hi * 2 ^ s + lo / 2 ^ (64 - s) < 18446744073709551616:=by rw [← hU]; omega
     have k2 : IntKind.u64.wrap ((hi : Int) * 2 ^ s) = ((hi * 2 ^ s : Nat) : Int):=by
       rw [show (hi : Int) * 2 ^ s = ((hi * 2 ^ s : Nat) : Int) from by simp]; exact wrap_small (Nat.lt_of_le_of_lt (Nat.le_add_right _ _) k1)
     have k3 : (lo : Int) / 2 ^ (64 - s) = ((lo / 2 ^ (64 - s) : Nat) : Int):=by simp
     rw [k2,k3,or_shift hs2 x1 k1,hU]
   have e5 : IntKind.u64.wrap ((lo : Int) * 2 ^ s) = (V : Int):=by
     rw [show (lo : Int) * 2 ^ s = ((lo * 2 ^ s : Nat) : Int) from by simp,IntKind.wrap_u64,hV]; omega
   have e6 : (V : Int) / 4294967296 = (u1 : Int):=by omega
   have e7 : bits .and .u64 (V : Int) 4294967295 = (u0 : Int):=by rw [mask32 _ hVl,← hu0]
   have b3 : 2147483648 ≤ yn1:=by omega
   have b4 : yn1 < 4294967296:=by omega
   have b5 : yn0 < 4294967296:=by omega
   have hYs : yn1 * 4294967296 + yn0 = Y:=split32 hyn1 hyn0; have b6 : u1 < 4294967296:=by omega
   have b7 : u0 < 4294967296:=by omega
   have hVs : V = u1 * 4294967296 + u0:=(split32 hu1 hu0).symm; have e8 : ((yn1 : Int) == 0) = false:=by rw [beq_eq_false_iff_ne]; omega
   have hfin : (hi * 18446744073709551616 + lo) / y = (U * 4294967296 + u1) / Y * 4294967296 + ((U * 4294967296 + u1) % Y * 4294967296 + u0) / Y:=by
     rw [← two_digits (R:=4294967296) (by omega : 0 < Y),← shifted _ _ s,← x3,← hY,hVs]
   obtain ⟨q1,hq1⟩ : ∃ n : Nat,n = (U * 4294967296 + u1) / Y:=⟨_,rfl⟩
   obtain ⟨U2,hU2⟩ : ∃ n : Nat,n = (U * 4294967296 + u1) % Y:=⟨_,rfl⟩
   obtain ⟨q0,hq0⟩ : ∃ n : Nat,n = (U2 * 4294967296 + u0) / Y:=⟨_,rfl⟩
   have hU2Y : U2 < Y:=by rw [hU2]; exact Nat.mod_lt _ (by omega)
   have q1l : q1 < 4294967296:=by rw [hq1]; exact digit_lt x2 b6
   have q0l : q0 < 4294967296:=by rw [hq0]; exact digit_lt hU2Y b7
   rw [← hq1,← hU2,← hq0] at hfin
   obtain ⟨W,hW⟩ : ∃ n : Nat,n = (U2 * 4294967296 + u0) % Y:=⟨_,rfl⟩
   obtain ⟨rr,hrr⟩ : ∃ n : Nat,n = W / 2 ^ s:=⟨_,rfl⟩
   have hrst : rr = (hi * 18446744073709551616 + lo) % y:=by
     rw [hrr,hW,hU2]; exact rest_back (R:=4294967296) hY (by rw [← x3,hVs])
   have hw0:=wrap_left (U:=U2) (u:=u0) (q:=q0) (Y:=Y) (by omega) b2 hq0; rw [← hW] at hw0; have bW : W < 18446744073709551616:=by rw [hW]; exact Nat.lt_trans (Nat.mod_lt _ (by omega)) b2
   have ew : (W : Int) / 2 ^ s = (rr : Int):=by rw [hrr]; simp
   have HRST:=Lib.hid hrst; have hw1:=wrap_left (U:=U) (u:=u1) (q:=q1) (Y:=Y) (by omega) b2 hq1; rw [← hU2] at hw1
   obtain ⟨a1,ha1⟩ : ∃ n : Nat,n = U / yn1:=⟨_,rfl⟩
   obtain ⟨r1,hr1⟩ : ∃ n : Nat,n = U % yn1:=⟨_,rfl⟩
   obtain ⟨a0,ha0⟩ : ∃ n : Nat,n = U2 / yn1:=⟨_,rfl⟩
   obtain ⟨r0,hr0⟩ : ∃ n : Nat,n = U2 % yn1:=⟨_,rfl⟩
   have i1:=divInv_start (R:=4294967296) (yn1:=yn1) (yn0:=yn0) (U:=U) (u:=u1) (by omega) b4 b6; have i0:=divInv_start (R:=4294967296) (yn1:=yn1) (yn0:=yn0) (U:=U2) (u:=u0) (by omega) b4 b7; rw [← ha1,← hr1] at i1; rw [← ha0,← hr0] at i0; have d1 : (U : Int) / (yn1 : Int) = (a1 : Int):=by rw [ha1]; simp
   have d0 : (U2 : Int) / (yn1 : Int) = (a0 : Int):=by rw [ha0]; simp
   have l1 : a1 ≤ 8589934592:=by
     rw [ha1]; have:=Nat.div_le_div_left (a:=U) b3 (by decide); omega
   have l0 : a0 ≤ 8589934592:=by
     rw [ha0]; have:=Nat.div_le_div_left (a:=U2) b3 (by decide); omega
   have m1 : IntKind.u64.wrap ((U : Int) - IntKind.u64.wrap ((a1 : Int) * (yn1 : Int))) = (r1 : Int):=by
     have h:=i1.1
     obtain ⟨p,hp⟩ : ∃ p,p = a1 * yn1:=⟨_,rfl⟩
     rw [← hp] at h; rw [show (a1 : Int) * (yn1 : Int) = (p : Int) from by rw [hp]; simp,IntKind.wrap_u64,IntKind.wrap_u64]; omega
   have m0 : IntKind.u64.wrap ((U2 : Int) - IntKind.u64.wrap ((a0 : Int) * (yn1 : Int))) = (r0 : Int):=by
     have h:=i0.1
     obtain ⟨p,hp⟩ : ∃ p,p = a0 * yn1:=⟨_,rfl⟩
     rw [← hp] at h; rw [show (a0 : Int) * (yn1 : Int) = (p : Int) from by rw [hp]; simp,IntKind.wrap_u64,IntKind.wrap_u64]; omega
   have bU : U < 18446744073709551616:=by omega
   have bU2 : U2 < 18446744073709551616:=by omega
   have HX:=Lib.hid x2; have HU2Y:=Lib.hid hU2Y; have HYs:=Lib.hid hYs; have HFIN:=Lib.hid hfin; have HQ1:=Lib.hid hq1; have HQ0:=Lib.hid hq0; have I1:=Lib.hid i1; have I0:=Lib.hid i0; rw [← hs] at HLZ; clear x1 x2 x3 b1 b2 hY hyn1 hyn0 hs hU hV hu1 hu0 hVs hYs hfin hW hrr hrst hq1 hq0 hU2 hU2Y ha1 hr1 ha0 hr0 i1 i0
   go_enter Tryz.func205,Tryz.ntmps205
   go_upto_block 0 with (go_at_call 212; refine (HLZ.out _).mono ?_; rintro e w' ⟨rfl,rfl⟩)
   go_cut [15] (fun v wx=>v = .int .u64 (q1 : Int) ∧ w = wx)
   case first =>
     go_wp2_with fail
     go_loop [15,16] (fun v x=>∃ q r : Nat,v = .int .u64 (q : Int) ∧ x = .int .u64 (r : Int) ∧ q ≤ 8589934592 ∧ r < 4294967296 ∧ Hid (DivInv 4294967296 yn1 yn0 U u1 q r)) (fun v _=>(intOf v).toNat)
     case atStart=>exact ⟨a1,r1,rfl,rfl,l1,I1.out.2.1,I1.out⟩
     case round =>
       obtain ⟨q,r,rfl,rfl,hq,hr,HI⟩:=hrel
       obtain ⟨z,hz⟩ : ∃ z : Nat,z = q * yn0:=⟨_,rfl⟩
       have ez : (q : Int) * (yn0 : Int) = (z : Int):=by rw [hz]; simp
       have HZ:=Lib.hid hz; have hYp : 0 < yn1 * 4294967296 + yn0:=by omega
       have HUY : Hid (U < yn1 * 4294967296 + yn0):=by show _ < _; rw [HYs.out]; exact HX.out
       have hdown:=fun (ht : 4294967296 ≤ q ∨ 4294967296 * r + u1 < z) (hb : r + yn1 < 4294967296)=>divInv_down HI.out hYp HUY.out b6 (by rw [← HZ.out]; exact ht) hb; have hlast:=fun (ht : 4294967296 ≤ q ∨ 4294967296 * r + u1 < z) (hb : 4294967296 ≤ r + yn1)=>divInv_last HI.out hYp HUY.out b5 b6 (by rw [← HZ.out]; exact ht) hb; rw [HYs.out,← HQ1.out] at hlast; have HD:=Lib.hid hdown; have HL:=Lib.hid hlast; have hex:=fun (ht : ¬ 4294967296 * r + u1 < z)=>divInv_exit HI.out hYp (by rw [← HZ.out]; exact ht); rw [HYs.out,← HQ1.out] at hex; have HE:=Lib.hid hex; clear hz hdown hlast hex
       by_cases hR : 4294967296 ≤ q
       · have hR' : (4294967296 : Int) ≤ (q : Int):=by omega
         by_cases hb : 4294967296 ≤ r + yn1
         · have h1:=(HL.out (.inl hR) hb).2; have H1:=Lib.hid h1; have hbd : decide ((4294967296 : Int) ≤ (r : Int) + (yn1 : Int)) = true:=by rw [decide_eq_true_eq]; omega
           clear h1 hb
           go_wp2
           go_meet
           exact ⟨int_eq (by have:=H1.out; omega),rfl⟩
         · have h1:=(HD.out (.inl hR) (by omega)).2; have H1:=Lib.hid h1; have hbd : decide ((4294967296 : Int) ≤ (r : Int) + (yn1 : Int)) = false:=by rw [decide_eq_false_iff_not]; omega
           have HB:=Lib.hid (Nat.lt_of_not_le hb); clear h1 hb
           go_wp2
           go_round
           case rel=>exact ⟨q - 1,r + yn1,int_eq (by omega),by go_num,by omega,HB.out,H1.out⟩
           case measure=>simp [intOf]; omega
       · have hzb : z < 18446744073709551616:=by
           rw [HZ.out]; have:=Nat.mul_le_mul (show q ≤ 4294967295 by omega) (show yn0 ≤ 4294967295 by omega); omega
         have hRd : decide ((4294967296 : Int) ≤ (q : Int)) = false:=by rw [decide_eq_false_iff_not]; omega
         have hqi : q ≤ 4294967295:=by omega
         obtain ⟨x,hx⟩ : ∃ x : Nat,x = 4294967296 * r + u1:=⟨_,rfl⟩
         have ex : (4294967296 : Int) * (r : Int) + (u1 : Int) = (x : Int):=by omega
         rw [← hx] at HD HL HE; clear hx hR hq
         by_cases ht : x < z
         · have h0q := Nat.lt_of_not_le (fun h : q ≤ 0 => by have e0 : q = 0 := by omega
                                                             have:=HZ.out; rw [e0,Nat.zero_mul] at this; omega)
           by_cases hb : 4294967296 ≤ r + yn1
           · have h1:=(HL.out (.inr ht) hb).2; have H1:=Lib.hid h1; have hbd : decide ((4294967296 : Int) ≤ (r : Int) + (yn1 : Int)) = true:=by rw [decide_eq_true_eq]; omega
             clear h1 hb
             go_wp2
             go_meet
             exact ⟨int_eq (by have:=H1.out; omega),rfl⟩
           · have h1:=(HD.out (.inr ht) (by omega)).2; have H1:=Lib.hid h1; have hbd : decide ((4294967296 : Int) ≤ (r : Int) + (yn1 : Int)) = false:=by rw [decide_eq_false_iff_not]; omega
             have HB:=Lib.hid (Nat.lt_of_not_le hb); clear h1 hb
             go_wp2
             go_round
             case rel=>exact ⟨q - 1,r + yn1,int_eq (by omega),by go_num,by omega,HB.out,H1.out⟩
             case measure=>simp [intOf]; omega
         · have h1:=HE.out ht; have H1:=Lib.hid h1; clear h1
           go_wp2
           go_meet
           exact ⟨int_eq (by have:=H1.out; omega),rfl⟩
   case rest =>
     obtain ⟨rfl,hwc⟩:=hcut; subst hwc
     go_upto_block 2 with fail
     go_cut [18] (fun v wx=>v = .int .u64 (q0 : Int) ∧ w = wx)
     case first =>
       go_wp2_with fail
       go_loop [18,16] (fun v x=>∃ q r : Nat,v = .int .u64 (q : Int) ∧ x = .int .u64 (r : Int) ∧ q ≤ 8589934592 ∧ r < 4294967296 ∧ Hid (DivInv 4294967296 yn1 yn0 U2 u0 q r)) (fun v _=>(intOf v).toNat)
       case atStart=>exact ⟨a0,r0,rfl,rfl,l0,I0.out.2.1,I0.out⟩
       case round =>
         obtain ⟨q,r,rfl,rfl,hq,hr,HI⟩:=hrel
         obtain ⟨z,hz⟩ : ∃ z : Nat,z = q * yn0:=⟨_,rfl⟩
         have ez : (q : Int) * (yn0 : Int) = (z : Int):=by rw [hz]; simp
         have HZ:=Lib.hid hz; have hYp : 0 < yn1 * 4294967296 + yn0:=by omega
         have HUY : Hid (U2 < yn1 * 4294967296 + yn0):=by show _ < _; rw [HYs.out]; exact HU2Y.out
         have hdown:=fun (ht : 4294967296 ≤ q ∨ 4294967296 * r + u0 < z) (hb : r + yn1 < 4294967296)=>divInv_down HI.out hYp HUY.out b7 (by rw [← HZ.out]; exact ht) hb; have hlast:=fun (ht : 4294967296 ≤ q ∨ 4294967296 * r + u0 < z) (hb : 4294967296 ≤ r + yn1)=>divInv_last HI.out hYp HUY.out b5 b7 (by rw [← HZ.out]; exact ht) hb; rw [HYs.out,← HQ0.out] at hlast; have HD:=Lib.hid hdown; have HL:=Lib.hid hlast; have hex:=fun (ht : ¬ 4294967296 * r + u0 < z)=>divInv_exit HI.out hYp (by rw [← HZ.out]; exact ht); rw [HYs.out,← HQ0.out] at hex; have HE:=Lib.hid hex; clear hz hdown hlast hex
         by_cases hR : 4294967296 ≤ q
         · have hR' : (4294967296 : Int) ≤ (q : Int):=by omega
           by_cases hb : 4294967296 ≤ r + yn1
           · have h1:=(HL.out (.inl hR) hb).2; have H1:=Lib.hid h1; have hbd : decide ((4294967296 : Int) ≤ (r : Int) + (yn1 : Int)) = true:=by rw [decide_eq_true_eq]; omega
             clear h1 hb
             go_wp2
             go_meet
             exact ⟨int_eq (by have:=H1.out; omega),rfl⟩
           · have h1:=(HD.out (.inl hR) (by omega)).2; have H1:=Lib.hid h1; have hbd : decide ((4294967296 : Int) ≤ (r : Int) + (yn1 : Int)) = false:=by rw [decide_eq_false_iff_not]; omega
             have HB:=Lib.hid (Nat.lt_of_not_le hb); clear h1 hb
             go_wp2
             go_round
             case rel=>exact ⟨q - 1,r + yn1,int_eq (by omega),by go_num,by omega,HB.out,H1.out⟩
             case measure=>simp [intOf]; omega
         · have hzb : z < 18446744073709551616:=by
             rw [HZ.out]; have:=Nat.mul_le_mul (show q ≤ 4294967295 by omega) (show yn0 ≤ 4294967295 by omega); omega
           have hRd : decide ((4294967296 : Int) ≤ (q : Int)) = false:=by rw [decide_eq_false_iff_not]; omega
           have hqi : q ≤ 4294967295:=by omega
           obtain ⟨x,hx⟩ : ∃ x : Nat,x = 4294967296 * r + u0:=⟨_,rfl⟩
           have ex : (4294967296 : Int) * (r : Int) + (u0 : Int) = (x : Int):=by omega
           rw [← hx] at HD HL HE; clear hx hR hq
           by_cases ht : x < z
           · have h0q := Nat.lt_of_not_le (fun h : q ≤ 0 => by have e0 : q = 0 := by omega
                                                               have:=HZ.out; rw [e0,Nat.zero_mul] at this; omega)
             by_cases hb : 4294967296 ≤ r + yn1
             · have h1:=(HL.out (.inr ht) hb).2; have H1:=Lib.hid h1; have hbd : decide ((4294967296 : Int) ≤ (r : Int) + (yn1 : Int)) = true:=by rw [decide_eq_true_eq]; omega
               clear h1 hb
               go_wp2
               go_meet
               exact ⟨int_eq (by have:=H1.out; omega),rfl⟩
             · have h1:=(HD.out (.inr ht) (by omega)).2; have H1:=Lib.hid h1; have hbd : decide ((4294967296 : Int) ≤ (r : Int) + (yn1 : Int)) = false:=by rw [decide_eq_false_iff_not]; omega
               have HB:=Lib.hid (Nat.lt_of_not_le hb); clear h1 hb
               go_wp2
               go_round
               case rel=>exact ⟨q - 1,r + yn1,int_eq (by omega),by go_num,by omega,HB.out,H1.out⟩
               case measure=>simp [intOf]; omega
           · have h1:=HE.out ht; have H1:=Lib.hid h1; clear h1
             go_wp2
             go_meet
             exact ⟨int_eq (by have:=H1.out; omega),rfl⟩
     case rest =>
       obtain ⟨rfl,rfl⟩:=hcut
       go_wp2
       go_ret2
       exact ⟨div_ret (by rw [HFIN.out]; simp) (by rw [HRST.out]),Drawn.refl _⟩
theorem div64_any {hi lo y : Nat} (h0 : 0 < y) (hy : y < 1000000000000000000) (hhi : hi < y) (hlo : lo < 18446744073709551616) (w : World) :
   Calls Tryz.prog 205 #[.int .u64 hi,.int .u64 lo,.int .u64 y] w fun e w'=>DivRet hi lo y e ∧ Drawn w w' :=
 div64_s h0 hy hhi hlo w (fun w=>by
   have h:=Tryz.bits_LeadingZeros64 (y : Int) w (by omega) (by omega); have hl:=Lib.bitLen_le y 60 (by omega) (by omega); rw [Int.toNat_natCast,show (64 : Int) - (Lib.bitLen y : Int) = ((64 - Lib.bitLen y : Nat) : Int) from by omega] at h
   exact h.mono fun _ _ k=>⟨k.1,k.2.symm⟩)
end Go.Proofs.YtifgcjpgelbelaaGreatDoor
namespace Go.Proofs.YtifgcjpgelbelaaGreatDoor
def dval : List Nat → Nat
 | []=>0
 | d :: ds=>d + 10 * dval ds
theorem cn (xs ys : List Nat) : dval (xs ++ ys) = dval xs + 10 ^ xs.length * dval ys:=by
 induction xs with
 | nil=>simp [dval]
 | cons x xs ih=>simp only [List.cons_append,dval,ih,List.length_cons,Nat.pow_succ]; rw [Nat.mul_add,Nat.mul_comm (10 ^ xs.length) 10,Nat.mul_assoc]; omega
theorem dval_lt {ds : List Nat} (h : small 10 ds) : dval ds < 10 ^ ds.length:=by
 induction ds with
 | nil=>simp [dval]
 | cons d ds ih =>
   have h1:=h d (List.mem_cons_self ..); have h2:=ih (fun x hx=>h x (List.mem_cons_of_mem _ hx)); simp only [dval,List.length_cons,Nat.pow_succ]; omega
theorem fu (ds : List Nat) : dval (strip ds) = dval ds:=by
 induction ds with
 | nil=>rfl
 | cons d ds ih =>
   rw [strip]; split
   · rename_i h
     rw [h] at ih; simp only [dval] at ih ⊢; split
     · rename_i h0; simp only [dval]; omega
     · simp only [dval]; omega
   · simp only [dval,ih]
def dright (ds : List Nat) : Prop:=small 10 ds ∧ (ds = [] ∨ ds.getLast? ≠ some 0)
theorem eo {ds : List Nat} (h : small 10 ds) : dright (strip ds):=⟨fun x hx=>h x (strip_mem ds x hx),strip_last ds⟩
theorem dval_pos {ds : List Nat} (hne : ds ≠ []) (hl : ds.getLast? ≠ some 0) : 0 < dval ds:=by
 induction ds with
 | nil=>exact absurd rfl hne
 | cons d ds ih =>
   cases ds with
   | nil =>
     have : d ≠ 0:=by simpa using hl
     simp [dval]; omega
   | cons x xs =>
     rw [List.getLast?_cons_cons] at hl; have:=ih (by simp) hl; simp only [dval] at this ⊢; omega
theorem kl (ds : List Nat) (k : Nat) (hk : k < ds.length) : dval (ds.drop k) = ds.getD k 0 + 10 * dval (ds.drop (k + 1)):=by
 rw [List.drop_eq_getElem_cons hk,dval,List.getD_eq_getElem?_getD,List.getElem?_eq_getElem hk]; rfl
def chunk (ds : List Nat) (t : Nat) : Nat:=dval ((ds.drop (9 * t)).take 9)
def chunks (ds : List Nat) (n : Nat) : List Nat:=(List.range n).map (chunk ds)
theorem gi (ds : List Nat) (n : Nat) : chunks ds (n + 1) = chunks ds n ++ [chunk ds n]:=by simp [chunks,List.range_succ]
theorem dh (ds : List Nat) (n : Nat) : (chunks ds n).length = n:=by simp [chunks]
theorem chunk_lt {ds : List Nat} (h : small 10 ds) (t : Nat) : chunk ds t < 1000000000:=by
 have h1:=dval_lt (small_take (small_drop h (9 * t)) 9)
 have h2 : 10 ^ ((ds.drop (9 * t)).take 9).length ≤ 10 ^ 9:=Nat.pow_le_pow_right (by omega) (by rw [List.length_take]; omega)
 have h3 : (10 : Nat) ^ 9 = 1000000000:=by decide
 unfold chunk
 omega
theorem chunks_small {ds : List Nat} (h : small 10 ds) (n : Nat) : small 1000000000 (chunks ds n):=by
 intro d hd
 obtain ⟨t,_,rfl⟩:=List.mem_map.1 hd
 exact chunk_lt h t
theorem chunks_val (ds : List Nat) (n : Nat) : val (chunks ds n) + 1000000000 ^ n * dval (ds.drop (9 * n)) = dval ds:=by
 induction n with
 | zero=>simp [chunks,val]
 | succ n ih =>
   rw [gi,dq,dh,← ih]
   have h1 : ds.drop (9 * n) = (ds.drop (9 * n)).take 9 ++ ds.drop (9 * (n + 1)):=by
     rw [show 9 * (n + 1) = 9 * n + 9 from by omega,← List.drop_drop,List.take_append_drop]
   have h2 : dval (ds.drop (9 * n)) = chunk ds n + 1000000000 * dval (ds.drop (9 * (n + 1))):=by
     rcases Nat.lt_or_ge (ds.drop (9 * n)).length 9 with h | h
     · have e : ds.drop (9 * (n + 1)) = []:=List.drop_of_length_le (by rw [List.length_drop] at h; omega); rw [e,chunk,List.take_of_length_le (by omega)]; simp [dval]
     · rw [h1,cn,List.length_take,Nat.min_eq_left h]; rfl
   rw [h2,Nat.pow_succ]
   generalize dval (ds.drop (9 * (n + 1))) = x
   rw [Nat.mul_add,Nat.mul_assoc,Nat.add_assoc]
theorem chunks_all {ds : List Nat} {n : Nat} (h : ds.length ≤ 9 * n) : val (chunks ds n) = dval ds:=by
 have:=chunks_val ds n
 rw [List.drop_of_length_le h] at this
 simpa [dval] using this
theorem chunks_right {ds : List Nat} {n : Nat} (hd : dright ds) (h : ds.length ≤ 9 * n) (h2 : n = 0 ∨ 9 * (n - 1) < ds.length) : right (chunks ds n):=by
 refine ⟨chunks_small hd.1 n,?_⟩
 rcases Nat.eq_zero_or_pos n with rfl | hp
 · exact .inl rfl
 · right
   obtain ⟨m,rfl⟩ : ∃ m,n = m + 1:=⟨n - 1,by omega⟩
   have h3 : 9 * m < ds.length:=by
     rcases h2 with h2 | h2
     · omega
     · simpa using h2
   rw [gi]; simp only [List.getLast?_append,List.getLast?_singleton,Option.some_or,ne_eq,Option.some.injEq]; have e : chunk ds m = dval (ds.drop (9 * m)):=by rw [chunk,List.take_of_length_le (by rw [List.length_drop]; omega)]
   rw [e]
   have:=dval_pos (ds:=ds.drop (9 * m)) (by intro e; have:=congrArg List.length e; rw [List.length_drop] at this; simp at this; omega) (by
     rw [List.getLast?_drop,if_neg (by omega)]; rcases hd.2 with h | h
     · subst h; simp at h3
     · exact h)
   omega
end Go.Proofs.YtifgcjpgelbelaaGreatDoor
namespace Go.Proofs.YtifgcjpgelbelaaGreatDoor
open Go.RowKit
theorem jd {w : World} {A : Option Addr} {c : Nat} {ds : List Nat} (hr : Row w A (u8s ds)) (hlen : ds.length ≤ 1000000) (hc : ds.length ≤ c) :
   Calls Tryz.prog 154 #[.slice A ds.length c] w fun e w'=>(e = .returned (.slice A (strip ds).length c) ∧ Row w A (u8s (strip ds))) ∧ w = w':=by
 go_enter Tryz.func154,Tryz.ntmps154
 go_wp2
 go_loop [0] (fun v=>∃ k : Nat,k ≤ ds.length ∧ v = .slice A k c ∧ Hid (∀ j,k ≤ j → ds.getD j 0 = 0)) (fun v=>match v with | .slice _ n _=>n | _=>0)
 case atStart=>exact ⟨ds.length,Nat.le_refl _,rfl,fun j hj=>by rw [List.getD_eq_getElem?_getD,List.getElem?_eq_none hj]; rfl⟩
 case round =>
   obtain ⟨k,hk,rfl,HZ⟩:=hrel; rcases Nat.eq_zero_or_pos k with rfl | hpos
   · go_wp2
     go_ret
     have e : strip ds = []:=by rw [cx ds 0 HZ.out (Nat.zero_le _) (.inl rfl)]; rfl
     exact ⟨⟨by rw [e]; rfl,by rw [e]; exact Row.nil _ _⟩,rfl⟩
   · obtain ⟨p,rfl⟩ : ∃ p,k = p + 1:=⟨k - 1,by omega⟩
     obtain ⟨ad,x,rfl,hcx,hx,_⟩:=hr.byte (k:=p) (by omega); have hpc : p ≤ c:=by omega
     by_cases hd : x = 0
     · subst hd
       go_wp2
       go_round
       case rel=>exact ⟨p,by omega,by first | rfl | simp,fun j hj=>by
         rcases Nat.lt_or_ge j (p + 1) with h | h
         · have : j = p:=by omega
           rw [this]; exact hx.out
         · exact HZ.out j h⟩
       case measure=>first | (simp; done) | (simp; omega)
     · have ht : ((x : Int) == 0) = false:=by rw [beq_eq_false_iff_ne]; omega
       have HD:=Lib.hid hd; clear hd
       go_wp2
       go_ret
       have e : strip ds = ds.take (p + 1):=cx ds (p + 1) HZ.out hk (.inr (by rw [Nat.add_sub_cancel,hx.out]; exact HD.out)); rw [e,← u8s_take]; refine ⟨⟨?_,hr.take _⟩,rfl⟩; rw [List.length_take,Nat.min_eq_left hk]; rfl
theorem piece_step {ds : List Nat} {p e : Nat} (hp : p < e) (he : e ≤ ds.length) : dval ((ds.drop p).take (e - p)) = 10 * dval ((ds.drop (p + 1)).take (e - (p + 1))) + ds.getD p 0:=by
 rw [List.drop_eq_getElem_cons (show p < ds.length by omega),show e - p = (e - (p + 1)) + 1 from by omega,List.take_succ_cons,dval,List.getD_eq_getElem?_getD,List.getElem?_eq_getElem (show p < ds.length by omega)]
 simp only [Option.getD_some]
 omega
theorem kb {ds : List Nat} (h : small 10 ds) {p e : Nat} (he : e - p ≤ 9) : dval ((ds.drop p).take (e - p)) < 1000000000:=by
 have h1:=dval_lt (small_take (small_drop h p) (e - p))
 have h2 : 10 ^ ((ds.drop p).take (e - p)).length ≤ 10 ^ 9:=Nat.pow_le_pow_right (by omega) (by rw [List.length_take]; omega)
 have h3 : (10 : Nat) ^ 9 = 1000000000:=by decide
 omega
theorem write_any {w : World} {A : Option Addr} {c : Nat} {ds : List Nat} (hr : Row w A (u8s ds)) (hd : small 10 ds) (hlen : ds.length ≤ 1000000) :
   Calls Tryz.prog 137 #[.slice A ds.length c] w fun e w'=>∃ v n,e = .returned v ∧ Own w' w.heap.size 88 v (u32s (chunks ds n)) ∧ Below w.heap.size w w' ∧ ds.length ≤ 9 * n ∧ (n = 0 ∨ 9 * (n - 1) < ds.length):=by
 obtain ⟨i0,hi,hz0,hz1,hz2⟩:=info_parts dw
 obtain ⟨B,hB⟩ : ∃ B,B = w.heap.size:=⟨_,rfl⟩
 have HB:=Lib.hid hB
 rw [← hB]
 clear hB
 obtain ⟨len,hl⟩ : ∃ len,len = ds.length:=⟨_,rfl⟩
 have HL:=Lib.hid hl
 have hlen' : len ≤ 1000000:=by omega
 rw [← hl]
 clear hl hlen
 go_enter Tryz.func137,Tryz.ntmps137
 go_wp2
 go_loopw [3,4] (fun v i wr=>∃ j : Nat,(j = 0 ∨ 9 * (j - 1) < len) ∧ i = .int .i64 ((9 * j : Nat) : Int) ∧ Own wr B 88 v (u32s (chunks ds j)) ∧ Below w.heap.size w wr) (fun _ i _=>len + 9 - (intOf i).toNat)
 case atStart=>exact ⟨0,.inl rfl,rfl,Own.nil _ _ _,Below.refl _ _⟩
 case round =>
   obtain ⟨j,hj,rfl,hown,hb⟩:=hrel
   obtain ⟨s,hs⟩ : ∃ s,s = 9 * j:=⟨_,rfl⟩
   rw [← hs]; have hs1 : s ≤ len + 8:=by omega
   have HS:=Lib.hid hs
   by_cases hlt : s < len
   · obtain ⟨e,he⟩ : ∃ e,e = min (s + 9) len:=⟨_,rfl⟩
     have he1 : s < e:=by omega
     have he2 : e ≤ len:=by omega
     have he3 : e ≤ s + 9:=by omega
     have hmin : min ((s : Int) + 9) (len : Int) = (e : Int):=by omega
     have HE:=Lib.hid he; clear hs he
     go_wp2_with fail
     obtain ⟨wo,hwo⟩ : ∃ wo : World,wo = wr:=⟨_,rfl⟩
     go_loop [5,6] (fun nv kv=>∃ m : Nat,s ≤ m ∧ m ≤ e ∧ kv = .int .i64 ((m : Int) - 1) ∧ nv = .int .u32 ((dval ((ds.drop m).take (e - m)) : Nat) : Int)) (fun _ kv=>(intOf kv + 1).toNat)
     case atStart=>exact ⟨e,by omega,Nat.le_refl _,rfl,by rw [Nat.sub_self]; rfl⟩
     case round =>
       obtain ⟨m,hm1,hm2,rfl,rfl⟩:=hrel
       obtain ⟨nn,hnn⟩ : ∃ nn,nn = dval ((ds.drop m).take (e - m)):=⟨_,rfl⟩
       rw [← hnn]; have hnl : nn < 1000000000:=by rw [hnn]; exact kb hd (by omega)
       have HNN:=Lib.hid hnn; clear hnn
       by_cases hms : m = s
       · subst hms; have hsz:=hb.size
         go_wp2_with (at_builtin; refine wpList_append_own _ rfl _ _ 22 rfl B 88 i0 (.int .u32 0) 1 4 Tryz.underlying22 hi hz0 hz1 hz2 rfl (by decide) _ _ _ rfl (hown.alloc _) ⟨wr.heap.size,0,none⟩ 1 1 [.int .u32 (nn : Int)] rfl rfl (one_news rfl) ch (by rw [am,dh]; unfold maxLen; omega) (by rw [am,dh]; omega) (by rw [HB.out]; simp; omega) ?_)
         intro v' w2 hown' hgrow' _; have ho2:=de hown'; have hb2:=dc hb hown HB hgrow'; clear hown' hgrow' hown hb hwo
         go_wp2
         go_roundw
         case rel=>exact ⟨j + 1,.inr (by have:=HS.out; omega),int_eq (by have:=HS.out; omega),by
           rw [gi]
           have e1 : chunk ds j = nn:=by
             rw [HNN.out,chunk,← HS.out]; rcases Nat.lt_or_ge (m + 9) len with h | h
             · rw [show e - m = 9 from by have:=HE.out; omega]
             · rw [List.take_of_length_le (by rw [List.length_drop,← HL.out]; omega),List.take_of_length_le (by rw [List.length_drop,← HL.out]; have:=HE.out; omega)]
           rw [e1]; exact ho2,hb2⟩
         case measure=>first | (simp [intOf]; done) | (simp [intOf]; omega)
       · obtain ⟨p,rfl⟩ : ∃ p,m = p + 1:=⟨m - 1,by omega⟩
         rw [show ((p + 1 : Nat) : Int) - 1 = (p : Int) from by omega]; obtain ⟨ad,x,rfl,hcx,hx,hxm⟩:=(hr.below hb).byte (k:=p) (by rw [← HL.out]; omega); have hx10:=hd x hxm; have hsp : s ≤ p:=by omega
         have hpc : (p : Int) < len:=by omega
         have hst:=piece_step (ds:=ds) (p:=p) (e:=e) (by omega) (by rw [← HL.out]; omega); have hpl:=kb hd (p:=p) (e:=e) (by omega); rw [hst,hx.out,← HNN.out] at hpl; rw [hx.out,← HNN.out] at hst; have HST:=Lib.hid hst; clear hst hms hxm
         go_wp2
         go_round
         case rel=>exact ⟨p,by omega,by omega,by go_num,int_eq (by rw [HST.out]; omega)⟩
         case measure=>first | (simp [intOf]; done) | (simp [intOf]; omega)
   · go_wp2
     go_ret
     refine ⟨_,j,rfl,hown,HB.out ▸ hb,?_,hj⟩; have:=HS.out; omega
def bt (s : ByteArray) : List Nat:=s.data.toList.map (·.toNat)
theorem ct (s : ByteArray) : (bt s).length = s.size:=by rw [bt,List.length_map,Array.length_toList]; rfl
theorem ret_bool {a b : Bool} (h : a = b) : Ending.returned (.bool a) = .returned (.bool b):=by rw [h]
theorem bt_at (s : ByteArray) (k : Nat) (h : k < s.size) : s[k].toNat = (bt s).getD k 0:=by
 have h2 : k < s.data.toList.length:=by simpa using h
 rw [bt,List.getD_eq_getElem?_getD,List.getElem?_map,List.getElem?_eq_getElem h2]
 rfl
theorem bt_list (s : ByteArray) (l : List UInt8) (h : s.toList = l) : bt s = l.map (·.toNat):=by rw [bt,← ByteArray.toList_eq,h]
theorem bt_list' (s : ByteArray) (c : UInt8) (h : bt s = [c.toNat]) : s.toList = [c]:=by
 rw [bt,← ByteArray.toList_eq] at h
 obtain ⟨d,h1,h2⟩:=List.map_eq_singleton_iff.1 h
 rw [h1,UInt8.toNat_inj.1 h2]
theorem bt_nil (s : ByteArray) : s.toList = [] ↔ bt s = []:=by rw [bt,← ByteArray.toList_eq]; simp
def digs (bs : List Nat) : Prop:=∀ k,k < bs.length → 48 ≤ bs.getD k 0 ∧ bs.getD k 0 ≤ 57
theorem isDecimal_good {s : ByteArray} (w : World) (hs : s.size ≤ 100000) (hg : digs (bt s)) (b : Bool) (hb : (b = true ∧ (bt s = [48] ∨ bt s ≠ [] ∧ (bt s).getD 0 0 ≠ 48)) ∨ (b = false ∧ (bt s = [] ∨ 1 < s.size ∧ (bt s).getD 0 0 = 48))) :
   Calls Tryz.prog 141 #[.string s] w fun e w'=>e = .returned (.bool b) ∧ w = w':=by
 have HG:=Lib.hid hg
 clear hg
 go_enter Tryz.func141,Tryz.ntmps141
 go_wp2
 go_loop [6] (fun i=>∃ k : Nat,k ≤ s.size ∧ i = .int .i64 k) (fun i=>s.size - (intOf i).toNat)
 case atStart=>exact ⟨0,Nat.zero_le _,rfl⟩
 case round =>
   obtain ⟨k,hk,rfl⟩:=hrel
   by_cases hlt : k < s.size
   · have hx:=bt_at s k hlt; have hxd:=HG.out k (by rw [ct]; exact hlt)
     obtain ⟨x,hxe⟩ : ∃ x,x = (bt s).getD k 0:=⟨_,rfl⟩
     rw [← hxe] at hx hxd; obtain ⟨h2,h3⟩:=hxd; clear hxe; have HBB:=Lib.hid hb; clear hb
     go_wp2
     go_round
     case rel=>exact ⟨k + 1,by omega,by go_num⟩
     case measure=>first | (simp [intOf]; done) | (simp [intOf]; omega)
   · have HBB:=Lib.hid hb; clear hb
     by_cases hz : 0 < s.size
     · have h0:=bt_at s 0 hz; have hne : ¬ bt s = []:=fun e=>by have:=ct s; rw [e] at this; simp at this; omega
       have HZ:=Lib.hid h0; have HNE:=Lib.hid hne; clear h0 hne
       go_wp2
       all_goals go_ret
       all_goals refine ⟨ret_bool ?_,rfl⟩
       · have e1:=bt_list s _ (by assumption : s.toList = [48]); rcases HBB.out with ⟨e2,_⟩ | ⟨_,e2 | e2⟩
         · exact e2.symm
         · exact absurd e2 HNE.out
         · have:=ct s; rw [e1] at this; simp at this; omega
       · exact absurd ((bt_nil s).1 (by assumption)) HNE.out
       · have e1 : ¬ s.toList = [48]:=by assumption
         have e2 : ¬ s.toList = []:=by assumption
         have e3 : (s.toList == [48]) = false:=by simpa using e1
         have e4 : s.toList.isEmpty = false:=by simpa using e2
         rw [e3,e4]; simp only [Bool.not_false,Bool.true_and,Bool.false_or]; have hz0:=HZ.out; rcases HBB.out with ⟨e5,e6 | e6⟩ | ⟨e5,e6 | e6⟩
         · exact absurd (bt_list' s 48 e6) e1
         · rw [e5,bne_iff_ne]; omega
         · exact absurd e6 HNE.out
         · rw [e5]; simp; omega
     · have hne : bt s = []:=List.eq_nil_of_length_eq_zero (by rw [ct]; omega); have hl : s.toList = []:=(bt_nil s).2 hne; have HNE:=Lib.hid hne; have hl1 : (s.toList == [48]) = false:=by rw [hl]; rfl
       have hl2 : s.toList.isEmpty = true:=by rw [hl]; rfl
       clear hne
       go_wp2
       all_goals go_ret
       all_goals refine ⟨ret_bool ?_,rfl⟩
       all_goals
         rcases HBB.out with ⟨e5,e6 | e6⟩ | ⟨e5,_⟩
         · rw [HNE.out] at e6; cases e6
         · exact absurd HNE.out e6.1
         · rw [e5]
def dg (s : ByteArray) : List Nat:=((bt s).map (· - 48)).reverse
theorem dg_length (s : ByteArray) : (dg s).length = s.size:=by simp [dg,ct]
theorem dg_at (s : ByteArray) (k : Nat) (h : k < s.size) : (dg s).getD k 0 = (bt s).getD (s.size - 1 - k) 0 - 48:=by
 have h1 : k < ((bt s).map (· - 48)).reverse.length:=by simp [ct]; exact h
 rw [dg,List.getD_eq_getElem?_getD,List.getElem?_eq_getElem h1,List.getD_eq_getElem?_getD,List.getElem?_eq_getElem (by rw [ct]; omega)]
 simp [List.getElem_reverse,ct]
theorem dg_small {s : ByteArray} (h : digs (bt s)) : small 10 (dg s):=by
 intro d hd
 rw [dg,List.mem_reverse] at hd
 obtain ⟨x,hx,rfl⟩:=List.mem_map.1 hd
 obtain ⟨k,hk,rfl⟩:=List.getElem_of_mem hx
 have:=h k hk
 rw [List.getD_eq_getElem?_getD,List.getElem?_eq_getElem hk] at this
 simp only [Option.getD_some] at this
 omega
theorem bt_extract (s : ByteArray) (a b : Nat) : bt (s.extract a b) = ((bt s).drop a).take (b - a):=by
 simp [bt,List.map_take,List.map_drop,List.take_drop,Array.toList_extract]
theorem row_bytes (w : World) (s : ByteArray) (cap : Nat) : Row (w.drew.alloc (.cells (bytesRow s cap) 5 ((bytesRow s cap).size,(bytesRow s cap).size + 1))) (some ⟨w.heap.size,0,none⟩) (u8s (bt s)):=by
 intro j v hv
 refine ⟨_,rfl,?_⟩
 have hj : j < s.data.size:=by
   rcases Nat.lt_or_ge j s.data.size with h | h
   · exact h
   · rw [List.getElem?_eq_none (by rw [av,ct]; exact h)] at hv; cases hv
 have h1 : (w.drew.alloc (.cells (bytesRow s cap) 5 ((bytesRow s cap).size,(bytesRow s cap).size + 1))).cell? ⟨w.heap.size,j,none⟩ = (bytesRow s cap)[j]?:=by
   have : (w.drew.alloc (.cells (bytesRow s cap) 5 ((bytesRow s cap).size,(bytesRow s cap).size + 1))).heap[w.heap.size]? = some (.cells (bytesRow s cap) 5 ((bytesRow s cap).size,(bytesRow s cap).size + 1)):=heap_alloc_new w.drew _; unfold World.cell?; rw [this]; rfl
 rw [Lib.add_plain,Nat.zero_add,h1,bytesRow_at s cap j hj,← hv]
 have h2 : j < (u8s (bt s)).length:=by rw [av,ct]; exact hj
 rw [List.getElem?_eq_getElem h2]
 simp [u8s,bt]
theorem read_any {s : ByteArray} (w : World) (hs : s.size ≤ 100000) (hg : digs (bt s)) :
   Calls Tryz.prog 142 #[.string s] w (RetNat w (dval (dg s))):=by
 obtain ⟨i0,hi,hz0,hz1,hz2⟩:=info_parts dw
 obtain ⟨B,hB⟩ : ∃ B,B = w.heap.size:=⟨_,rfl⟩
 have HB:=Lib.hid hB
 clear hB
 have hd:=dg_small hg
 have hdl:=dg_length s
 have HDL:=Lib.hid hdl
 have HG:=Lib.hid hg
 clear hg hdl
 go_enter Tryz.func142,Tryz.ntmps142
 go_wp2
 go_loopw [3,4] (fun v i wr=>∃ j : Nat,(j = 0 ∨ 9 * (j - 1) < s.size) ∧ i = .int .i64 ((s.size : Int) - 9 * j) ∧ Own wr B 88 v (u32s (chunks (dg s) j)) ∧ Below w.heap.size w wr) (fun _ i _=>(intOf i + 9).toNat)
 case atStart=>exact ⟨0,.inl rfl,int_eq (by omega),Own.nil _ _ _,Below.refl _ _⟩
 case round =>
   obtain ⟨j,hj,rfl,hown,hb⟩:=hrel
   by_cases hlt : 9 * j < s.size
   · obtain ⟨e,he⟩ : ∃ e : Nat,e = s.size - 9 * j:=⟨_,rfl⟩
     have hei : (s.size : Int) - 9 * (j : Int) = (e : Int):=by omega
     rw [hei]
     obtain ⟨lo,hlo⟩ : ∃ lo : Nat,lo = e - 9:=⟨_,rfl⟩
     have hmax : max (0 : Int) ((e : Int) - 9) = (lo : Int):=by omega
     have he1 : 0 < e:=by omega
     have he2 : e ≤ s.size:=by omega
     have hlo1 : lo < e:=by omega
     have hlo2 : e ≤ lo + 9:=by omega
     have hI1 : (e : Int) ≤ (s.size : Int):=by omega
     have hI2 : (lo : Int) ≤ (e : Int):=by omega
     have hI0 : (0 : Int) ≤ (lo : Int):=by omega
     obtain ⟨m,hm⟩ : ∃ m : Nat,m = e - lo:=⟨_,rfl⟩
     have hm9 : m ≤ 9:=by omega
     have hme1 : lo + m ≤ e:=by omega
     have hme2 : e ≤ lo + m:=by omega
     obtain ⟨pc,hpc⟩ : ∃ pc,s.extract lo e = pc:=⟨_,rfl⟩
     have hpm : pc.size = m:=by rw [← hpc,ByteArray.size_extract]; omega
     have hrowc:=row_bytes wr pc (grownCap wr pc.size 0 5); have hbt : bt pc = ((bt s).drop lo).take m:=by rw [← hpc,bt_extract,hm]
     rw [hbt] at hrowc; have hcv:=fun (W : World)=>run_bytes_of_string (P:=Tryz.prog) W 9 123 5 pc Tryz.underlying9 Tryz.underlying123 Tryz.underlying5; rw [hpm] at hrowc; rw [hpm] at hcv; have HE:=Lib.hid he; have HLO:=Lib.hid hlo; have HM:=Lib.hid hm; have HRC:=Lib.hid hrowc; clear he hlo hei hm hbt hpm hrowc
     go_wp2_with fail
     obtain ⟨cap,hcap⟩ : ∃ cap,cap = grownCap wr m 0 5:=⟨_,rfl⟩
     rw [← hcap] at HRC ⊢
     obtain ⟨W2,hW2⟩ : ∃ W2,W2 = (wr.alloc (Obj.cells (bytesRow pc cap) 5 ((bytesRow pc cap).size,(bytesRow pc cap).size + 1))).drew:=⟨_,rfl⟩
     have hR2 : Row W2 (some ⟨wr.heap.size,0,none⟩) (u8s (((bt s).drop lo).take m)):=by rw [hW2]; exact HRC.out
     have hb2 : Below w.heap.size w W2:=by rw [hW2]; exact (hb.alloc hb.size _).drew
     have hown2 : Own W2 B 88 u3 (u32s (chunks (dg s) j)):=by rw [hW2]; exact hown.below (((Below.refl _ _).alloc (Nat.le_refl _) _).drew)
     rw [← hW2]; have hml : (((bt s).drop lo).take m).length = m:=by rw [List.length_take,List.length_drop,ct]; have:=HM.out; omega
     have HML:=Lib.hid hml; clear hcap hW2 hb hown HRC hcv hpc hml
     go_loop [5,22] (fun nv kv=>∃ k : Nat,k ≤ m ∧ kv = .int .i64 (k : Int) ∧ nv = .int .u32 ((dval (((dg s).drop (s.size - lo - k)).take k) : Nat) : Int)) (fun _ kv=>m - (intOf kv).toNat)
     case atStart=>exact ⟨0,Nat.zero_le _,rfl,by rw [List.take_zero]; rfl⟩
     case round =>
       obtain ⟨k,hk,rfl,rfl⟩:=hrel
       obtain ⟨nn,hnn⟩ : ∃ nn,nn = dval (((dg s).drop (s.size - lo - k)).take k):=⟨_,rfl⟩
       rw [← hnn]
       have hnl : nn < 1000000000:=by
         have:=kb hd (p:=s.size - lo - k) (e:=s.size - lo) (by omega); rw [show s.size - lo - (s.size - lo - k) = k from by omega] at this; rw [hnn]; exact this
       have HNN:=Lib.hid hnn; clear hnn
       by_cases hkm : k < m
       · obtain ⟨ad,x,hA,hcx,hx,hxm⟩:=hR2.byte (k:=k) (by rw [HML.out]; exact hkm); obtain rfl : ad = ⟨wr.heap.size,0,none⟩:=by injection hA with hA; exact hA.symm
         have hxe : (bt s).getD (lo + k) 0 = x:=by
           rw [← hx.out,List.getD_eq_getElem?_getD,List.getD_eq_getElem?_getD,List.getElem?_take_of_lt hkm,List.getElem?_drop]
         have hxd:=HG.out (lo + k) (by rw [ct]; omega); rw [hxe] at hxd; obtain ⟨hx1,hx2⟩:=hxd; have hkc : (k : Int) < m:=by omega
         have hst:=piece_step (ds:=dg s) (p:=s.size - lo - (k + 1)) (e:=s.size - lo) (by omega) (by rw [HDL.out]; omega); rw [show s.size - lo - (s.size - lo - (k + 1)) = k + 1 from by omega,show s.size - lo - (k + 1) + 1 = s.size - lo - k from by omega,show s.size - lo - (s.size - lo - k) = k from by omega,← HNN.out,dg_at s _ (by omega),show s.size - 1 - (s.size - lo - (k + 1)) = lo + k from by omega,hxe] at hst; have hpl:=kb hd (p:=s.size - lo - (k + 1)) (e:=s.size - lo) (by omega); rw [show s.size - lo - (s.size - lo - (k + 1)) = k + 1 from by omega,hst] at hpl; have HST:=Lib.hid hst; have hcx' : W2.cell? ⟨wr.heap.size,k,none⟩ = some (.int .u8 (x : Int)):=by rw [Lib.add_plain,Nat.zero_add] at hcx; exact hcx
         clear hst hxm hxe hcx hA
         go_wp2
         go_round
         case rel=>exact ⟨k + 1,by omega,by go_num,int_eq (by rw [HST.out]; omega)⟩
         case measure=>first | (simp [intOf]; done) | (simp [intOf]; omega)
       · have hkm' : k = m:=by omega
         have HKM:=Lib.hid hkm'; clear hkm'; have hsz:=hb2.size
         go_wp2_with (at_builtin; refine wpList_append_own _ rfl _ _ 132 rfl B 88 i0 (.int .u32 0) 1 4 Tryz.underlying132 hi hz0 hz1 hz2 rfl (by decide) _ _ _ rfl (hown2.alloc _) ⟨W2.heap.size,0,none⟩ 1 1 [.int .u32 (nn : Int)] rfl rfl (one_news rfl) ch (by rw [am,dh]; unfold maxLen; omega) (by rw [am,dh]; omega) (by rw [HB.out]; simp; omega) ?_)
         intro v' w2 hown' hgrow' _; have ho3:=de hown'; have hb3:=dc hb2 hown2 HB hgrow'; clear hown' hgrow' hown2 hb2 hR2
         go_wp2
         go_roundw
         case rel=>exact ⟨j + 1,.inr (by omega),int_eq (by have:=HE.out; omega),by
           rw [gi]
           have e1 : chunk (dg s) j = nn:=by
             have he:=HE.out; have hlo:=HLO.out; have hmm:=HM.out; rw [HNN.out,HKM.out,chunk,show s.size - lo - m = 9 * j from by omega]; rcases Nat.lt_or_ge 9 e with h | h
             · rw [show m = 9 from by omega]
             · rw [List.take_of_length_le (by rw [List.length_drop,HDL.out]; omega),List.take_of_length_le (by rw [List.length_drop,HDL.out]; omega)]
           rw [e1]; exact ho3,hb3⟩
         case measure=>first | (simp [intOf]; done) | (simp [intOf]; omega)
   · obtain ⟨A3,c3,rfl,_⟩:=hown.slice32; have hcl : (chunks (dg s) j).length ≤ 1000000:=by rw [dh]; omega
     go_wp2_with fail
     refine (stripped_any hown hcl).mono ?_; rintro e w3 ⟨⟨v,rfl,hv⟩,rfl⟩
     go_wp2
     go_ret
     exact ⟨v,rfl,⟨_,cz (chunks_small hd j),by rw [dt,chunks_all (by rw [HDL.out]; omega)],HB.out ▸ hv⟩,hb⟩
def isDec (bs : List Nat) : Prop:=digs bs ∧ (bs = [48] ∨ bs ≠ [] ∧ bs.getD 0 0 ≠ 48)
theorem of_yes {s : ByteArray} (w : World) (hs : s.size ≤ 100000) (hn : isDec (bt s)) :
   Calls Tryz.prog 113 #[.string s] w fun e w'=>∃ v,e = .returned (.tuple #[v,.bool true]) ∧ IsNat w' w.heap.size v (dval (dg s)) ∧ Below w.heap.size w w':=by
 have hdec:=isDecimal_good w hs hn.1 true (.inl ⟨rfl,hn.2⟩)
 have hread:=read_any w hs hn.1
 have HD:=Lib.hid hdec
 have HR:=Lib.hid hread
 clear hdec hn hread
 go_enter Tryz.func113,Tryz.ntmps113
 go_wp2_with (first
   | (go_at_call 141; refine HD.out.mono ?_; rintro e w' ⟨rfl,rfl⟩)
   | (go_at_call 142; refine HR.out.mono ?_; rintro e w2 ⟨v,rfl,hv,hb⟩))
 go_returns
 exact ⟨_,rfl,hv,hb⟩
end Go.Proofs.YtifgcjpgelbelaaGreatDoor
namespace Go.Proofs.YtifgcjpgelbelaaGreatDoor
open Go.RowKit Go.Lib
theorem go {r : Nat} (h : r < 10) : (UInt8.ofNat (48 + r)).toNat = 48 + r:=by
 rw [UInt8.toNat_ofNat']; omega
theorem decDigits_ne (n : Nat) : 0 < (decDigits n).length:=by
 by_cases h : n < 10
 · rw [bn h]; simp
 · rw [da h]; simp
def dgl (l : List UInt8) : List Nat:=((l.map (·.toNat)).map (· - 48)).reverse
theorem dgl_snoc (l : List UInt8) (b : UInt8) : dgl (l ++ [b]) = (b.toNat - 48) :: dgl l:=by simp [dgl]
theorem dval_dgl : ∀ n : Nat,dval (dgl (decDigits n)) = n:=by
 intro n
 induction n using Nat.strongRecOn with
 | _ n ih =>
   by_cases h : n < 10
   · rw [bn h]; have:=dgl_snoc [] (UInt8.ofNat (48 + n)); rw [List.nil_append] at this; rw [this,go h]; simp [dval,dgl]
   · rw [da h,dgl_snoc,dval,ih (n / 10) (by omega),go (Nat.mod_lt _ (by decide))]; have:=Nat.mod_add_div n 10; omega
theorem decDigits_digs (n : Nat) : ∀ b ∈ decDigits n,48 ≤ b.toNat ∧ b.toNat ≤ 57:=by
 induction n using Nat.strongRecOn with
 | _ n ih =>
   intro b hb
   by_cases h : n < 10
   · rw [bn h] at hb; rw [List.mem_singleton.1 hb,go h]; omega
   · rw [da h] at hb; rcases List.mem_append.1 hb with h1 | h1
     · exact ih (n / 10) (by omega) b h1
     · rw [List.mem_singleton.1 h1,go (Nat.mod_lt _ (by decide))]; have:=Nat.mod_lt n (show 0 < 10 by decide); omega
theorem decDigits_head (n : Nat) (hn : 0 < n) : ((decDigits n).map (·.toNat)).getD 0 0 ≠ 48:=by
 induction n using Nat.strongRecOn with
 | _ n ih =>
   by_cases h : n < 10
   · rw [bn h]; have:=go h; simp only [List.map_cons,List.getD_cons_zero]; omega
   · have h1:=ih (n / 10) (by omega) (by omega); have h2:=decDigits_ne (n / 10); rw [da h,List.map_append]; rw [List.getD_eq_getElem?_getD,List.getElem?_append_left (by simpa using h2),← List.getD_eq_getElem?_getD]; exact h1
def dtext (n : Nat) : ByteArray:=⟨(decDigits n).toArray⟩
theorem kc (n : Nat) : bt (dtext n) = (decDigits n).map (·.toNat):=by simp [bt,dtext]
theorem jl (n : Nat) : (dtext n).size = (decDigits n).length:=by rw [← ct,kc,List.length_map]
theorem dtext_isDec (n : Nat) : isDec (bt (dtext n)):=by
 rw [kc]
 refine ⟨fun k hk=>?_,?_⟩
 · rw [List.length_map] at hk; have:=decDigits_digs n _ (List.getElem_mem hk); rw [List.getD_eq_getElem?_getD,List.getElem?_map,List.getElem?_eq_getElem hk]; exact this
 · rcases Nat.eq_zero_or_pos n with rfl | hn
   · left; rw [bn (by decide)]; decide
   · right; exact ⟨fun e=>by have:=decDigits_ne n; rw [List.map_eq_nil_iff] at e; rw [e] at this; simp at this,decDigits_head n hn⟩
theorem dtext_val (n : Nat) : dval (dg (dtext n)) = n:=by
 rw [dg,kc]
 exact dval_dgl n
end Go.Proofs.YtifgcjpgelbelaaGreatDoor
namespace Go.Proofs.YtifgcjpgelbelaaGreatDoor
open Go.RowKit
theorem set_mid (P out rest T : List Nat) (d e : Nat) : (P ++ (out ++ d :: rest) ++ T).set (P.length + out.length) e = P ++ (out ++ e :: rest) ++ T:=by
 rw [List.append_assoc,List.set_append_right _ _ (by omega),Nat.add_sub_cancel_left,List.append_assoc,List.set_append_right _ _ (Nat.le_refl _),Nat.sub_self]
 simp
theorem own_mid {w : World} {B g N c : Nat} {P part T : List Nat} (h : Own w B 88 (.slice (some ⟨g,0,none⟩) N c) (u32s (P ++ part ++ T))) : Row w (some ⟨g,P.length,none⟩) (u32s part):=by
 intro j v hv
 have hj : j < part.length:=by
   have:=(List.getElem?_eq_some_iff.1 hv).1
   rwa [am] at this
 obtain ⟨h1,_⟩:=own_cell h (k:=P.length + j) (by rw [am]; simp; omega)
 refine ⟨_,rfl,?_⟩
 have e : (⟨g,P.length,none⟩ : Addr).add j = ⟨g,P.length + j,none⟩:=by simp [Addr.add]
 rw [e,h1,← hv,← List.getElem?_eq_getElem]
 simp only [u32s,List.map_append,List.getElem?_map]
 rw [List.append_assoc,List.getElem?_append_right (by simp),List.getElem?_append_left (by simpa using hj)]
 simp
theorem own_mid_set {w : World} {B g N c : Nat} {P out rest T : List Nat} {d : Nat} (h : Own w B 88 (.slice (some ⟨g,0,none⟩) N c) (u32s (P ++ (out ++ d :: rest) ++ T))) (e : Nat) :
   Own (w.setCell ⟨g,P.length + out.length,none⟩ (.int .u32 (e : Int))) B 88 (.slice (some ⟨g,0,none⟩) N c) (u32s (P ++ (out ++ [e] ++ rest) ++ T)):=by
 have:=fp h (P.length + out.length) e
 rw [set_mid] at this
 simpa using this
theorem fi {part : List Nat} {k : Nat} (h : k < part.length) : part.drop k = part.getD k 0 :: part.drop (k + 1):=by
 rw [List.drop_eq_getElem_cons h]
 congr 1
 rw [List.getD_eq_getElem?_getD,List.getElem?_eq_getElem h]; rfl
theorem give_any {w0 w : World} {B g N c cap c2 : Nat} {A2 : Option Addr} {P part T ys : List Nat} (ho : Own w B 88 (.slice (some ⟨g, 0, none⟩) N c) (u32s (P ++ part ++ T))) (hpl : P.length + part.length ≤ 1000000) (hr2 : Row w0 A2 (u32s ys)) (hb0 : Below w0.heap.size w0 w) (hB : w0.heap.size ≤ B) (hBg : B ≤ g)
   (hsp : small 1000000000 part) (hsy : small 1000000000 ys) (hyl : ys.length ≤ part.length) :
   Calls Tryz.prog 195 #[.slice (some ⟨g, P.length, none⟩) part.length cap, .slice A2 ys.length c2] w fun e w' => (∃ v, e = .returned v) ∧ ∃ (part' : List Nat) (cy : Nat), part'.length = part.length ∧ small 1000000000 part' ∧ cy ≤ 1 ∧ val part' + 1000000000 ^ part.length * cy = val part + val ys ∧
     Own w' B 88 (.slice (some ⟨g,0,none⟩) N c) (u32s (P ++ part' ++ T)) ∧ Below B w w' ∧ Hid (∀ i,i ≠ g → w'.heap[i]? = w.heap[i]?):=by
 obtain ⟨n,hn⟩ : ∃ n : Nat,n = part.length:=⟨_,rfl⟩
 obtain ⟨m,hm⟩ : ∃ m : Nat,m = ys.length:=⟨_,rfl⟩
 obtain ⟨p,hp⟩ : ∃ p : Nat,p = P.length:=⟨_,rfl⟩
 have hpn : p + n ≤ 1000000:=by omega
 have hmn : m ≤ n:=by omega
 rw [← hn,← hm,← hp]
 have HN:=Lib.hid hn
 have HM:=Lib.hid hm
 have HP:=Lib.hid hp
 clear hn hm hp hpl hyl
 have hsp':=small_mono hsp (show 1000000000 ≤ 4294967296 by decide)
 have hsy':=small_mono hsy (show 1000000000 ≤ 4294967296 by decide)
 go_enter Tryz.func195,Tryz.ntmps195
 go_wp2
 go_loopw [4, 8] (fun cv iv wr => ∃ (k cy : Nat) (out : List Nat), k ≤ n ∧ iv = .int .i64 (k : Int) ∧ cv = .int .u64 (cy : Int) ∧ cy ≤ 1 ∧ Own wr B 88 (.slice (some ⟨g, 0, none⟩) N c) (u32s (P ++ (out ++ part.drop k) ++ T)) ∧ Hid (out.length = k ∧ small 1000000000 out ∧ val out + 1000000000 ^ k * cy = val (part.take k) + val (ys.take k)) ∧ Below B w wr ∧ Hid (∀ i, i ≠ g → wr.heap[i]? = w.heap[i]?))
   (fun _ iv _=>n - (intOf iv).toNat)
 case atStart=>exact ⟨0,0,[],Nat.zero_le _,rfl,rfl,by omega,ho,⟨rfl,bl _,by simp [val]⟩,Below.refl _ _,fun _ _=>rfl⟩
 case round =>
   obtain ⟨k,cy,out,hk,rfl,rfl,hcy,hown,HO,hb,HFR⟩:=hrel
   by_cases hlt : k < n
   · have hkp : k < part.length:=by rw [← HN.out]; exact hlt
     rw [fi hkp] at hown; have hmid:=own_mid hown
     have hcur : small 4294967296 (out ++ part.getD k 0 :: part.drop (k + 1)):=by
       intro d hd; rcases List.mem_append.1 hd with h | h
       · have:=HO.out.2.1 d h; omega
       · rw [← fi hkp] at h; exact hsp' d (List.mem_of_mem_drop h)
     have hcl : (out ++ part.getD k 0 :: part.drop (k + 1)).length = n:=by
       rw [← fi hkp,List.length_append,List.length_drop,HO.out.1,← HN.out]; omega
     have hgd : (out ++ part.getD k 0 :: part.drop (k + 1)).getD k 0 = part.getD k 0:=by
       rw [List.getD_eq_getElem?_getD,List.getElem?_append_right (by rw [HO.out.1]; exact Nat.le_refl _),HO.out.1,Nat.sub_self]; rfl
     obtain ⟨d1,hd1⟩ : ∃ d,d = part.getD k 0:=⟨_,rfl⟩
     obtain ⟨d2,hd2⟩ : ∃ d,d = ys.getD k 0:=⟨_,rfl⟩
     have b1 : d1 < 1000000000:=by rw [hd1]; exact bh hsp (by decide) k
     have b2 : d2 < 1000000000:=by rw [hd2]; exact bh hsy (by decide) k
     have q1 : Calls Tryz.prog 175 #[.slice (some ⟨g,p,none⟩) n cap,.int .i64 k] wr (fun e w'=>e = .returned (.int .u64 (d1 : Int)) ∧ wr = w'):=by
       have:=at_any (c:=cap) hmid hcur k (by omega); rw [Int.toNat_natCast,hgd,hcl,← hd1,← HP.out] at this; exact this
     have q2 : Calls Tryz.prog 175 #[.slice A2 m c2,.int .i64 k] wr (fun e w'=>e = .returned (.int .u64 (d2 : Int)) ∧ wr = w'):=by
       have:=at_any (c:=c2) (hr2.below (hb0.trans (hb.mono hB))) hsy' k (by omega); rw [Int.toNat_natCast,← hd2,← HM.out] at this; exact this
     have hst:=sum_step (xs:=part) (ys:=ys) HO.out.1 HO.out.2.2; rw [← hd1,← hd2] at hst
     have hcf : ∃ v,wr.cell? ⟨g,p + k,none⟩ = some v ∧ wr.frozen? ⟨g,p + k,none⟩ = false:=⟨_,own_cell hown (k:=p + k) (by
       have h2 : P.length + n ≤ (P ++ (out ++ part.getD k 0 :: part.drop (k + 1)) ++ T).length:=by rw [List.length_append,List.length_append,hcl]; omega
       rw [am,HP.out]; omega)⟩
     obtain ⟨vold,hqc,hqf⟩:=hcf; have eA : (⟨g,p,none⟩ : Addr).add k = ⟨g,p + k,none⟩:=by simp [Addr.add]
     have Q1:=Lib.hid q1; have Q2:=Lib.hid q2; have HST:=Lib.hid hst; have hset:=own_mid_set hown ((cy + (d1 + d2)) % 1000000000); rw [HO.out.1,← HP.out] at hset; have HSET:=Lib.hid hset; clear q1 q2 hst hset hd1 hd2 hmid hcur hcl hgd hown; clear hb0 hr2 ho hsp hsy hsp' hsy' hkp
     go_wp2_with fail
     refine Q1.out.mono ?_; rintro e w' ⟨rfl,rfl⟩
     go_wp2_with fail
     refine Q2.out.mono ?_; rintro e w' ⟨rfl,rfl⟩; clear Q1 Q2
     go_wp2
     go_roundw
     case rel=>exact ⟨k + 1,(cy + (d1 + d2)) / 1000000000,out ++ [(cy + (d1 + d2)) % 1000000000],by omega,by go_num,by go_num,by omega,by
       have:=HSET.out; rw [show (((cy + (d1 + d2)) % 1000000000 : Nat) : Int) = ((cy : Int) + ((d1 : Int) + (d2 : Int))) % 1000000000 from by omega] at this
       exact this,⟨by rw [List.length_append,HO.out.1]; rfl,small_snoc HO.out.2.1 (Nat.mod_lt _ (by decide)),HST.out⟩,hb.setCell hBg _,fun i hi=>(Below.heap_setCell _ _ _ _ hi).trans (HFR.out i hi)⟩
     case measure=>first | (simp [intOf]; done) | (simp [intOf]; omega)
   · have hkn : k = n:=by omega
     have HK:=Lib.hid hkn; clear hkn
     have ho2 : Own wr B 88 (.slice (some ⟨g,0,none⟩) N c) (u32s (P ++ out ++ T)):=by
       rw [HK.out,HN.out,List.drop_length,List.append_nil] at hown; exact hown
     have hv:=HO.out.2.2; rw [HK.out,HN.out,List.take_length,List.take_of_length_le (by rw [← HM.out,← HN.out]; exact hmn),← HN.out] at hv; have HV:=Lib.hid hv; clear hv hown
     go_wp2
     go_returns
     exact ⟨⟨_,rfl⟩,out,cy,by rw [HO.out.1,HK.out],HO.out.2.1,hcy,HV.out,ho2,hb,HFR⟩
theorem take_step {out xs ys : List Nat} {k bo ca x z dg : Nat} (hlen : out.length = k) (hx : x + (ca + z) % 1000000000 + bo = xs.getD k 0 + 1000000000) (hlt : x < 2000000000) (hz : z = ys.getD k 0 * dg) (hval : val out + val (ys.take k) * dg = val (xs.take k) + 1000000000 ^ k * (bo + ca)) (hle : 1000000000 ^ k * ca ≤ val (ys.take k) * dg) :
   val (out ++ [x % 1000000000]) + val (ys.take (k + 1)) * dg = val (xs.take (k + 1)) + 1000000000 ^ (k + 1) * (1 - x / 1000000000 + (ca + z) / 1000000000) ∧ 1000000000 ^ (k + 1) * ((ca + z) / 1000000000) ≤ val (ys.take (k + 1)) * dg:=by
 rw [dq,fd,fd,hlen,Nat.pow_succ,Nat.mul_assoc,Nat.mul_assoc,Nat.add_mul,Nat.mul_assoc (1000000000 ^ k) (ys.getD k 0) dg,← hz]
 generalize 1000000000 ^ k = K at *
 have h1 : x % 1000000000 + z + bo + ca = xs.getD k 0 + 1000000000 * (1 - x / 1000000000 + (ca + z) / 1000000000):=by omega
 have h2 : K * (x % 1000000000 + z + bo + ca) = K * (xs.getD k 0 + 1000000000 * (1 - x / 1000000000 + (ca + z) / 1000000000)):=by rw [h1]
 have h3 : K * (1000000000 * ((ca + z) / 1000000000)) ≤ K * (ca + z):=Nat.mul_le_mul_left _ (by omega)
 rw [Nat.mul_add,Nat.mul_add,Nat.mul_add,Nat.mul_add K (xs.getD k 0)] at h2
 rw [Nat.mul_add] at hval h3
 omega
theorem take_any {w0 w : World} {B g N c cap c2 dg : Nat} {A2 : Option Addr} {P part T ys : List Nat} (ho : Own w B 88 (.slice (some ⟨g, 0, none⟩) N c) (u32s (P ++ part ++ T))) (hpl : P.length + part.length ≤ 1000000) (hr2 : Row w0 A2 (u32s ys)) (hb0 : Below w0.heap.size w0 w) (hB : w0.heap.size ≤ B) (hBg : B ≤ g)
   (hsp : small 1000000000 part) (hsy : small 1000000000 ys) (hyl : ys.length ≤ part.length) (hdg : dg ≤ 1000000000) :
   Calls Tryz.prog 194 #[.slice (some ⟨g, P.length, none⟩) part.length cap, .slice A2 ys.length c2, .int .u64 (dg : Int)] w fun e w' => ∃ (part' : List Nat) (bo ca : Nat), e = .returned (.bool (decide (0 < bo))) ∧ part'.length = part.length ∧ small 1000000000 part' ∧ bo ≤ 1 ∧ (val part' + val ys * dg = val part + 1000000000 ^ part.length * (bo + ca) ∧ 1000000000 ^ part.length * ca ≤ val ys * dg) ∧
     Own w' B 88 (.slice (some ⟨g,0,none⟩) N c) (u32s (P ++ part' ++ T)) ∧ Below B w w' ∧ Hid (∀ i,i ≠ g → w'.heap[i]? = w.heap[i]?):=by
 obtain ⟨n,hn⟩ : ∃ n : Nat,n = part.length:=⟨_,rfl⟩
 obtain ⟨m,hm⟩ : ∃ m : Nat,m = ys.length:=⟨_,rfl⟩
 obtain ⟨p,hp⟩ : ∃ p : Nat,p = P.length:=⟨_,rfl⟩
 have hpn : p + n ≤ 1000000:=by omega
 have hmn : m ≤ n:=by omega
 rw [← hn,← hm,← hp]
 have HN:=Lib.hid hn
 have HM:=Lib.hid hm
 have HP:=Lib.hid hp
 clear hn hm hp hpl hyl
 have hsp':=small_mono hsp (show 1000000000 ≤ 4294967296 by decide)
 have hsy':=small_mono hsy (show 1000000000 ≤ 4294967296 by decide)
 go_enter Tryz.func194,Tryz.ntmps194
 go_wp2
 go_loopw [7, 8, 13] (fun cv bv iv wr => ∃ (k bo ca : Nat) (out : List Nat), k ≤ n ∧ iv = .int .i64 (k : Int) ∧ cv = .int .u64 (ca : Int) ∧ bv = .int .u64 (bo : Int) ∧ bo ≤ 1 ∧ ca ≤ 1000000000 ∧ Own wr B 88 (.slice (some ⟨g, 0, none⟩) N c) (u32s (P ++ (out ++ part.drop k) ++ T)) ∧ Hid (out.length = k ∧ small 1000000000 out ∧ val out + val (ys.take k) * dg = val (part.take k) + 1000000000 ^ k * (bo + ca) ∧ 1000000000 ^ k * ca ≤ val (ys.take k) * dg) ∧ Below B w wr ∧ Hid (∀ i, i ≠ g → wr.heap[i]? = w.heap[i]?))
   (fun _ _ iv _=>n - (intOf iv).toNat)
 case atStart=>exact ⟨0,0,0,[],Nat.zero_le _,rfl,rfl,rfl,by omega,by omega,ho,⟨rfl,bl _,by simp [val],by simp⟩,Below.refl _ _,fun _ _=>rfl⟩
 case round =>
   obtain ⟨k,bo,ca,out,hk,rfl,rfl,rfl,hbo,hca,hown,HO,hb,HFR⟩:=hrel
   by_cases hlt : k < n
   · have hkp : k < part.length:=by rw [← HN.out]; exact hlt
     rw [fi hkp] at hown; have hmid:=own_mid hown
     have hcur : small 4294967296 (out ++ part.getD k 0 :: part.drop (k + 1)):=by
       intro d hd; rcases List.mem_append.1 hd with h | h
       · have:=HO.out.2.1 d h; omega
       · rw [← fi hkp] at h; exact hsp' d (List.mem_of_mem_drop h)
     have hcl : (out ++ part.getD k 0 :: part.drop (k + 1)).length = n:=by
       rw [← fi hkp,List.length_append,List.length_drop,HO.out.1,← HN.out]; omega
     have hgd : (out ++ part.getD k 0 :: part.drop (k + 1)).getD k 0 = part.getD k 0:=by
       rw [List.getD_eq_getElem?_getD,List.getElem?_append_right (by rw [HO.out.1]; exact Nat.le_refl _),HO.out.1,Nat.sub_self]; rfl
     obtain ⟨d1,hd1⟩ : ∃ d,d = part.getD k 0:=⟨_,rfl⟩
     obtain ⟨d2,hd2⟩ : ∃ d,d = ys.getD k 0:=⟨_,rfl⟩
     have b1 : d1 < 1000000000:=by rw [hd1]; exact bh hsp (by decide) k
     have b2 : d2 < 1000000000:=by rw [hd2]; exact bh hsy (by decide) k
     have q1 : Calls Tryz.prog 175 #[.slice (some ⟨g,p,none⟩) n cap,.int .i64 k] wr (fun e w'=>e = .returned (.int .u64 (d1 : Int)) ∧ wr = w'):=by
       have:=at_any (c:=cap) hmid hcur k (by omega); rw [Int.toNat_natCast,hgd,hcl,← hd1,← HP.out] at this; exact this
     have q2 : Calls Tryz.prog 175 #[.slice A2 m c2,.int .i64 k] wr (fun e w'=>e = .returned (.int .u64 (d2 : Int)) ∧ wr = w'):=by
       have:=at_any (c:=c2) (hr2.below (hb0.trans (hb.mono hB))) hsy' k (by omega); rw [Int.toNat_natCast,← hd2,← HM.out] at this; exact this
     obtain ⟨z,hz⟩ : ∃ z,z = d2 * dg:=⟨_,rfl⟩
     have hzb : z ≤ 999999999000000000:=by rw [hz]; exact Nat.mul_le_mul (show d2 ≤ 999999999 by omega) hdg
     have hzi : (d2 : Int) * (dg : Int) = (z : Int):=by rw [hz]; simp
     obtain ⟨x,hxe⟩ : ∃ x : Nat,x = d1 + 1000000000 - (ca + z) % 1000000000 - bo:=⟨_,rfl⟩
     have hx1 : x + (ca + z) % 1000000000 + bo = d1 + 1000000000:=by omega
     have hx2 : x < 2000000000:=by omega
     have hst:=take_step (xs:=part) (ys:=ys) HO.out.1 (by rw [← hd1]; exact hx1) hx2 (by rw [← hd2]; exact hz) HO.out.2.2.1 HO.out.2.2.2; have hxi : (d1 : Int) + 1000000000 - ((ca : Int) + (z : Int)) % 1000000000 - (bo : Int) = (x : Int):=by omega
     have hcf : ∃ v,wr.cell? ⟨g,p + k,none⟩ = some v ∧ wr.frozen? ⟨g,p + k,none⟩ = false:=⟨_,own_cell hown (k:=p + k) (by
       have h2 : P.length + n ≤ (P ++ (out ++ part.getD k 0 :: part.drop (k + 1)) ++ T).length:=by rw [List.length_append,List.length_append,hcl]; omega
       rw [am,HP.out]; omega)⟩
     obtain ⟨vold,hqc,hqf⟩:=hcf; have eA : (⟨g,p,none⟩ : Addr).add k = ⟨g,p + k,none⟩:=by simp [Addr.add]
     have Q1:=Lib.hid q1; have Q2:=Lib.hid q2; have HST:=Lib.hid hst; have hset:=own_mid_set hown (x % 1000000000); rw [HO.out.1,← HP.out] at hset; have HSET:=Lib.hid hset; clear hz hxe q1 q2 hst hset hd1 hd2 hmid hcur hcl hgd hown; clear hb0 hr2 ho hsp hsy hsp' hsy' hkp
     go_wp2_with fail
     refine Q2.out.mono ?_; rintro e w' ⟨rfl,rfl⟩
     go_wp2_with fail
     refine Q1.out.mono ?_; rintro e w' ⟨rfl,rfl⟩; clear Q1 Q2
     go_wp2
     go_roundw
     case rel=>exact ⟨k + 1,1 - x / 1000000000,(ca + z) / 1000000000,out ++ [x % 1000000000],by omega,by go_num,by go_num,int_eq (by omega),by omega,by omega,by
       have:=HSET.out; rw [show ((x % 1000000000 : Nat) : Int) = (x : Int) % 1000000000 from by omega] at this
       exact this,⟨by rw [List.length_append,HO.out.1]; rfl,small_snoc HO.out.2.1 (Nat.mod_lt _ (by decide)),HST.out.1,HST.out.2⟩,hb.setCell hBg _,fun i hi=>(Below.heap_setCell _ _ _ _ hi).trans (HFR.out i hi)⟩
     case measure=>first | (simp [intOf]; done) | (simp [intOf]; omega)
   · have hkn : k = n:=by omega
     have HK:=Lib.hid hkn; clear hkn
     have ho2 : Own wr B 88 (.slice (some ⟨g,0,none⟩) N c) (u32s (P ++ out ++ T)):=by
       rw [HK.out,HN.out,List.drop_length,List.append_nil] at hown; exact hown
     have hv:=HO.out.2.2; rw [HK.out,HN.out,List.take_length,List.take_of_length_le (by rw [← HM.out,← HN.out]; exact hmn),← HN.out] at hv; have HV:=Lib.hid hv; clear hv hown
     go_wp2
     go_returns
     exact ⟨out,bo,ca,ret_bool (by simp),by rw [HO.out.1,HK.out],HO.out.2.1,hbo,HV.out,ho2,hb,HFR⟩
theorem val_take_drop (ds : List Nat) (k : Nat) (hk : k ≤ ds.length) : val (ds.drop k) = val ds / 1000000000 ^ k ∨ ¬ small 1000000000 ds:=by
 by_cases hs : small 1000000000 ds
 · left; have h1:=kj ds k hk; have h2:=val_lt (small_take hs k); rw [List.length_take,Nat.min_eq_left hk] at h2; rw [h1,Nat.add_comm,Nat.mul_add_div (Nat.pow_pos (by decide)),Nat.div_eq_of_lt h2,Nat.add_zero]
 · exact .inr hs
theorem val_high {ds : List Nat} (hs : small 1000000000 ds) (k : Nat) (hk : k ≤ ds.length) : val (ds.drop k) = val ds / 1000000000 ^ k:=(val_take_drop ds k hk).resolve_right (fun h=>h hs)
theorem val_drop2 (ds : List Nat) {n : Nat} (h : ds.length = n + 2) : val (ds.drop n) = ds.getD n 0 + 1000000000 * ds.getD (n + 1) 0:=by
 rw [dn ds n (by omega),dn ds (n + 1) (by omega),List.drop_of_length_le (by omega)]; simp [val]
theorem val_drop3 (ds : List Nat) {n : Nat} (h : ds.length = n + 3) : val (ds.drop n) = ds.getD n 0 + 1000000000 * (ds.getD (n + 1) 0 + 1000000000 * ds.getD (n + 2) 0):=by
 rw [dn ds n (by omega),dn ds (n + 1) (by omega),dn ds (n + 1 + 1) (by omega),List.drop_of_length_le (by omega)]; simp [val]
theorem add64_any (x y : Nat) (w : World) : (callFunc 204 #[.int .u64 (x : Int),.int .u64 (y : Int),.int .u64 0]).run Tryz.prog w = .ok (.value (.tuple #[.int .u64 (((x + y) % 18446744073709551616 : Nat) : Int),.int .u64 (((x + y) / 18446744073709551616 : Nat) : Int)])) w:=by
 have h:=run_add64 (P:=Tryz.prog) (x : Int) (y : Int) 0 (by omega) (by omega) (by omega) (by omega) w
 rw [run_callFunc_extern Tryz.func204 (by kernel_rfl) (by kernel_rfl) (by kernel_rfl) (e:=add64Entry) (by kernel_rfl),h]
 simp [Result.andThen]
def GuessRet (a b : Nat) (e : Ending) : Prop:=∃ dg : Nat,e = .returned (.int .u64 (dg : Int)) ∧ a / b ≤ dg ∧ dg ≤ a / b + 1 ∧ dg ≤ 1000000000
theorem guess_ret {a b : Nat} {x : Int} (dg : Nat) (hx : x = (dg : Int)) (h : a / b ≤ dg ∧ dg ≤ a / b + 1 ∧ dg ≤ 1000000000) : GuessRet a b (.returned (.int .u64 x)):=⟨dg,by rw [hx],h⟩
theorem guess_any {w : World} {A1 A2 : Option Addr} {c1 c2 : Nat} {ps ys : List Nat} (hr1 : Row w A1 (u32s ps)) (hr2 : Row w A2 (u32s ys)) (hsp : small 1000000000 ps) (hsy : small 1000000000 ys) (hl : ps.length = ys.length + 1) (h2 : 2 ≤ ys.length) (hl2 : ys.length ≤ 100000)
   (htop : ys.getD (ys.length - 1) 0 ≠ 0) (hlt : val ps < val ys * 1000000000) :
   Calls Tryz.prog 193 #[.slice A1 ps.length c1,.slice A2 ys.length c2] w fun e w'=>GuessRet (val ps) (val ys) e ∧ Drawn w w':=by
 obtain ⟨n,hn⟩ : ∃ n,ys.length = n + 2:=⟨ys.length - 2,by omega⟩
 have hpn : ps.length = n + 3:=by omega
 have hsp':=small_mono hsp (show 1000000000 ≤ 4294967296 by decide)
 have hsy':=small_mono hsy (show 1000000000 ≤ 4294967296 by decide)
 obtain ⟨p0,hp0⟩ : ∃ d,d = ps.getD n 0:=⟨_,rfl⟩
 obtain ⟨p1,hp1⟩ : ∃ d,d = ps.getD (n + 1) 0:=⟨_,rfl⟩
 obtain ⟨p2,hp2⟩ : ∃ d,d = ps.getD (n + 2) 0:=⟨_,rfl⟩
 obtain ⟨d0,hd0⟩ : ∃ d,d = ys.getD n 0:=⟨_,rfl⟩
 obtain ⟨d1,hd1⟩ : ∃ d,d = ys.getD (n + 1) 0:=⟨_,rfl⟩
 have bp0 : p0 < 1000000000:=by rw [hp0]; exact bh hsp (by decide) _
 have bp1 : p1 < 1000000000:=by rw [hp1]; exact bh hsp (by decide) _
 have bp2 : p2 < 1000000000:=by rw [hp2]; exact bh hsp (by decide) _
 have bd0 : d0 < 1000000000:=by rw [hd0]; exact bh hsy (by decide) _
 have bd1 : d1 < 1000000000:=by rw [hd1]; exact bh hsy (by decide) _
 have td1 : 1 ≤ d1:=by
   rw [hn,show n + 2 - 1 = n + 1 from by omega,← hd1] at htop; omega
 have vp:=val_drop3 ps hpn
 have vy:=val_drop2 ys hn
 rw [val_high hsp n (by omega),← hp0,← hp1,← hp2] at vp
 rw [val_high hsy n (by omega),← hd0,← hd1] at vy
 obtain ⟨P,hP⟩ : ∃ P,P = p0 + 1000000000 * (p1 + 1000000000 * p2):=⟨_,rfl⟩
 obtain ⟨D,hD⟩ : ∃ D,D = d0 + 1000000000 * d1:=⟨_,rfl⟩
 rw [← hP] at vp
 rw [← hD] at vy
 have hg:=guess_math (P:=val ps) (D:=val ys) (K:=1000000000 ^ n) (B:=1000000000) (p:=P) (d:=D) (Nat.pow_pos (by decide)) vp.symm vy.symm (by decide) (by omega) hlt
 have hPD : P < (D + 1) * 1000000000:=by
   have k1 : val ys < (D + 1) * 1000000000 ^ n:=by
     rw [← Nat.div_lt_iff_lt_mul (Nat.pow_pos (by decide)),vy]; exact Nat.lt_succ_self _
   rw [← vp,Nat.div_lt_iff_lt_mul (Nat.pow_pos (by decide))]; have k2 : val ys * 1000000000 ≤ (D + 1) * 1000000000 ^ n * 1000000000:=Nat.mul_le_mul_right _ (Nat.le_of_lt k1); rw [Nat.mul_right_comm] at k2; omega
 have hD1 : D < 1000000000000000000:=by omega
 have hD2 : 1000000000 ≤ D:=by omega
 obtain ⟨x,hx⟩ : ∃ x,x = p2 * 1000000000 + p1:=⟨_,rfl⟩
 obtain ⟨h1,hh1⟩ : ∃ h,h = x * 1000000000 / 18446744073709551616:=⟨_,rfl⟩
 obtain ⟨l1,hl1⟩ : ∃ h,h = x * 1000000000 % 18446744073709551616:=⟨_,rfl⟩
 obtain ⟨l2,hl2'⟩ : ∃ h,h = (l1 + p0) % 18446744073709551616:=⟨_,rfl⟩
 obtain ⟨cy,hcy⟩ : ∃ h,h = (l1 + p0) / 18446744073709551616:=⟨_,rfl⟩
 have hsum : (h1 + cy) * 18446744073709551616 + l2 = P:=by omega
 have hhD : h1 + cy < D:=by omega
 have bx : x < 1000000000000000000:=by omega
 have bl1 : l1 < 18446744073709551616:=by omega
 have bl2 : l2 < 18446744073709551616:=by omega
 have bh1 : h1 < 1000000000000000000:=by omega
 have bcy : cy ≤ 1:=by omega
 have q0 : ∀ W,Drawn w W → Calls Tryz.prog 175 #[.slice A1 (n + 3) c1,.int .i64 (n : Int)] W (fun e w'=>e = .returned (.int .u64 (p0 : Int)) ∧ W = w'):=fun W hW=>by
   have:=at_any (c:=c1) (hr1.drawn hW) hsp' (n : Int) (by omega); rw [Int.toNat_natCast,← hp0,hpn] at this; exact this
 have q1 : ∀ W,Drawn w W → Calls Tryz.prog 175 #[.slice A1 (n + 3) c1,.int .i64 ((n : Int) + 2 - 1)] W (fun e w'=>e = .returned (.int .u64 (p1 : Int)) ∧ W = w'):=fun W hW=>by
   have:=at_any (c:=c1) (hr1.drawn hW) hsp' ((n : Int) + 2 - 1) (by omega); rw [show ((n : Int) + 2 - 1).toNat = n + 1 from by omega,← hp1,hpn] at this; exact this
 have q2 : ∀ W,Drawn w W → Calls Tryz.prog 175 #[.slice A1 (n + 3) c1,.int .i64 ((n : Int) + 2)] W (fun e w'=>e = .returned (.int .u64 (p2 : Int)) ∧ W = w'):=fun W hW=>by
   have:=at_any (c:=c1) (hr1.drawn hW) hsp' ((n : Int) + 2) (by omega); rw [show ((n : Int) + 2).toNat = n + 2 from by omega,← hp2,hpn] at this; exact this
 have q3 : ∀ W,Drawn w W → Calls Tryz.prog 175 #[.slice A2 (n + 2) c2,.int .i64 (n : Int)] W (fun e w'=>e = .returned (.int .u64 (d0 : Int)) ∧ W = w'):=fun W hW=>by
   have:=at_any (c:=c2) (hr2.drawn hW) hsy' (n : Int) (by omega); rw [Int.toNat_natCast,← hd0,hn] at this; exact this
 have q4 : ∀ W,Drawn w W → Calls Tryz.prog 175 #[.slice A2 (n + 2) c2,.int .i64 ((n : Int) + 2 - 1)] W (fun e w'=>e = .returned (.int .u64 (d1 : Int)) ∧ W = w'):=fun W hW=>by
   have:=at_any (c:=c2) (hr2.drawn hW) hsy' ((n : Int) + 2 - 1) (by omega); rw [show ((n : Int) + 2 - 1).toNat = n + 1 from by omega,← hd1,hn] at this; exact this
 have qm : ∀ W,Drawn w W → Calls Tryz.prog 202 #[.int .u64 x,.int .u64 1000000000] W (fun e w'=>e = .returned (.tuple #[.int .u64 (h1 : Int),.int .u64 (l1 : Int)]) ∧ W = w'):=fun W hW=>by
   have:=Tryz.bits_Mul64 x 1000000000 (by omega) (by omega) W
   rw [← hh1,← hl1] at this; exact this.mono fun _ _ k=>⟨k.1,k.2.symm⟩
 have hadd:=fun W=>add64_any l1 p0 W
 rw [← hl2',← hcy] at hadd
 have qd : ∀ W,Calls Tryz.prog 205 #[.int .u64 ((h1 : Int) + (cy : Int)),.int .u64 (l2 : Int),.int .u64 (D : Int)] W (fun e w'=>e = .returned (.tuple #[.int .u64 ((P / D : Nat) : Int),.int .u64 ((P % D : Nat) : Int)]) ∧ ∃ m,w' = W.drewN m):=fun W=>by
   have:=div64_any (hi:=h1 + cy) (lo:=l2) (y:=D) (by omega) hD1 hhD bl2 W; unfold DivRet at this; rw [hsum] at this; rw [show ((h1 : Int) + (cy : Int)) = ((h1 + cy : Nat) : Int) from by simp]; exact this
 have QD:=Lib.hid qd
 have Q0:=Lib.hid q0
 have Q1:=Lib.hid q1
 have Q2:=Lib.hid q2
 have Q3:=Lib.hid q3
 have Q4:=Lib.hid q4
 have QM:=Lib.hid qm
 have HG:=Lib.hid hg
 rw [hn,hpn]
 have hn1 : n ≤ 100000:=by omega
 clear qd q0 q1 q2 q3 q4 qm hg hl hn hpn hr1 hr2 hsp hsy hsp' hsy' hp0 hp1 hp2 hd0 hd1 htop hlt vp vy hPD
 go_enter Tryz.func193,Tryz.ntmps193
 have ex : (p2 : Int) * 1000000000 + (p1 : Int) = (x : Int):=by omega
 have eD : (d1 : Int) * 1000000000 + (d0 : Int) = (D : Int):=by omega
 clear hx hD hsum hh1 hl1 hl2' hcy hP
 go_wp2_with fail
 with_reducible refine (Q2.out w (Drawn.refl w)).mono ?_
 rintro e w' ⟨rfl,hw⟩
 subst hw
 go_wp2_with fail
 with_reducible refine (Q1.out w (Drawn.refl w)).mono ?_
 rintro e w' ⟨rfl,hw⟩
 subst hw
 go_wp2_with fail
 with_reducible refine (QM.out w (Drawn.refl w)).mono ?_
 rintro e w' ⟨rfl,hw⟩
 subst hw
 go_wp2_with fail
 with_reducible refine (Q0.out w (Drawn.refl w)).mono ?_
 rintro e w' ⟨rfl,hw⟩
 subst hw
 go_wp2_with fail
 with_reducible refine (Q4.out w (Drawn.refl w)).mono ?_
 rintro e w' ⟨rfl,hw⟩
 subst hw
 go_wp2_with fail
 with_reducible refine (Q3.out w (Drawn.refl w)).mono ?_
 rintro e w' ⟨rfl,hw⟩
 subst hw
 go_wp2_with fail
 with_reducible refine (QD.out w).mono ?_
 rintro e w' ⟨rfl,m,hw⟩
 go_wp2
 go_ret
 exact ⟨guess_ret (P / D) rfl HG.out,⟨m,rfl⟩⟩
theorem u32s_one (ds : List Nat) : ∀ u ∈ u32s ds,u.oneCell' = true:=by
 intro u hu
 obtain ⟨d,_,rfl⟩:=List.mem_map.1 hu
 rfl
theorem own_empty32 (w : World) : Own (w.alloc (.cells #[] 88)) w.heap.size 88 (.slice (some ⟨w.heap.size,0,none⟩) 0 0) (u32s []) :=
 Own.mk_ (World.ownsRow_lit w #[] 0 (Nat.le_refl _) (by decide) rfl)
theorem clone_any {w : World} {ad : Addr} {c : Nat} {xs : List Nat} (hr : Row w (some ad) (u32s xs)) (hlen : xs.length ≤ 1000000) :
   Calls Tryz.prog 192 #[.slice (some ad) xs.length c] w fun e w'=>∃ v,e = .returned v ∧ Own w' w.heap.size 88 v (u32s xs) ∧ Below w.heap.size w w':=by
 obtain ⟨i0,hi,hz0,hz1,hz2⟩:=info_parts dw
 have ho:=own_empty32 w
 have heq : (binOp .eql 132 (.slice (some ad) xs.length c) (.slice none 0 0)).run Tryz.prog w = .ok (.bool false) w:=Lib.run_eql_slice_nil w 132 88 (some ad) xs.length c 0 0 Tryz.underlying132
 have hr':=hr.alloc (.cells #[] 88)
 go_enter Tryz.func192,Tryz.ntmps192
 go_wp2_with (at_builtin; refine wpList_append_own _ rfl _ _ 132 rfl w.heap.size 88 i0 (.int .u32 0) 1 4 Tryz.underlying132 hi hz0 hz1 hz2 rfl (by decide) _ _ _ rfl ho ad xs.length c (u32s xs) rfl (by rw [am]; omega) (fun j u hj=>by obtain ⟨ad',e',hc'⟩:=hr' j u hj; injection e' with e'; subst e'; exact hc') (u32s_one xs) (by rw [am]; unfold maxLen; simp; omega) (by rw [am]; simp; omega) (by simp) ?_)
 intro v' w2 hown' hgrow' _
 have ho2 : Own w2 w.heap.size 88 v' (u32s xs):=by
   have:=Own.mk_ hown'
   simpa [u32s] using this
 have hb2 : Below w.heap.size w w2:=((Below.refl _ _).alloc (Nat.le_refl _) _).grown hgrow' (by simp) (fun k hk=>((show (w.alloc (.cells #[] 88)).ownsRow w.heap.size 88 1 _ _ _ from ho).lt k hk).1)
 clear hown' hgrow'
 go_wp2
 go_ret
 exact ⟨_,rfl,ho2,hb2⟩
theorem Own.only {w w' : World} {B T g n c : Nat} {xs : List Value} (h : Own w B T (.slice (some ⟨g,0,none⟩) n c) xs) (hk : w'.heap[g]? = w.heap[g]?) : Own w' B T (.slice (some ⟨g,0,none⟩) n c) xs:=by
 have hh : w.ownsRow B T 1 (.slice (some ⟨g,0,none⟩) n c) xs.length xs:=h
 refine ⟨hh.1,?_⟩
 rcases hh.2 with ⟨e,_⟩ | ⟨g',cap,cur,e,hB,hg,r⟩
 · cases e
 · refine .inr ⟨g',cap,cur,e,hB,?_,r⟩
   have : g' = g:=by
     injection e with e1; injection e1 with e1; injection e1 with e1; exact e1.symm
   subst this; rw [hk]; exact hg
theorem long_any : LongSpec:=by
 intro w A1 A2 c1 c2 xs ys hr1 hr2 hx hy h2 hle hlen
 obtain ⟨i0,hi,hz0,hz1,hz2⟩:=info_parts dw
 have hyl:=val_lt hy.1
 have hypos:=fq hy (fun e=>by rw [e] at h2; simp at h2)
 have hy0 : 0 < val ys:=Nat.lt_of_lt_of_le (Nat.pow_pos (by decide)) hypos
 have hxy : ys.length ≤ xs.length:=by
   rcases Nat.lt_or_ge xs.length ys.length with h | h
   · have:=du hx hy h; omega
   · exact h
 obtain ⟨m,hm⟩ : ∃ m,m = ys.length:=⟨_,rfl⟩
 obtain ⟨n,hn⟩ : ∃ n,n = xs.length:=⟨_,rfl⟩
 have hA1 : ∃ ad,A1 = some ad:=by
   obtain ⟨ad,h,_⟩:=hr1.at_ (k:=0) (by rw [am]; omega); exact ⟨ad,h⟩
 obtain ⟨ad1,rfl⟩:=hA1
 have hm2 : 2 ≤ m:=by omega
 have hmn : m ≤ n:=by omega
 have hn1 : n ≤ 100000:=by omega
 rw [← hm,← hn]
 obtain ⟨W,hW⟩ : ∃ W,W = (((w.alloc (Obj.cells #[Value.slice (some ad1) n c1] 137)).alloc (Obj.cells #[Value.slice A2 m c2] 137)).alloc (Obj.cells #[Value.slice none 0 0] 137)).alloc (Obj.cells #[Value.slice none 0 0] 137):=⟨_,rfl⟩
 obtain ⟨hbW,hsW,b1,b2,b3,b4⟩:=gz hW
 have hcl:=clone_any (w:=W) (c:=c1) (hr1.below hbW) (by omega)
 rw [← hn] at hcl
 have HCL:=Lib.hid hcl
 have B1:=Lib.hid b1
 have B2:=Lib.hid b2
 have B3:=Lib.hid b3
 have B4:=Lib.hid b4
 have c1':=cell_of_one b1
 have HW:=Lib.hid hW
 have HM:=Lib.hid hm
 have HN:=Lib.hid hn
 have HSW:=Lib.hid hsW
 clear hcl b1 b2 b3 b4 hW hm hn hsW hxy h2 hlen
 go_enter Tryz.func181,Tryz.ntmps181
 go_wp2_with fail
 rw [← HW.out]
 go_wp2_with fail
 refine HCL.out.mono ?_
 rintro e w1 ⟨v1,rfl,ho1,hb1⟩
 obtain ⟨Ac,cc,rfl,hrc,hx1⟩:=ho1.slice32
 rw [← HN.out] at ho1 ⊢
 go_wp2_with (at_builtin; refine wpList_append_own _ rfl _ _ 132 rfl W.heap.size 88 i0 (.int .u32 0) 1 4 Tryz.underlying132 hi hz0 hz1 hz2 rfl (by decide) _ _ _ rfl (ho1.alloc _) ⟨w1.heap.size,0,none⟩ 1 1 [.int .u32 ((0 : Nat) : Int)] rfl rfl ?c1 ?c2 ?c3 ?c4 ?c5 ?_)
 case c1=>exact one_news rfl
 case c2=>exact ch
 case c3=>rw [am,← HN.out]; unfold maxLen; omega
 case c4=>rw [am,← HN.out]; omega
 case c5=>have:=hb1.size; simp; omega
 intro v' w2 hown' hgrow' _
 have ho2:=de hown'
 have hb2:=ed hb1 ho1 (Nat.le_refl _) hgrow'
 clear hown' hgrow' ho1 hb1 hrc hx1
 obtain ⟨Al,cl,rfl,hrl,hcl,hx2⟩:=ho2.slice32
 have hl0 : (xs ++ [0]).length = n + 1:=by rw [List.length_append,← HN.out]; rfl
 obtain ⟨al,rfl,hx3⟩:=hrl.at_ (k:=0) (by rw [am,hl0]; omega)
 obtain ⟨g1,rfl,hg1,hg1s⟩:=ho2.lt.2 al rfl
 rw [hl0] at ho2 hcl ⊢
 obtain ⟨K,hK⟩ : ∃ K : Nat,K = n + 1 - m:=⟨_,rfl⟩
 have hKi : (n : Int) + 1 - (m : Int) = (K : Int):=by omega
 have hK1 : K + m = n + 1:=by omega
 have HL0:=Lib.hid hl0
 have hcell2:=cell_of_one ((hb2.block (w.heap.size + 1) (by have:=HSW.out; omega)).trans B2.out)
 have hs2:=hb2.size
 clear hK hx3 hx2 hl0 hrl
 go_wp2_with (at_make; refine wpList_make_full _ rfl _ _ 132 rfl W.heap.size 88 i0 (.int .u32 0) 1 Tryz.underlying132 hi hz0 hz1 .i64 .i64 (K : Int) (K : Int) K rfl rfl rfl rfl ?b2 ?b3 ?b4 ?_)
 case b2=>first | omega | (rw [hz2]; omega)
 case b3=>unfold maxLen; omega
 intro w3 hown3 hgrow3
 have ho3:=kh hown3
 have hb3' : Below w2.heap.size w2 w3:=(Below.refl _ _).grown hgrow3 (Nat.le_refl _) (fun k h=>by cases h)
 have hb3:=hb2.trans (hb3'.mono hs2)
 have ho2':=ho2.below hb3'
 obtain ⟨g2,hg2⟩ : ∃ g2,g2 = w2.heap.size:=⟨_,rfl⟩
 rw [← hg2] at ho3 ⊢
 have hg12 : g1 ≠ g2:=by omega
 have hg2W : W.heap.size ≤ g2:=by omega
 have hstart : val ((List.replicate K 0).drop K) * val ys * 1000000000 ^ K + val (xs ++ [0]) = val xs ∧ val ((xs ++ [0]).drop K) < val ys:=by
   have e1 : (xs ++ [0]).drop K = xs.drop K ++ [0]:=List.drop_append_of_le_length (by rw [← HN.out]; omega); refine ⟨?_,?_⟩
   · rw [List.drop_of_length_le (by simp),dq]; simp [val]
   · rw [e1,dq,Nat.mul_zero,Nat.add_zero]; have h1:=val_lt (small_drop hx.1 K); rw [List.length_drop,← HN.out,show n - K = ys.length - 1 from by have:=HM.out; omega] at h1; omega
 have HST:=Lib.hid hstart
 clear hown3 hgrow3 hb3' ho2 hg2 hstart hs2 hcell2 hb2
 go_wp2_with fail
 go_loopw [8] (fun iv wr => ∃ (k : Nat) (L qs : List Nat), k ≤ K ∧ iv = .int .i64 ((k : Int) - 1) ∧ Own wr W.heap.size 88 (.slice (some ⟨g1, 0, none⟩) (n + 1) cl) (u32s L) ∧ Own wr W.heap.size 88 (.slice (some ⟨g2, 0, none⟩) K K) (u32s qs) ∧
     Hid (L.length = n + 1 ∧ small 1000000000 L ∧ qs.length = K ∧ small 1000000000 qs ∧ val (qs.drop k) * val ys * 1000000000 ^ k + val L = val xs ∧ val (L.drop k) < val ys) ∧ Below W.heap.size W wr)
   (fun iv _=>(intOf iv + 1).toNat)
 case atStart =>
   exact ⟨K,xs ++ [0],List.replicate K 0,Nat.le_refl _,rfl,ho2',ho3,⟨HL0.out,small_snoc hx.1 (by decide),by simp,df _ _ (by decide),HST.out.1,HST.out.2⟩,hb3⟩
 case round =>
   obtain ⟨k,L,qs,hk,rfl,hoL,hoQ,HO,hb⟩:=hrel; rcases Nat.eq_zero_or_pos k with rfl | hpos
   · have hlq : qs.length ≤ 1000000:=by rw [HO.out.2.2.1]; omega
     have hlL : L.length ≤ 1000000:=by rw [HO.out.1]; omega
     have hst1:=stripped_any hoQ hlq; have hst2:=stripped_any hoL hlL; have HS1:=Lib.hid hst1; have HS2:=Lib.hid hst2; have hB4:=(hb.block (w.heap.size + 1 + 1) (by have:=HSW.out; omega)).trans B3.out; have hC4:=(hb.block (w.heap.size + 1 + 1 + 1) (by have:=HSW.out; omega)).trans B4.out; clear hst1 hst2
     go_wp2_with fail
     with_reducible refine HS1.out.mono ?_
     rintro e w5 ⟨⟨v,rfl,hv⟩,hw5⟩; subst hw5; obtain ⟨A3,c3,rfl,_⟩:=hv.slice32
     go_wp2_with fail
     with_reducible refine HS2.out.mono ?_
     rintro e w6 ⟨⟨v2, rfl, hv2⟩, hw6⟩; subst hw6; obtain ⟨A4, c4, rfl, _⟩ := hv2.slice32; have h := HO.out; have hq1 := h.2.2.2.2.1; rw [List.drop_zero, Nat.pow_zero, Nat.mul_one] at hq1; have hq2 := h.2.2.2.2.2; rw [List.drop_zero] at hq2; obtain ⟨⟨n1, n2, n3⟩, n4, n5⟩ := iz (w := w) (B0 := w.heap.size) (q := val xs / val ys) (r := val xs % val ys) (v := .slice A3 (strip qs).length c3) (u := .slice A4 (strip L).length c4) hB4 hC4 (by omega) (by omega) (by omega)
       ⟨strip qs,cz h.2.2.2.1,by rw [dt,← hq1,Nat.mul_comm,Nat.mul_add_div hy0,Nat.div_eq_of_lt hq2,Nat.add_zero],hv.mono hbW.size⟩
       ⟨strip L,cz h.2.1,by rw [dt,← hq1,Nat.mul_comm,Nat.mul_add_mod,Nat.mod_eq_of_lt hq2],hv2.mono hbW.size⟩ (hbW.trans (hb.mono hbW.size))
     obtain ⟨t1,t2,t3⟩:=ki (u1:=.slice A3 (strip qs).length c3) (u2:=.slice A4 (strip L).length c4) hB4 hC4 (by omega); have k1:=cell_of_one hB4; have k2:=free_of_one hB4; have k3:=cell_of_one t1; have k4:=free_of_one t1; have N4:=Lib.hid n4; have N5:=Lib.hid n5; clear hB4 hC4 t1 t2 t3 n4 n5 hq1 hq2 h
     go_wp2
     refine bodyPost_ret (v:=.tuple #[.agg #[.slice A3 (strip qs).length c3],.agg #[.slice A4 (strip L).length c4]]) (by simp [results,Tryz.results181,go_sem,N4.out,N5.out]) rfl ?_; exact ⟨_,_,rfl,n1,n2,n3⟩
   · obtain ⟨p,rfl⟩ : ∃ p,k = p + 1:=⟨k - 1,by omega⟩
     rw [show ((p + 1 : Nat) : Int) - 1 = (p : Int) from by omega]; obtain ⟨P,part,T,rfl,hP,hpart⟩:=three_parts (L:=L) (p:=p) (m:=m + 1) (by rw [HO.out.1]; omega); have hcell2:=cell_of_one ((hb.block (w.heap.size + 1) (by have:=HSW.out; omega)).trans B2.out); have hpc : p + m + 1 ≤ cl:=by omega
     have HP:=Lib.hid hP; have HPT:=Lib.hid hpart; have hpm : p + m + 1 - p = m + 1:=by omega
     have hsL : small 1000000000 (P ++ part ++ T):=HO.out.2.1; have hsP : small 1000000000 P:=fun d hd=>hsL d (by rw [List.append_assoc]; exact List.mem_append_left _ hd); have hsp : small 1000000000 part:=fun d hd=>hsL d (List.mem_append_left _ (List.mem_append_right _ hd)); have hsT : small 1000000000 T:=fun d hd=>hsL d (List.mem_append_right _ hd); have hlp:=long_part hP hpart hsp (m:=m) (Y:=val ys) (by rw [HM.out]; exact hyl) HO.out.2.2.2.2.2
     have hM : val ys * 1000000000 < 1000000000 ^ m * 1000000000:=by
       have : val ys < 1000000000 ^ m:=by rw [HM.out]; exact hyl
       omega
     have hvp:=val_lt hsp; rw [hpart,Nat.pow_succ] at hvp; have bW : Below w.heap.size w wr:=hbW.trans (hb.mono hbW.size)
     have hg:=guess_any (w:=wr) (A1:=some ⟨g1,p,none⟩) (c1:=cl - p) (c2:=c2) (by rw [← hP]; exact own_mid hoL) (hr2.below bW) hsp hy.1 (by rw [hpart,HM.out]) (by rw [← HM.out]; exact hm2) (by rw [← HM.out]; omega) (fun h=>by
       rcases hy.2 with h1 | h1
       · have:=HM.out; rw [h1] at this; simp at this; omega
       · apply h1; rw [List.getLast?_eq_getElem?]; rw [List.getD_eq_getElem?_getD] at h; rw [List.getElem?_eq_getElem (by rw [← HM.out]; omega)] at h ⊢
         simpa using h) hlp.1
     rw [hpart,← HM.out] at hg; have HG:=Lib.hid hg; have HLP:=Lib.hid hlp; have HMM:=Lib.hid hM; have HVP:=Lib.hid hvp; have hsw:=hb.size; clear hP hpart hpos hg hlp hM hvp hsL
     go_wp2_with fail
     with_reducible refine HG.out.mono ?_
     rintro e w4 ⟨⟨dg,rfl,hdg⟩,hd4⟩; have hb4 : Below wr.heap.size wr w4:=hd4.below; have hoL4:=hoL.below hb4; have hoQ4:=hoQ.below hb4; have bW4:=hb.trans (hb4.mono hsw); have hc4:=cell_of_one ((bW4.block (w.heap.size + 1) (by have:=HSW.out; omega)).trans B2.out); have hs4:=bW4.size; have HDG:=Lib.hid hdg; have htk:=take_any (w0:=w) (w:=w4) (cap:=cl - p) (c2:=c2) hoL4 (by rw [HP.out,HPT.out]; omega) hr2 (hbW.trans (bW4.mono hbW.size)) (by have:=HSW.out; omega) hg1 hsp hy.1 (by rw [HPT.out,← HM.out]; omega) hdg.2.2; rw [HP.out,HPT.out,← HM.out] at htk; have HTK:=Lib.hid htk; clear hdg htk hd4 hb4 hoL hoQ hb hcell2 hoL4 bW
     go_wp2_with fail
     with_reducible refine HTK.out.mono ?_
     rintro e w5 ⟨part',bo,ca,rfl,hp',hsp',hbo,⟨hv1,hv2⟩,ho5,hb5,hfr5⟩; have hv3:=val_lt hsp'; rw [hp',Nat.pow_succ] at hv3; rw [Nat.pow_succ] at hv1 hv2; have bW5:=bW4.trans hb5; have hc5:=cell_of_one ((bW5.block (w.heap.size + 1) (by have:=HSW.out; omega)).trans B2.out); have hoQ5:=hoQ4.only (hfr5.out g2 (fun h=>hg12 h.symm)); have hs5:=bW5.size; have h01 : bo = 0 ∨ bo = 1:=by omega
     rcases h01 with rfl | rfl
     · have hr:=long_right HMM.out HDG.out.2.2 HDG.out.1 hv1 hv2 rfl hy0; have HR:=Lib.hid hr; have hst:=long_step (T:=T) (part':=part') (Y:=val ys) (X:=val xs) HP.out (by rw [HO.out.2.2.1]; omega) HLP.out.2 hr.2 HO.out.2.2.2.2.1; rw [← hr.1] at hst; have htp:=long_top (T:=T) (Y:=val ys) HP.out HLP.out.2 (part':=part') (by rw [hr.2]; exact Nat.mod_lt _ hy0); have HS:=Lib.hid hst; have HT:=Lib.hid htp; have hdl : dg < 1000000000:=by rw [hr.1,Nat.div_lt_iff_lt_mul hy0,Nat.mul_comm]; exact HLP.out.1
       obtain ⟨vold,hq0⟩:=own_cell hoQ5 (k:=p) (by rw [am,HO.out.2.2.1]; omega); have hset:=fp hoQ5 p dg; have HSET:=Lib.hid hset; have ho5' : ∀ u,Own (w5.setCell ⟨g2,p,none⟩ u) W.heap.size 88 (.slice (some ⟨g1,0,none⟩) (n + 1) cl) (u32s (P ++ part' ++ T)):=fun u=>ho5.only (Below.heap_setCell _ _ _ _ hg12); have HO5:=Lib.hid ho5'
       have hlen5 : (P ++ part' ++ T).length = n + 1:=by
         have:=HO.out.1; rw [List.length_append,List.length_append,HPT.out] at this; rw [List.length_append,List.length_append,hp']; exact this
       have hsm5 : small 1000000000 (P ++ part' ++ T):=by
         intro d hd; rcases List.mem_append.1 hd with h | h
         · rcases List.mem_append.1 h with h | h
           · exact hsP d h
           · exact hsp' d h
         · exact hsT d h
       have HL5:=Lib.hid hlen5; clear hr hst htp hset ho5' hlen5 hoQ5 ho5 hoQ4 HTK hv1 hv2 hv3 hp' hfr5
       go_wp2
       go_roundw
       case rel=>exact ⟨p,P ++ part' ++ T,qs.set p dg,by omega,by go_num,HO5.out _,HSET.out,⟨HL5.out,hsm5,by rw [List.length_set]; exact HO.out.2.2.1,fm HO.out.2.2.2.1 p hdl,HS.out,HT.out⟩,bW5.setCell hg2W _⟩
       case measure=>first | (simp [intOf]; done) | (simp [intOf]; omega)
     · have hgv:=give_any (w0:=w) (w:=w5) (cap:=cl - p) (c2:=c2) ho5 (by rw [HP.out,hp']; omega) hr2 (hbW.trans (bW5.mono hbW.size)) (by have:=HSW.out; omega) hg1 hsp' hy.1 (by rw [hp',← HM.out]; omega); rw [HP.out,hp',← HM.out] at hgv; have HGV:=Lib.hid hgv; have hd1 : 1 ≤ dg:=dg_pos hv1 hv3 rfl; have HV1:=Lib.hid hv1; have HV2:=Lib.hid hv2; have HV3:=Lib.hid hv3; have hdg2:=HDG.out.2.2; clear hgv hv1 hv2 hv3 ho5 hoQ4 HTK hfr5
       go_wp2_with fail
       with_reducible refine HGV.out.mono ?_
       rintro e w6 ⟨⟨vv,rfl⟩,part2,cy,hp2,hsp2,hcy,hv4,ho6,hb6,hfr6⟩; have hv5:=val_lt hsp2; rw [hp2,Nat.pow_succ] at hv5; rw [Nat.pow_succ] at hv4; have bW6:=bW5.trans hb6; have hoQ6:=hoQ5.only (hfr6.out g2 (fun h=>hg12 h.symm)); have hr:=long_back HMM.out HDG.out.2.2 HDG.out.1 HDG.out.2.1 HV1.out HV2.out HV3.out rfl hy0 hv4 hv5 hcy; have hst:=long_step (T:=T) (part':=part2) (Y:=val ys) (X:=val xs) HP.out (by rw [HO.out.2.2.1]; omega) HLP.out.2 hr.2.2 HO.out.2.2.2.2.1; rw [← hr.2.1] at hst; have htp:=long_top (T:=T) (Y:=val ys) HP.out HLP.out.2 (part':=part2) (by rw [hr.2.2]; exact Nat.mod_lt _ hy0); have HS:=Lib.hid hst; have HT:=Lib.hid htp; have hdl : dg - 1 < 1000000000:=by omega
       obtain ⟨vold,hq0⟩:=own_cell hoQ6 (k:=p) (by rw [am,HO.out.2.2.1]; omega); have hset:=fp hoQ6 p (dg - 1); have HSET:=Lib.hid hset; have ho6' : ∀ u,Own (w6.setCell ⟨g2,p,none⟩ u) W.heap.size 88 (.slice (some ⟨g1,0,none⟩) (n + 1) cl) (u32s (P ++ part2 ++ T)):=fun u=>ho6.only (Below.heap_setCell _ _ _ _ hg12); have HO6:=Lib.hid ho6'
       have hlen6 : (P ++ part2 ++ T).length = n + 1:=by
         have:=HO.out.1; rw [List.length_append,List.length_append,HPT.out] at this; rw [List.length_append,List.length_append,hp2]; exact this
       have hsm6 : small 1000000000 (P ++ part2 ++ T):=by
         intro d hd; rcases List.mem_append.1 hd with h | h
         · rcases List.mem_append.1 h with h | h
           · exact hsP d h
           · exact hsp2 d h
         · exact hsT d h
       have HL6:=Lib.hid hlen6; clear hr hst htp hset ho6' hlen6 hoQ6 hoQ5 ho6 hv4 hv5 hp2 hfr6 hp'
       go_wp2
       go_roundw
       case rel=>exact ⟨p,P ++ part2 ++ T,qs.set p (dg - 1),by omega,by go_num,HO6.out _,by
         have:=HSET.out; rw [show ((dg - 1 : Nat) : Int) = (dg : Int) - 1 from by omega] at this
         exact this,⟨HL6.out,hsm6,by rw [List.length_set]; exact HO.out.2.2.1,fm HO.out.2.2.2.1 p hdl,HS.out,HT.out⟩,bW6.setCell hg2W _⟩
       case measure=>first | (simp [intOf]; done) | (simp [intOf]; omega)
theorem lit_row (w : World) (cs : Array Value) (T : TypeId) (h : cs.size ≤ maxLen) : Row (w.alloc (.cells cs T)) (some ⟨w.heap.size,0,none⟩) cs.toList:=by
 have hs : cs.size = cs.size * 1:=(Nat.mul_one _).symm
 have ho : Own (w.alloc (.cells cs T)) w.heap.size T (.slice (some ⟨w.heap.size,0,none⟩) cs.size cs.size) cs.toList:=Own.mk_ (World.ownsRow_lit w cs cs.size (Nat.le_refl _) h hs)
 obtain ⟨A,c,e,hr,_⟩:=ho.slice
 injection e with e1
 rw [e1]; exact hr
theorem rows_lit {w : World} {L : List Arow} (T : TypeId) (h8 : L.length ≤ 8) (h : ∀ r ∈ L,Row w r.1 (u32s r.2.2) ∧ small 4294967296 r.2.2 ∧ r.2.2.length ≤ 10000) :
   ka (w.alloc (.cells (L.map sl).toArray T)) (some ⟨w.heap.size,0,none⟩) L :=
 ⟨by
   have:=lit_row w (L.map sl).toArray T (by unfold maxLen; simp; omega)
   simpa using this,fun r hr=>⟨(h r hr).1.alloc _,(h r hr).2⟩⟩
theorem bstep {w W w' : World} (h1 : Below w.heap.size w W) (h2 : Below W.heap.size W w') : Below w.heap.size w w':=h1.trans (h2.mono h1.size)
theorem small_mono' {rs : List Nat} (h : right rs) : small 4294967296 rs:=small_mono h.1 (by decide)
theorem divMod_all {w : World} {A1 A2 : Option Addr} {c1 c2 : Nat} {xs ys : List Nat} (hr1 : Row w A1 (u32s xs)) (hr2 : Row w A2 (u32s ys)) (hx : small 4294967296 xs) (hy : small 4294967296 ys) (hl1 : xs.length ≤ 10000) (hl2 : ys.length ≤ 10000) (h0 : 0 < val ys) :
   Calls Tryz.prog 155 #[.slice A1 xs.length c1,.slice A2 ys.length c2] w (RetQR w (val xs / val ys) (val xs % val ys)) :=
 divMod_yes hr1 hr2 hx hy hl1 hl2 h0 (.inr long_any)
def RightRet (xs : List Nat) (e : Ending) : Prop:=(right xs ∧ e = .returned (.bool true)) ∨ (¬ right xs ∧ e = .returned (.bool false))
theorem right_any {w : World} {A : Option Addr} {c : Nat} {xs : List Nat} (hr : Row w A (u32s xs)) (hd : small 4294967296 xs) (hlen : xs.length ≤ 1000000) :
   Calls Tryz.prog 114 #[.slice A xs.length c] w fun e w'=>RightRet xs e ∧ w = w':=by
 obtain ⟨n,hn⟩ : ∃ n,n = xs.length:=⟨_,rfl⟩
 have hn1 : n ≤ 1000000:=by omega
 rw [← hn]
 have HN:=Lib.hid hn
 clear hn hlen
 go_enter Tryz.func114,Tryz.ntmps114
 go_wp2
 go_loop [7] (fun iv=>∃ k : Nat,k ≤ n ∧ iv = .int .i64 (k : Int) ∧ Hid (small 1000000000 (xs.take k))) (fun iv=>n - (intOf iv).toNat)
 case atStart=>exact ⟨0,Nat.zero_le _,rfl,bl _⟩
 case round =>
   obtain ⟨k,hk,rfl,HS⟩:=hrel
   by_cases hlt : k < n
   · obtain ⟨ad,x,rfl,hc,hx,hm⟩:=hr.dig (k:=k) (by rw [← HN.out]; exact hlt); have hx32:=hd x hm; have HM:=Lib.hid hm
     have HST : Hid (xs.take (k + 1) = xs.take k ++ [x]):=by
       have hkx : k < xs.length:=by rw [← HN.out]; exact hlt
       show _ = _
       rw [List.take_add_one,List.getElem?_eq_getElem hkx,← hx.out,List.getD_eq_getElem?_getD,List.getElem?_eq_getElem hkx]; rfl
     clear hm
     by_cases hb : 1000000000 ≤ x
     · have hbd : decide ((1000000000 : Int) ≤ (x : Int)) = true:=by rw [decide_eq_true_eq]; omega
       have HB:=Lib.hid hb; clear hb
       go_wp2
       go_ret
       exact ⟨.inr ⟨fun h=>by have:=h.1 x HM.out; have:=HB.out; omega,rfl⟩,rfl⟩
     · have hbd : decide ((1000000000 : Int) ≤ (x : Int)) = false:=by rw [decide_eq_false_iff_not]; omega
       have HB:=Lib.hid (Nat.lt_of_not_le hb); clear hb
       go_wp2
       go_round
       case rel=>exact ⟨k + 1,by omega,by go_num,by
         show small 1000000000 (xs.take (k + 1))
         rw [HST.out]; exact small_snoc HS.out HB.out⟩
       case measure=>simp [intOf]; omega
   · have hkn : k = n:=by omega
     have hsm : small 1000000000 xs:=by
       have:=HS.out; rw [hkn,HN.out,List.take_length] at this; exact this
     have HSM:=Lib.hid hsm; clear hkn hsm
     by_cases h0 : n = 0
     · have hl0 : ((n : Int) == 0) = true:=by rw [h0]; rfl
       have hx0 : xs = []:=List.eq_nil_of_length_eq_zero (by rw [← HN.out]; exact h0); have HX:=Lib.hid hx0; clear h0 hx0
       go_wp2
       go_ret
       exact ⟨.inl ⟨⟨HSM.out,.inl HX.out⟩,rfl⟩,rfl⟩
     · have hl0 : ((n : Int) == 0) = false:=by rw [beq_eq_false_iff_ne]; omega
       obtain ⟨ad,x,rfl,hc,hx,hm⟩:=hr.dig (k:=n - 1) (by rw [← HN.out]; omega); have hx32:=hd x hm
       have hlast : xs.getLast? = some x:=by
         rw [List.getLast?_eq_getElem?,← HN.out,List.getElem?_eq_getElem (by rw [← HN.out]; omega),← hx.out,List.getD_eq_getElem?_getD,List.getElem?_eq_getElem (by rw [← HN.out]; omega)]; rfl
       have HL:=Lib.hid hlast; have hne : xs ≠ []:=fun h=>h0 (by rw [HN.out,h]; rfl); have HNE:=Lib.hid hne; have hn1' : 1 ≤ n:=by omega
       clear hlast hne hm h0
       by_cases hx0 : x = 0
       · have ht : ((x : Int) != 0) = false:=by rw [bne_eq_false_iff_eq]; omega
         have HX:=Lib.hid hx0; clear hx0
         go_wp2
         go_ret
         exact ⟨.inr ⟨fun h=>by
           rcases h.2 with h1 | h1
           · exact HNE.out h1
           · exact h1 (by rw [HL.out,HX.out]),by simp [HX.out]⟩,rfl⟩
       · have ht : ((x : Int) != 0) = true:=by rw [bne_iff_ne]; omega
         have HX:=Lib.hid hx0; clear hx0
         go_wp2
         go_ret
         exact ⟨.inl ⟨⟨HSM.out,.inr (fun h=>HX.out (by rw [HL.out] at h; injection h))⟩,by simp⟩,rfl⟩
theorem refRight {w : World} {A : Option Addr} {c : Nat} {xs : List Nat} (hr : Row w A (u32s xs)) (hd : small 4294967296 xs) (hlen : xs.length ≤ 1000000) :
   Calls Tryz.prog 120 #[.slice A xs.length c] w fun e w'=>RightRet xs e ∧ w = w':=by
 obtain ⟨n,hn⟩ : ∃ n,n = xs.length:=⟨_,rfl⟩
 have hn1 : n ≤ 1000000:=by omega
 rw [← hn]
 have HN:=Lib.hid hn
 clear hn hlen
 go_enter Tryz.func120,Tryz.ntmps120
 go_wp2
 go_loop [3] (fun iv=>∃ k : Nat,k ≤ n ∧ iv = .int .i64 (k : Int) ∧ Hid (small 1000000000 (xs.take k))) (fun iv=>n - (intOf iv).toNat)
 case atStart=>exact ⟨0,Nat.zero_le _,rfl,bl _⟩
 case round =>
   obtain ⟨k,hk,rfl,HS⟩:=hrel
   by_cases hlt : k < n
   · obtain ⟨ad,x,rfl,hc,hx,hm⟩:=hr.dig (k:=k) (by rw [← HN.out]; exact hlt); have hx32:=hd x hm; have HM:=Lib.hid hm
     have HST : Hid (xs.take (k + 1) = xs.take k ++ [x]):=by
       have hkx : k < xs.length:=by rw [← HN.out]; exact hlt
       show _ = _
       rw [List.take_add_one,List.getElem?_eq_getElem hkx,← hx.out,List.getD_eq_getElem?_getD,List.getElem?_eq_getElem hkx]; rfl
     clear hm
     by_cases hb : 1000000000 ≤ x
     · have hbd : decide ((1000000000 : Int) ≤ (x : Int)) = true:=by rw [decide_eq_true_eq]; omega
       have HB:=Lib.hid hb; clear hb
       go_wp2
       go_ret
       exact ⟨.inr ⟨fun h=>by have:=h.1 x HM.out; have:=HB.out; omega,rfl⟩,rfl⟩
     · have hbd : decide ((1000000000 : Int) ≤ (x : Int)) = false:=by rw [decide_eq_false_iff_not]; omega
       have HB:=Lib.hid (Nat.lt_of_not_le hb); clear hb
       go_wp2
       go_round
       case rel=>exact ⟨k + 1,by omega,by go_num,by
         show small 1000000000 (xs.take (k + 1))
         rw [HST.out]; exact small_snoc HS.out HB.out⟩
       case measure=>simp [intOf]; omega
   · have hkn : k = n:=by omega
     have hsm : small 1000000000 xs:=by
       have:=HS.out; rw [hkn,HN.out,List.take_length] at this; exact this
     have HSM:=Lib.hid hsm; clear hkn hsm
     by_cases h0 : n = 0
     · have hl0 : ((n : Int) == 0) = true:=by rw [h0]; rfl
       have hx0 : xs = []:=List.eq_nil_of_length_eq_zero (by rw [← HN.out]; exact h0); have HX:=Lib.hid hx0; clear h0 hx0
       go_wp2
       go_ret
       exact ⟨.inl ⟨⟨HSM.out,.inl HX.out⟩,rfl⟩,rfl⟩
     · have hl0 : ((n : Int) == 0) = false:=by rw [beq_eq_false_iff_ne]; omega
       obtain ⟨ad,x,rfl,hc,hx,hm⟩:=hr.dig (k:=n - 1) (by rw [← HN.out]; omega); have hx32:=hd x hm
       have hlast : xs.getLast? = some x:=by
         rw [List.getLast?_eq_getElem?,← HN.out,List.getElem?_eq_getElem (by rw [← HN.out]; omega),← hx.out,List.getD_eq_getElem?_getD,List.getElem?_eq_getElem (by rw [← HN.out]; omega)]; rfl
       have HL:=Lib.hid hlast; have hne : xs ≠ []:=fun h=>h0 (by rw [HN.out,h]; rfl); have HNE:=Lib.hid hne; have hn1' : 1 ≤ n:=by omega
       clear hlast hne hm h0
       by_cases hx0 : x = 0
       · have ht : ((x : Int) != 0) = false:=by rw [bne_eq_false_iff_eq]; omega
         have HX:=Lib.hid hx0; clear hx0
         go_wp2
         go_ret
         exact ⟨.inr ⟨fun h=>by
           rcases h.2 with h1 | h1
           · exact HNE.out h1
           · exact h1 (by rw [HL.out,HX.out]),by simp [HX.out]⟩,rfl⟩
       · have ht : ((x : Int) != 0) = true:=by rw [bne_iff_ne]; omega
         have HX:=Lib.hid hx0; clear hx0
         go_wp2
         go_ret
         exact ⟨.inl ⟨⟨HSM.out,.inr (fun h=>HX.out (by rw [HL.out] at h; injection h))⟩,by simp⟩,rfl⟩
def Rd (W : World) (v : Value) (n : Nat) : Prop:=∃ A c xs,v = .slice A xs.length c ∧ Row W A (u32s xs) ∧ small 4294967296 xs ∧ xs.length ≤ 4000 ∧ val xs = n
def Rr (W : World) (v : Value) (n : Nat) : Prop:=∃ A c xs,v = .slice A xs.length c ∧ Row W A (u32s xs) ∧ right xs ∧ xs.length ≤ 4000 ∧ val xs = n
theorem Rr.rd {W : World} {v : Value} {n : Nat} (h : Rr W v n) : Rd W v n:=by
 obtain ⟨A,c,xs,h1,h2,h3,h4,h5⟩:=h
 exact ⟨A,c,xs,h1,h2,small_mono' h3,h4,h5⟩
theorem Rd.below {W w' : World} {v : Value} {n : Nat} (h : Rd W v n) (hb : Below W.heap.size W w') : Rd w' v n:=by
 obtain ⟨A,c,xs,h1,h2,h3⟩:=h
 exact ⟨A,c,xs,h1,h2.below hb,h3⟩
theorem Rr.below {W w' : World} {v : Value} {n : Nat} (h : Rr W v n) (hb : Below W.heap.size W w') : Rr w' v n:=by
 obtain ⟨A,c,xs,h1,h2,h3⟩:=h
 exact ⟨A,c,xs,h1,h2.below hb,h3⟩
theorem Rd.alloc {W : World} {v : Value} {n : Nat} (h : Rd W v n) (o : Obj) : Rd (W.alloc o) v n:=h.below ((Below.refl _ _).alloc (Nat.le_refl _) _)
theorem Rr.alloc {W : World} {v : Value} {n : Nat} (h : Rr W v n) (o : Obj) : Rr (W.alloc o) v n:=h.below ((Below.refl _ _).alloc (Nat.le_refl _) _)
theorem bal {w W : World} (h : Below w.heap.size w W) (o : Obj) : Below w.heap.size w (W.alloc o):=h.alloc h.size o
theorem rr_one (W : World) (d : Nat) (h0 : d ≠ 0) (h : d < 1000000000) : Rr (W.alloc (.cells #[.int .u32 (d : Int)] 88)) (.slice (some ⟨W.heap.size,0,none⟩) 1 1) d :=
 ⟨_,1,[d],rfl,row_lit W 88 #[.int .u32 (d : Int)] [d] rfl,right_one h0 h,by simp,by simp [val]⟩
theorem rr_lit1 (W : World) : Rr (W.alloc (.cells #[.int .u32 1] 88)) (.slice (some ⟨W.heap.size,0,none⟩) 1 1) 1:=rr_one W 1 (by decide) (by decide)
def RetR (W : World) (n : Nat) (e : Ending) (w' : World) : Prop:=∃ A k c,e = .returned (.slice A k c) ∧ Rr w' (.slice A k c) n ∧ Below W.heap.size W w'
theorem Rr.shape {W : World} {v : Value} {n : Nat} (h : Rr W v n) : ∃ A k c,v = .slice A k c:=by
 obtain ⟨A,c,xs,h1,_⟩:=h
 exact ⟨A,_,c,h1⟩
theorem fe {W : World} {B n N : Nat} {v : Value} (h : IsNat W B v n) (hn : n < 1000000000 ^ N) (hN : N ≤ 4000) : Rr W v n:=by
 obtain ⟨rs,h1,h2,h3⟩:=h
 obtain ⟨A,c,e,hr,_⟩:=h3.slice32
 exact ⟨A,c,rs,e,hr,h1,Nat.le_trans (right_length_le h1 (by rw [h2]; exact hn)) hN,h2⟩
theorem iu {W w' : World} {n N : Nat} {e : Ending} (h : RetNat W n e w') (hn : n < 1000000000 ^ N) (hN : N ≤ 4000) : RetR W n e w':=by
 obtain ⟨v,he,hi,hb⟩:=h
 have hr:=fe hi hn hN
 obtain ⟨A,k,c,rfl⟩:=hr.shape
 exact ⟨A,k,c,he,hr,hb⟩
theorem rows_of2 {W : World} {v1 v2 : Value} {n1 n2 : Nat} (h1 : Rd W v1 n1) (h2 : Rd W v2 n2) (T : TypeId) : ∃ L : List Arow,L.length = 2 ∧ ka (W.alloc (.cells #[v1,v2] T)) (some ⟨W.heap.size,0,none⟩) L ∧ vals L = [n1,n2]:=by
 obtain ⟨A1,c1,xs,rfl,r1,d1,l1,e1⟩:=h1
 obtain ⟨A2,c2,ys,rfl,r2,d2,l2,e2⟩:=h2
 refine ⟨[(A1,c1,xs),(A2,c2,ys)],rfl,rows_lit (L:=[(A1,c1,xs),(A2,c2,ys)]) T (by simp) fun r hr=>?_,by simp [vals,e1,e2]⟩
 rcases List.mem_cons.1 hr with rfl | hr
 · exact ⟨r1,d1,by show xs.length ≤ 10000; omega⟩
 · rw [List.mem_singleton.1 hr]; exact ⟨r2,d2,by show ys.length ≤ 10000; omega⟩
theorem val_add2 {W : World} {v1 v2 : Value} {n1 n2 N : Nat} (h1 : Rd W v1 n1) (h2 : Rd W v2 n2) (hn : n1 + n2 < 1000000000 ^ N) (hN : N ≤ 4000) :
   Calls Tryz.prog 149 #[.slice (some ⟨W.heap.size,0,none⟩) 2 2] (W.alloc (.cells #[v1,v2] 22)) (RetR (W.alloc (.cells #[v1,v2] 22)) (n1 + n2)):=by
 obtain ⟨L,hl,hL,hv⟩:=rows_of2 h1 h2 22
 have h:=add_any (N:=N) (c:=2) hL (fun k hk=>by
   rw [hv]; rw [hl] at hk
   match k,hk with
   | 0,_=>simp; omega
   | 1,_=>simp; omega
   | k + 2,hk=>simp; exact hn) (by omega) (by omega)
 rw [hl,hv] at h
 have e : [n1,n2].foldl (fun a b=>a + b) 0 = n1 + n2:=by simp
 rw [e] at h
 exact h.mono fun _ _ k=>iu k hn hN
theorem val_mul2 {W : World} {v1 v2 : Value} {n1 n2 N : Nat} (h1 : Rd W v1 n1) (h2 : Rd W v2 n2) (hn1 : n1 < 1000000000 ^ N) (hn : n1 * n2 < 1000000000 ^ N) (hN : N ≤ 4000) (hN0 : 0 < N) :
   Calls Tryz.prog 153 #[.slice (some ⟨W.heap.size,0,none⟩) 2 2] (W.alloc (.cells #[v1,v2] 22)) (RetR (W.alloc (.cells #[v1,v2] 22)) (n1 * n2)):=by
 obtain ⟨L,hl,hL,hv⟩:=rows_of2 h1 h2 22
 have h1N : 1 < 1000000000 ^ N:=Nat.one_lt_pow (by omega) (by decide)
 have h:=mul_any (N:=N) (c:=2) hL (fun k hk=>by
   rw [hv]; rw [hl] at hk
   match k,hk with
   | 0,_=>simpa using h1N
   | 1,_=>simpa using hn1
   | k + 2,hk=>simpa using hn) (by omega) (by omega)
 rw [hl,hv] at h
 have e : [n1,n2].foldl (fun a b=>a * b) 1 = n1 * n2:=by simp
 rw [e] at h
 exact h.mono fun _ _ k=>iu k hn hN
theorem val_trim {W : World} {v : Value} {n N : Nat} (h : Rd W v n) (hn : n < 1000000000 ^ N) (hN : N ≤ 4000) :
   Calls Tryz.prog 126 #[v] W (RetR W n):=by
 obtain ⟨A,c,xs,rfl,r,d,l,e⟩:=h
 have:=trimRow_any (c:=c) r d (by omega)
 rw [e] at this
 exact this.mono fun _ _ k=>iu k hn hN
theorem val_cmp {W : World} {v1 v2 : Value} {n1 n2 : Nat} (h1 : Rd W v1 n1) (h2 : Rd W v2 n2) :
   Calls Tryz.prog 158 #[v1,v2] W fun e w'=>e = .returned (.int .i64 (ordI (n1 : Int) (n2 : Int))) ∧ Below W.heap.size W w':=by
 obtain ⟨A1,c1,xs,rfl,r1,p1,l1,e1⟩:=h1
 obtain ⟨A2,c2,ys,rfl,r2,p2,l2,e2⟩:=h2
 have:=cmp_any (c1:=c1) (c2:=c2) r1 r2 p1 p2 (by omega) (by omega)
 rw [e1,e2] at this
 exact this
theorem val_right {W : World} {v : Value} {n : Nat} (h : Rr W v n) : Calls Tryz.prog 114 #[v] W fun e w'=>e = .returned (.bool true) ∧ W = w':=by
 obtain ⟨A,c,xs,rfl,r,p,l,e⟩:=h
 exact (right_any r (small_mono' p) (by omega)).mono fun _ _ k=>⟨by
   rcases k.1 with ⟨_,h⟩ | ⟨h,_⟩
   · exact h
   · exact absurd p h,k.2⟩
def RetS (W : World) (n : Nat) (e : Ending) (w' : World) : Prop:=∃ A k c,e = .returned (.tuple #[.slice A k c,.bool true]) ∧ Rr w' (.slice A k c) n ∧ Below W.heap.size W w'
theorem val_sub {W : World} {v1 v2 : Value} {n1 n2 N : Nat} (h1 : Rd W v1 n1) (h2 : Rd W v2 n2) (hle : n2 ≤ n1) (hn : n1 < 1000000000 ^ N) (hN : N ≤ 4000) :
   Calls Tryz.prog 150 #[v1,v2] W (RetS W (n1 - n2)):=by
 obtain ⟨A1,c1,xs,rfl,r1,p1,l1,e1⟩:=h1
 obtain ⟨A2,c2,ys,rfl,r2,p2,l2,e2⟩:=h2
 have:=sub_yes (c1:=c1) (c2:=c2) r1 r2 p1 p2 (by omega) (by omega) (by rw [e1,e2]; exact hle)
 rw [e1,e2] at this
 refine this.mono fun _ _ ⟨v,he,hi,hb⟩=>?_
 have hr:=fe hi (Nat.lt_of_le_of_lt (Nat.sub_le _ _) hn) hN
 obtain ⟨A,k,c,rfl⟩:=hr.shape
 exact ⟨A,k,c,he,hr,hb⟩
theorem val_sub_no {W : World} {v1 v2 : Value} {n1 n2 : Nat} (h1 : Rd W v1 n1) (h2 : Rd W v2 n2) (hlt : n1 < n2) :
   Calls Tryz.prog 150 #[v1,v2] W fun e w'=>e = .returned (.tuple #[.slice none 0 0,.bool false]) ∧ Below W.heap.size W w':=by
 obtain ⟨A1,c1,xs,rfl,r1,p1,l1,e1⟩:=h1
 obtain ⟨A2,c2,ys,rfl,r2,p2,l2,e2⟩:=h2
 exact sub_no (c1:=c1) (c2:=c2) r1 r2 p1 p2 (by omega) (by omega) (by rw [e1,e2]; exact hlt)
def RetD (W : World) (q r : Nat) (e : Ending) (w' : World) : Prop:=∃ A k c B j d,e = .returned (.tuple #[.slice A k c,.slice B j d,.bool true]) ∧ Rr w' (.slice A k c) q ∧ Rr w' (.slice B j d) r ∧ Below W.heap.size W w'
theorem val_div {W : World} {v1 v2 : Value} {n1 n2 N : Nat} (h1 : Rd W v1 n1) (h2 : Rd W v2 n2) (h0 : 0 < n2) (hn : n1 < 1000000000 ^ N) (hN : N ≤ 4000) :
   Calls Tryz.prog 155 #[v1,v2] W (RetD W (n1 / n2) (n1 % n2)):=by
 obtain ⟨A1,c1,xs,rfl,r1,p1,l1,e1⟩:=h1
 obtain ⟨A2,c2,ys,rfl,r2,p2,l2,e2⟩:=h2
 have:=divMod_all (c1:=c1) (c2:=c2) r1 r2 p1 p2 (by omega) (by omega) (by rw [e2]; exact h0)
 rw [e1,e2] at this
 refine this.mono fun _ _ ⟨v,u,he,hv,hu,hb⟩=>?_
 have hr:=fe hv (Nat.lt_of_le_of_lt (Nat.div_le_self _ _) hn) hN
 have hs:=fe hu (Nat.lt_of_le_of_lt (Nat.mod_le _ _) hn) hN
 obtain ⟨A,k,c,rfl⟩:=hr.shape
 obtain ⟨B,j,d,rfl⟩:=hs.shape
 exact ⟨A,k,c,B,j,d,he,hr,hs,hb⟩
theorem rr_nil (W : World) : Rr W (.slice none 0 0) 0:=⟨none,0,[],rfl,Row.nil _ _,iy,by simp,rfl⟩
def RetSB (W : World) (n : Nat) (b : Bool) (e : Ending) (w' : World) : Prop:=∃ A k c,e = .returned (.tuple #[.slice A k c,.bool b]) ∧ Rr w' (.slice A k c) n ∧ Below W.heap.size W w'
def Num (W : World) (v : Value) (n : Nat) (b : Bool) : Prop:=∃ A k c,v = .agg #[.slice A k c,.bool b] ∧ Rr W (.slice A k c) n ∧ (n = 0 → b = false)
def Int_ (W : World) (v : Value) (n : Nat) (b : Bool) : Prop:=∃ A k c,v = .agg #[.bool b,.slice A k c] ∧ Rr W (.slice A k c) n ∧ (n = 0 → b = false)
theorem Num.below {W w' : World} {v : Value} {n : Nat} {b : Bool} (h : Num W v n b) (hb : Below W.heap.size W w') : Num w' v n b:=by
 obtain ⟨A,k,c,h1,h2,h3⟩:=h
 exact ⟨A,k,c,h1,h2.below hb,h3⟩
theorem Int_.below {W w' : World} {v : Value} {n : Nat} {b : Bool} (h : Int_ W v n b) (hb : Below W.heap.size W w') : Int_ w' v n b:=by
 obtain ⟨A,k,c,h1,h2,h3⟩:=h
 exact ⟨A,k,c,h1,h2.below hb,h3⟩
theorem rr_len {W : World} {A : Option Addr} {k c n : Nat} (h : Rr W (.slice A k c) n) : (k = 0 ↔ n = 0) ∧ k ≤ 4000:=by
 obtain ⟨A',c',xs,e,_,hr,hl,hv⟩:=h
 injection e with _ e2 _
 subst e2
 refine ⟨⟨fun h=>?_,fun h=>?_⟩,hl⟩
 · rw [List.eq_nil_of_length_eq_zero h] at hv; rw [← hv]; rfl
 · rw [right_zero hr (by rw [hv,h])]; rfl
theorem sizeNone_any (w : World) (A : Option Addr) (n c : Nat) :
   Calls Tryz.prog 116 #[.slice A n c] w fun e w'=>e = .returned (.bool ((n : Int) == 0)) ∧ w = w':=by
 go_enter Tryz.func116,Tryz.ntmps116
 go_wp2
 go_ret
 exact ⟨rfl,rfl⟩
def RetNumB2 (w : World) (n : Nat) (b : Bool) (e : Ending) (w' : World) : Prop:=∃ A k c,e = .returned (.agg #[.slice A k c,.bool b]) ∧ Rr w' (.slice A k c) n ∧ (n = 0 → b = false) ∧ Below w.heap.size w w'
def RetInt (w : World) (n : Nat) (b : Bool) (e : Ending) (w' : World) : Prop:=∃ A k c,e = .returned (.agg #[.bool b,.slice A k c]) ∧ Rr w' (.slice A k c) n ∧ (n = 0 → b = false) ∧ Below w.heap.size w w'
theorem signed_any {w : World} {A : Option Addr} {k c n : Nat} (b : Bool) (h : Rr w (.slice A k c) n) :
   Calls Tryz.prog 102 #[.slice A k c,.bool b] w (RetNumB2 w n (b && decide (n ≠ 0))):=by
 obtain ⟨hk,_⟩:=rr_len h
 have HH:=Lib.hid h
 cases b
 · clear h hk
   go_enter Tryz.func102,Tryz.ntmps102
   go_wp2_with (go_at_call 116; refine (sizeNone_any _ _ _ _).mono ?_; rintro e w' ⟨rfl,rfl⟩)
   refine bodyPost_ret (v:=.agg #[.slice A k c,.bool false]) (by simp [results,Tryz.results102,go_sem]) rfl ?_; exact ⟨A,k,c,rfl,HH.out.alloc _,fun _=>rfl,(Below.refl _ _).alloc (Nat.le_refl _) _⟩
 · by_cases hn : n = 0
   · have hk0 : ((k : Int) == 0) = true:=by rw [hk.2 hn]; rfl
     have HN:=Lib.hid hn; clear h hk hn
     go_enter Tryz.func102,Tryz.ntmps102
     go_wp2_with (go_at_call 116; refine (sizeNone_any _ _ _ _).mono ?_; rintro e w' ⟨rfl,rfl⟩)
     refine bodyPost_ret (v:=.agg #[.slice A k c,.bool false]) (by simp [results,Tryz.results102,go_sem]) rfl ?_; rw [decide_eq_false (fun h=>h HN.out)]; exact ⟨A,k,c,rfl,HH.out.alloc _,fun _=>rfl,(Below.refl _ _).alloc (Nat.le_refl _) _⟩
   · have hk0 : ((k : Int) == 0) = false:=by
       rw [beq_eq_false_iff_ne]; intro h1; exact hn (hk.1 (by omega))
     have HN:=Lib.hid hn; clear h hk hn
     go_enter Tryz.func102,Tryz.ntmps102
     go_wp2_with (go_at_call 116; refine (sizeNone_any _ _ _ _).mono ?_; rintro e w' ⟨rfl,rfl⟩)
     refine bodyPost_ret (v:=.agg #[.slice A k c,.bool true]) (by simp [results,Tryz.results102,go_sem]) rfl ?_; rw [decide_eq_true (show n ≠ 0 from HN.out)]; exact ⟨A,k,c,rfl,HH.out.alloc _,fun h=>absurd h HN.out,(Below.refl _ _).alloc (Nat.le_refl _) _⟩
theorem told_any {w : World} {A : Option Addr} {k c n : Nat} {b : Bool} (h : Rr w (.slice A k c) n) (hb : n = 0 → b = false) :
   Calls Tryz.prog 92 #[.agg #[.slice A k c,.bool b]] w (RetInt w n b):=by
 have HH:=Lib.hid h
 have HB:=Lib.hid hb
 clear h hb
 go_enter Tryz.func92,Tryz.ntmps92
 go_wp2
 refine bodyPost_ret (v:=.agg #[.bool b,.slice A k c]) (by simp [results,Tryz.results92,go_sem]) rfl ?_
 exact ⟨A,k,c,rfl,(HH.out.alloc _).alloc _,HB.out,bal (bal (Below.refl _ _) _) _⟩
theorem Row.set_not {w : World} {A : Option Addr} {xs : List Nat} {p : Addr} {u v : Value} (h : Row w A (u32s xs)) (hc : w.cell? p = some u) (hu : ∀ d : Nat,u ≠ .int .u32 (d : Int)) : Row (w.setCell p v) A (u32s xs):=by
 intro j z hz
 obtain ⟨ad,e,hcell⟩:=h j z hz
 refine ⟨ad,e,?_⟩
 rw [World.cell?_setCell_other]
 · exact hcell
 · intro heq; rw [heq] at hc; rw [hc] at hcell; injection hcell with hcell; obtain ⟨d,_,hd⟩:=List.mem_map.1 (List.mem_of_getElem? hz); exact hu d (by rw [hcell,← hd])
theorem Rr.set_not {w : World} {x : Value} {n : Nat} {p : Addr} {u v : Value} (h : Rr w x n) (hc : w.cell? p = some u) (hu : ∀ d : Nat,u ≠ .int .u32 (d : Int)) : Rr (w.setCell p v) x n:=by
 obtain ⟨A,c,xs,h1,h2,h3⟩:=h
 exact ⟨A,c,xs,h1,h2.set_not hc hu,h3⟩
theorem bk {w : World} {g : Nat} {a b a' b' x : Value} {t : TypeId} {n : Nat} (h : w.heap[g]? = some (.cells #[a,b] t (0,0))) (ha : ∀ d : Nat,a ≠ .int .u32 (d : Int)) (hb : ∀ d : Nat,b ≠ .int .u32 (d : Int)) (hx : Rr w x n) :
   ((w.setCell ⟨g,0,none⟩ a').setCell ⟨g,1,none⟩ b').cell? ⟨g,0,none⟩ = some a' ∧ ((w.setCell ⟨g,0,none⟩ a').setCell ⟨g,1,none⟩ b').cell? ⟨g,1,none⟩ = some b' ∧ Rr ((w.setCell ⟨g,0,none⟩ a').setCell ⟨g,1,none⟩ b') x n:=by
 obtain ⟨h0,h1,_,_⟩:=cell_of_two h
 have h1' : (w.setCell ⟨g,0,none⟩ a').cell? ⟨g,1,none⟩ = some b:=(World.cell?_setCell_other _ _ _ _ (by simp)).trans h1
 exact ⟨(World.cell?_setCell_other _ _ _ _ (by simp)).trans (World.cell?_setCell_same _ _ _ h0),World.cell?_setCell_same _ _ _ h1',(hx.set_not h0 ha).set_not h1' hb⟩
def sgn (n : Nat) (b : Bool) : Bool:=b && decide (n ≠ 0)
theorem numOf_any {w : World} {A : Option Addr} {k c n N : Nat} (b : Bool) (h : Rd w (.slice A k c) n) (hn : n < 1000000000 ^ N) (hN : N ≤ 4000) :
   Calls Tryz.prog 91 #[.agg #[.bool b,.slice A k c]] w (RetNumB2 w n (sgn n b)):=by
 have htr:=fun (W : World) (hW : Below w.heap.size w W)=>val_trim (h.below hW) hn hN
 have HTR:=Lib.hid htr
 clear htr h hn
 go_enter Tryz.func91,Tryz.ntmps91
 go_wp2_with fail
 obtain ⟨W,hW⟩ : ∃ W,W = (w.alloc (Obj.cells #[Value.bool b,Value.slice A k c] 24)).alloc (Obj.cells #[Value.slice none 0 0,Value.bool false] 91):=⟨_,rfl⟩
 have bW : Below w.heap.size w W:=by rw [hW]; exact bal (bal (Below.refl _ _) _) _
 have hk1 : W.heap[w.heap.size]? = some (Obj.cells #[Value.bool b,Value.slice A k c] 24):=by
   rw [hW]; exact ck ((Below.refl _ _).alloc (Nat.le_refl _) _)
 have hk2 : W.heap[w.heap.size + 1]? = some (Obj.cells #[Value.slice none 0 0,Value.bool false] 91):=by rw [hW]; exact new_at (by simp)
 have hsW : W.heap.size = w.heap.size + 2:=by rw [hW]; simp
 rw [← hW]
 clear hW
 have hlt1 : w.heap.size < W.heap.size:=by omega
 have hlt2 : w.heap.size + 1 < W.heap.size:=by omega
 obtain ⟨q1,q2,q3,q4⟩:=cell_of_two hk1
 have K2:=Lib.hid hk2
 have K1:=Lib.hid hk1
 clear hk1 hk2 hsW
 go_region_with (first
   | (go_at_call 126; refine (HTR.out _ (by first | exact bW.drew | exact bW)).mono ?_; rintro e w1 ⟨A1,k1,c1,rfl,hr1,hb1⟩; have j1:=(cell_of_two ((hb1.block w.heap.size hlt1).trans K1.out)).1)
   | (go_at_call 102; refine (signed_any b hr1).mono ?_; rintro e w2 ⟨A2,k2,c2,rfl,hr2,hz2,hb2⟩; have hs1 : W.heap.size ≤ w1.heap.size:=hb1.size; have k2w:=(hb2.block (w.heap.size + 1) (Nat.lt_of_lt_of_le hlt2 hs1)).trans ((hb1.block (w.heap.size + 1) hlt2).trans K2.out); obtain ⟨m1,m2,m3,m4⟩:=cell_of_two k2w; have K2W:=Lib.hid k2w; clear k2w))
 all_goals
   obtain ⟨n1,n2,n3⟩:=bk (a':=.slice A2 k2 c2) (b':=.bool (b && !decide (n = 0))) K2W.out (fun d h=>by cases h) (fun d h=>by cases h) hr2; have hbA : Below w.heap.size w w1:=bW.drew.trans (hb1.mono (Nat.le_of_lt hlt1)); have hbB : Below w.heap.size w w2:=bstep hbA hb2; clear hb1 hb2 m1 m2 m3 m4 hr2
   go_wp2
   refine bodyPost_ret (v:=.agg #[.slice A2 k2 c2,.bool (b && !decide (n = 0))]) (by simp [results,Tryz.results91,go_sem,n1,n2]) rfl ?_; refine ⟨A2,k2,c2,by simp [sgn],n3,by simpa [sgn] using hz2,(hbB.setCell (Nat.le_succ _) _).setCell (Nat.le_succ _) _⟩
theorem signed_s {w : World} {A : Option Addr} {k c n : Nat} (b : Bool) (h : Rr w (.slice A k c) n) : Calls Tryz.prog 102 #[.slice A k c,.bool b] w (RetNumB2 w n (sgn n b)):=signed_any b h
theorem Stored.rr {w w' : World} {g : Nat} {x : Value} {n : Nat} (h : Rr w x n) (hs : Stored g w w') : Rr w' x n:=by
 obtain ⟨A,c,xs,h1,h2,h3⟩:=h
 refine ⟨A,c,xs,h1,fun j v hv=>?_,h3⟩
 obtain ⟨ad,e,hc⟩:=h2 j v hv
 refine ⟨ad,e,?_⟩
 have hne : (ad.add j).block ≠ g:=fun hg=>by
   obtain ⟨cs,_,⟨⟨T,h4⟩,h5⟩,_⟩:=hs.same; obtain ⟨d,_,hd⟩:=List.mem_map.1 (List.mem_of_getElem? hv); simp only [World.cell?,hg,h4] at hc; split at hc
   · cases hc
   · exact h5 v (Array.mem_of_getElem? hc) d hd.symm
 rw [World.cell?_of_block (hs.other _ hne)]
 exact hc
theorem Num.stored {w w' : World} {g : Nat} {x : Value} {n : Nat} {b : Bool} (h : Num w x n b) (hs : Stored g w w') : Num w' x n b:=by
 obtain ⟨A,k,c,h1,h2,h3⟩:=h
 exact ⟨A,k,c,h1,hs.rr h2,h3⟩
theorem Int_.stored {w w' : World} {g : Nat} {x : Value} {n : Nat} {b : Bool} (h : Int_ w x n b) (hs : Stored g w w') : Int_ w' x n b:=by
 obtain ⟨A,k,c,h1,h2,h3⟩:=h
 exact ⟨A,k,c,h1,hs.rr h2,h3⟩
theorem Reg.rr {B : Nat} {W0 w : World} {G : List Nat} (h : Reg B W0 G w) {v : Value} {n : Nat} (hr : Rr W0 v n) : Rr w v n:=by
 obtain ⟨A,c,xs,h1,h2,h3⟩:=hr
 refine ⟨A,c,xs,h1,fun j u hu=>?_,h3⟩
 obtain ⟨ad,e,hc⟩:=h2 j u hu
 refine ⟨ad,e,?_⟩
 have hG : (ad.add j).block ∉ G:=fun hg=>by
   obtain ⟨cs0,_,⟨⟨T,h4⟩,h5⟩,_⟩:=h.held _ hg; obtain ⟨d,_,hd⟩:=List.mem_map.1 (List.mem_of_getElem? hu); simp only [World.cell?,h4] at hc; split at hc
   · cases hc
   · exact h5 u (Array.mem_of_getElem? hc) d hd.symm
 rw [World.cell?_of_block (h.old _ (cell_lt hc) hG)]
 exact hc
def kRr (n : Nat) : PK:=.p (fun v w=>∃ A k c,v = .slice A k c ∧ Rr w (.slice A k c) n) (fun _ _ _ ⟨A,k,c,e,h⟩ hb=>⟨A,k,c,e,h.below hb⟩) (fun _ _ _ _ ⟨A,k,c,e,h⟩ hs=>⟨A,k,c,e,hs.rr h⟩)
def kNum (n : Nat) (b : Bool) : PK:=.p (fun v w=>Num w v n b) (fun _ _ _ h hb=>h.below hb) (fun _ _ _ _ h hs=>h.stored hs)
def kInt (n : Nat) (b : Bool) : PK:=.p (fun v w=>Int_ w v n b) (fun _ _ _ h hb=>h.below hb) (fun _ _ _ _ h hs=>h.stored hs)
def kNum2 (n : Nat) (b : Bool) (m : Nat) (c : Bool) : PK:=.p (fun v w=>∃ x y,v = .tuple #[x,y] ∧ Num w x n b ∧ Num w y m c) (fun _ _ _ ⟨x,y,e,h,h'⟩ hb=>⟨x,y,e,h.below hb,h'.below hb⟩) (fun _ _ _ _ ⟨x,y,e,h,h'⟩ hs=>⟨x,y,e,h.stored hs,h'.stored hs⟩)
def isNum (n : Nat) (b : Bool) (cs : Array Value) (w : World) : Prop:=∃ A k c,cs = #[.slice A k c,.bool b] ∧ Rr w (.slice A k c) n ∧ (n = 0 → b = false)
def isInt (n : Nat) (b : Bool) (cs : Array Value) (w : World) : Prop:=∃ A k c,cs = #[.bool b,.slice A k c] ∧ Rr w (.slice A k c) n ∧ (n = 0 → b = false)
def kCellNum (g n : Nat) (b : Bool) : PK:=.cell g (isNum n b) (fun _ _ _ ⟨A,k,c,h1,h2,h3⟩ hb=>⟨A,k,c,h1,h2.below hb,h3⟩) (fun _ _ _ _ ⟨A,k,c,h1,h2,h3⟩ hs=>⟨A,k,c,h1,hs.rr h2,h3⟩)
def kCellInt (g n : Nat) (b : Bool) : PK:=.cell g (isInt n b) (fun _ _ _ ⟨A,k,c,h1,h2,h3⟩ hb=>⟨A,k,c,h1,h2.below hb,h3⟩) (fun _ _ _ _ ⟨A,k,c,h1,h2,h3⟩ hs=>⟨A,k,c,h1,hs.rr h2,h3⟩)
def kPutNum (e n : Nat) (b : Bool) : PK:=.put e (isNum n b) (fun _ _ _ ⟨A,k,c,h1,h2,h3⟩ hb=>⟨A,k,c,h1,h2.below hb,h3⟩) (fun _ _ _ _ ⟨A,k,c,h1,h2,h3⟩ hs=>⟨A,k,c,h1,hs.rr h2,h3⟩)
theorem joined_any {w : World} {A1 A2 : Option Addr} {k1 c1 k2 c2 n1 n2 N : Nat} (h1 : Rd w (.slice A1 k1 c1) n1) (h2 : Rd w (.slice A2 k2 c2) n2) (hn : n1 + n2 < 1000000000 ^ N) (hN : N ≤ 4000) :
   Calls Tryz.prog 130 #[.slice A1 k1 c1,.slice A2 k2 c2] w (RetR w (n1 + n2)):=by
 have ha:=val_add2 h1 h2 hn hN
 have HA:=Lib.hid ha
 clear ha h1 h2 hn
 go_enter Tryz.func130,Tryz.ntmps130
 go_wp2_with fail
 refine HA.out.mono ?_
 rintro e w1 ⟨A,k,c,rfl,hr,hb⟩
 have hb1:=bstep (bal (Below.refl w.heap.size w) _) hb
 clear hb
 go_wp2
 go_ret
 exact ⟨A,k,c,rfl,hr,hb1⟩
def gapOf (a b : Nat) : Nat:=if b ≤ a then a - b else b - a
theorem kn {w : World} {A1 A2 : Option Addr} {k1 c1 k2 c2 n1 n2 N : Nat} (h1 : Rd w (.slice A1 k1 c1) n1) (h2 : Rd w (.slice A2 k2 c2) n2) (hn1 : n1 < 1000000000 ^ N) (hn2 : n2 < 1000000000 ^ N) (hN : N ≤ 4000) :
   Calls Tryz.prog 131 #[.slice A1 k1 c1,.slice A2 k2 c2] w fun e w'=>∃ A k c,e = .returned (.tuple #[.slice A k c,.bool (decide (n1 < n2))]) ∧ Rr w' (.slice A k c) (gapOf n1 n2) ∧ Below w.heap.size w w':=by
 by_cases h : n2 ≤ n1
 · have hs:=val_sub h1 h2 h hn1 hN; have hg : gapOf n1 n2 = n1 - n2:=if_pos h; have hd : decide (n1 < n2) = false:=decide_eq_false (by omega); rw [hg,hd]; have HS:=Lib.hid hs; clear hs h1 h2 hn1 hn2 h hg hd
   go_enter Tryz.func131,Tryz.ntmps131
   go_wp2_with fail
   refine HS.out.mono ?_; rintro e w1 ⟨A,k,c,rfl,hr,hb⟩
   go_wp2
   go_ret2
   exact ⟨A,k,c,rfl,hr,hb⟩
 · have hs:=val_sub_no h1 h2 (by omega); have hs2:=fun (W : World) (hW : Below w.heap.size w W)=>val_sub (h2.below hW) (h1.below hW) (by omega) hn2 hN; have hg : gapOf n1 n2 = n2 - n1:=if_neg h; have hd : decide (n1 < n2) = true:=decide_eq_true (by omega); rw [hg,hd]; have HS:=Lib.hid hs; have HS2:=Lib.hid hs2; clear hs hs2 h1 h2 hn1 hn2 h hg hd
   go_enter Tryz.func131,Tryz.ntmps131
   go_wp2_with fail
   refine HS.out.mono ?_; rintro e w1 ⟨rfl,hb⟩
   go_wp2_with fail
   refine (HS2.out _ hb).mono ?_; rintro e w2 ⟨A,k,c,rfl,hr,hb2⟩; have hb3:=bstep hb hb2; clear hb hb2
   go_wp2
   go_ret2
   exact ⟨A,k,c,rfl,hr,hb3⟩
theorem split_any {w : World} {A1 A2 : Option Addr} {k1 c1 k2 c2 n1 n2 N : Nat} (h1 : Rd w (.slice A1 k1 c1) n1) (h2 : Rd w (.slice A2 k2 c2) n2) (h0 : 0 < n2) (hn : n1 < 1000000000 ^ N) (hN : N ≤ 4000) :
   Calls Tryz.prog 138 #[.slice A1 k1 c1,.slice A2 k2 c2] w fun e w'=>∃ A k c B j d,e = .returned (.tuple #[.slice A k c,.slice B j d]) ∧ Rr w' (.slice A k c) (n1 / n2) ∧ Rr w' (.slice B j d) (n1 % n2) ∧ Below w.heap.size w w':=by
 have hd:=val_div h1 h2 h0 hn hN
 have HD:=Lib.hid hd
 clear hd h1 h2 h0 hn
 go_enter Tryz.func138,Tryz.ntmps138
 go_wp2_with fail
 refine HD.out.mono ?_
 rintro e w1 ⟨A,k,c,B,j,d,rfl,hr,hs,hb⟩
 go_wp2
 go_ret2
 exact ⟨A,k,c,B,j,d,rfl,hr,hs,hb⟩
noncomputable def valOf (W : World) (v : Value) : Nat:=by
 classical exact if h : ∃ n,Rr W v n then h.choose else 0
theorem rr_unique {W : World} {v : Value} {n m : Nat} (h1 : Rr W v n) (h2 : Rr W v m) : n = m:=by
 obtain ⟨A,c,xs,e1,r1,_,_,v1⟩:=h1
 obtain ⟨A',c',ys,e2,r2,_,_,v2⟩:=h2
 rw [e1] at e2
 injection e2 with e2 e3
 subst e2
 have : xs = ys:=List.ext_getElem e3 fun j hj hj'=>by
   obtain ⟨ad,ha,hc⟩:=r1.u32 hj; obtain ⟨ad',ha',hc'⟩:=r2.u32 hj'; rw [ha] at ha'; injection ha' with ha'; subst ha'; rw [hc] at hc'; injection hc' with hc'; injection hc' with _ hc'; have:=Int.ofNat_inj.1 hc'
   simpa [List.getD,hj,hj'] using this
 rw [← v1,← v2,this]
theorem kd {W : World} {v : Value} {n : Nat} (h : Rr W v n) : valOf W v = n:=by
 unfold valOf
 have hex : ∃ n,Rr W v n:=⟨n,h⟩
 rw [dif_pos hex]
 exact rr_unique hex.choose_spec h
theorem common_any {w : World} {A1 A2 : Option Addr} {k1 c1 k2 c2 n1 n2 N : Nat} (h1 : Rr w (.slice A1 k1 c1) n1) (h2 : Rr w (.slice A2 k2 c2) n2) (hn1 : n1 < 1000000000 ^ N) (hn2 : n2 < 1000000000 ^ N) (hN : N ≤ 4000) :
   Calls Tryz.prog 108 #[.slice A1 k1 c1,.slice A2 k2 c2] w (RetR w (Nat.gcd n1 n2)):=by
 have HB:=Lib.hid (show n1 < 1000000000 ^ N ∧ n2 < 1000000000 ^ N ∧ N ≤ 4000 from ⟨hn1,hn2,hN⟩)
 have H1:=Lib.hid h1
 have H2:=Lib.hid h2
 clear hn1 hn2 hN h1 h2
 go_enter Tryz.func108,Tryz.ntmps108
 go_wp2_with fail
 go_loopw [0,1] (fun sv tv wr=>∃ (A : Option Addr) (k c : Nat) (B : Option Addr) (j d a b : Nat),sv = .slice A k c ∧ tv = .slice B j d ∧ Hid (Rr wr (.slice A k c) a) ∧ Hid (Rr wr (.slice B j d) b) ∧ Hid (Nat.gcd a b = Nat.gcd n1 n2 ∧ a < 1000000000 ^ N ∧ b < 1000000000 ^ N) ∧ Below w.heap.size w wr) (fun _ tv wr=>valOf wr tv)
 case atStart=>exact ⟨_,_,_,_,_,_,n1,n2,rfl,rfl,H1,H2,⟨rfl,HB.out.1,HB.out.2.1⟩,Below.refl _ _⟩
 case round =>
   obtain ⟨A,k,c,B,j,d,a,b,rfl,rfl,HA,HBB,HG,hb⟩:=hrel; have hj:=(rr_len HBB.out).1
   by_cases h0 : b = 0
   · have hk0 : ((j : Int) == 0) = true:=by rw [hj.2 h0]; rfl
     have hG : a = Nat.gcd n1 n2:=by rw [← HG.out.1,h0,Nat.gcd_zero_right]
     have HGG:=Lib.hid hG; clear hj h0 hG
     go_wp2_with (go_at_call 116; refine (sizeNone_any _ _ _ _).mono ?_; rintro e w' ⟨rfl,rfl⟩)
     go_ret
     exact ⟨A,k,c,rfl,HGG.out ▸ HA.out,hb⟩
   · have hk0 : ((j : Int) == 0) = false:=by
       rw [beq_eq_false_iff_ne]; intro h; exact h0 (hj.1 (by omega))
     have hsp:=split_any HA.out.rd HBB.out.rd (by omega) HG.out.2.1 HB.out.2.2; have HSP:=Lib.hid hsp; have H0:=Lib.hid h0; clear hj h0 hsp
     go_wp2_with (first
       | (go_at_call 116; refine (sizeNone_any _ _ _ _).mono ?_; rintro e w' ⟨rfl,rfl⟩)
       | (go_at_call 138; refine HSP.out.mono ?_; rintro e w2 ⟨Aq,kq,cq,Ar,kr,cr,rfl,hq,hr,hb2⟩; have hBB:=HBB.out.below hb2; have HR:=Lib.hid hr; have HBB2:=Lib.hid hBB; have hb3:=bstep hb hb2; clear hq hr hb2 hBB hb))
     go_roundw
     case rel =>
       refine ⟨_,_,_,_,_,_,b,a % b,rfl,rfl,HBB2,HR,⟨?_,HG.out.2.2,?_⟩,hb3⟩
       · rw [← HG.out.1,Nat.gcd_comm a b,Nat.gcd_rec b a,Nat.gcd_comm]
       · exact Nat.lt_of_lt_of_le (Nat.mod_lt _ (Nat.pos_of_ne_zero H0.out)) (Nat.le_of_lt HG.out.2.2)
     case measure =>
       rw [kd HBB.out,kd HR.out]; exact Nat.mod_lt _ (Nat.pos_of_ne_zero H0.out)
def Ints (W : World) (g : Nat) (L : List (Nat × Bool)) : Prop:=∀ j p,L[j]? = some p → ∃ A k c,W.cell? ⟨g,j * 2,none⟩ = some (.bool p.2) ∧ W.cell? ⟨g,j * 2 + 1,none⟩ = some (.slice A k c) ∧ Rd W (.slice A k c) p.1
theorem Ints.below {W w' : World} {g : Nat} {L : List (Nat × Bool)} (h : Ints W g L) (hb : Below W.heap.size W w') : Ints w' g L:=fun j p hp=>by
 obtain ⟨A,k,c,h1,h2,h3⟩:=h j p hp
 exact ⟨A,k,c,(hb.cell (cell_lt h1)).trans h1,(hb.cell (cell_lt h2)).trans h2,h3.below hb⟩
theorem gcdStep {w : World} {g : Nat} {A1 A2 : Option Addr} {k1 c1 k2 c2 n1 n2 N : Nat} {b1 : Bool} {T : TypeId} (h1 : Rr w (.slice A1 k1 c1) n1) (hg : w.heap[g]? = some (.cells #[.slice A2 k2 c2] T (0,0))) (h2 : Rr w (.slice A2 k2 c2) n2) (hn1 : n1 < 1000000000 ^ N) (hn2 : n2 < 1000000000 ^ N) (hN : N ≤ 4000) :
   Calls Tryz.prog 107 #[.agg #[.slice A1 k1 c1,.bool b1],.pointer (some ⟨g,0,none⟩)] w fun e w'=>(∃ v,e = .returned v) ∧ ∃ A k c w2,Rr w2 (.slice A k c) (Nat.gcd n1 n2) ∧ Below w.heap.size w w2 ∧ w' = w2.setCell ⟨g,0,none⟩ (.slice A k c):=by
 have hcm:=fun (W : World) (hW : Below w.heap.size w W)=>common_any (h1.below hW) (h2.below hW) hn1 hn2 hN
 have hlt:=lt_block hg
 have hc:=cell_of_one hg
 have hf:=free_of_one hg
 have HG:=Lib.hid hg
 have HCM:=Lib.hid hcm
 clear hcm h1 h2 hg hn1 hn2 hN
 go_enter Tryz.func107,Tryz.ntmps107
 go_wp2_with fail
 refine (HCM.out _ (bal (Below.refl _ _) _)).mono ?_
 rintro e w2 ⟨A,k,c,rfl,hr,hb⟩
 have hb:=bstep (bal (Below.refl _ _) _) hb
 have hg2:=(hb.block g hlt).trans HG.out
 have hc2:=cell_of_one hg2
 have hf2:=free_of_one hg2
 clear hg2
 go_wp2
 go_end0
 exact ⟨⟨_,rfl⟩,A,k,c,w2,hr,hb,rfl⟩
def gcds (L : List (Nat × Bool)) (n : Nat) : Nat:=L.foldl (fun d p=>Nat.gcd p.1 d) n
theorem gcds_lt {L : List (Nat × Bool)} {n M : Nat} (hn : n < M) (hL : ∀ p ∈ L,p.1 < M) : gcds L n < M:=by
 induction L generalizing n with
 | nil=>exact hn
 | cons p L ih =>
   refine ih ?_ fun q hq=>hL q (List.mem_cons_of_mem _ hq)
   show Nat.gcd p.1 n < M
   rcases Nat.eq_zero_or_pos p.1 with h | h
   · rw [h,Nat.gcd_zero_left]; exact hn
   · exact Nat.lt_of_le_of_lt (Nat.gcd_le_left _ h) (hL p List.mem_cons_self)
theorem gcds_succ {L : List (Nat × Bool)} {n k : Nat} (hk : k < L.length) : gcds (L.take (k + 1)) n = Nat.gcd L[k].1 (gcds (L.take k) n):=by
 unfold gcds
 rw [List.take_add_one,List.getElem?_eq_getElem hk,Option.toList_some,List.foldl_append]; rfl
theorem each_gcd {w0 w : World} {g g0 n N c0 : Nat} {A : Option Addr} {k c : Nat} {T : TypeId} {L : List (Nat × Bool)} (hL : Ints w0 g0 L) (hb0 : Below w0.heap.size w0 w) (hlt : w0.heap.size ≤ g) (hg : w.heap[g]? = some (.cells #[.slice A k c] T (0,0))) (h : Rr w (.slice A k c) n) (hn : n < 1000000000 ^ N) (hLn : ∀ p ∈ L,p.1 < 1000000000 ^ N) (hN : N ≤ 4000) (hlen : L.length ≤ 100000) :
   Calls Tryz.prog 96 #[.func (.func 107) #[] #[.pointer (some ⟨g,0,none⟩)],.slice (some ⟨g0,0,none⟩) L.length c0] w fun e w'=>(∃ v,e = .returned v) ∧ ∃ A k c,w'.heap[g]? = some (.cells #[.slice A k c] T (0,0)) ∧ Rr w' (.slice A k c) (gcds L n) ∧ Below w0.heap.size w0 w' ∧ w.heap.size ≤ w'.heap.size:=by
 have HL:=Lib.hid hL
 have HB:=Lib.hid (show n < 1000000000 ^ N ∧ (∀ p ∈ L,p.1 < 1000000000 ^ N) ∧ N ≤ 4000 from ⟨hn,hLn,hN⟩)
 have HG:=Lib.hid hg
 have HH:=Lib.hid h
 have HB0:=Lib.hid hb0
 obtain ⟨l,hl⟩ : ∃ l,l = L.length:=⟨_,rfl⟩
 rw [← hl] at hlen ⊢
 have HLL:=Lib.hid hl
 clear hL hn hLn hN hg h hb0 hl
 go_enter Tryz.func96,Tryz.ntmps96
 go_wp2_with fail
 go_loopw [8] (fun i wr=>∃ (k' : Nat) (A' : Option Addr) (j d : Nat),k' ≤ l ∧ i = .int .i64 k' ∧ Hid (wr.heap[g]? = some (.cells #[.slice A' j d] T (0,0))) ∧ Hid (Rr wr (.slice A' j d) (gcds (L.take k') n)) ∧ Hid (Below w0.heap.size w0 wr) ∧ w.heap.size ≤ wr.heap.size) (fun i _=>l - (intOf i).toNat)
 case atStart=>exact ⟨0,_,_,_,Nat.zero_le _,rfl,HG,HH,HB0,Nat.le_refl _⟩
 case round =>
   obtain ⟨k',A',j,d,hk,rfl,HG1,HR1,HB1,hsz⟩:=hrel
   by_cases hlt2 : k' < l
   · have hkL : k' < L.length:=by rw [← HLL.out]; exact hlt2
     obtain ⟨⟨n1,b1⟩,hp⟩ : ∃ p,p = L[k']:=⟨_,rfl⟩
     obtain ⟨B,m,e,hc1,hc2,hrd⟩:=(HL.out.below HB1.out) k' (n1,b1) (by rw [List.getElem?_eq_getElem hkL,hp]); have hc1 : wr.cell? ⟨g0,k' * 2,none⟩ = some (.bool b1):=hc1; have hrd : Rd wr (.slice B m e) n1:=hrd; have HRD:=Lib.hid hrd; have hGS:=gcds_succ (n:=n) hkL; rw [← hp] at hGS; have HGS:=Lib.hid hGS; have HPL:=Lib.hid (hp ▸ List.getElem_mem hkL : (n1,b1) ∈ L); clear hp hrd hGS
     go_wp2_with fail
     refine (numOf_any b1 (HRD.out.below (bal (Below.refl _ _) _)) (HB.out.2.1 _ HPL.out) HB.out.2.2).mono ?_; rintro e w2 ⟨A3,k3,c3,rfl,hr3,_,hb3⟩; have hb30:=bstep (bal (Below.refl _ _) _) hb3; have hgr:=lt_block HG1.out; have hg3:=(hb30.block g hgr).trans HG1.out; have hz3:=hb30.size; have HB3:=Lib.hid (bstep HB1.out hb30); clear hb3; have hlt3:=gcds_lt (L:=L.take k') HB.out.1 fun p hp=>HB.out.2.1 p (List.mem_of_mem_take hp); have hst:=gcdStep (b1:=sgn n1 b1) hr3 hg3 (HR1.out.below hb30) (HB.out.2.1 _ HPL.out) hlt3 HB.out.2.2; have HST:=Lib.hid hst; have HG3:=Lib.hid hg3; clear hst hg3 hr3 hlt3 hb30
     go_wp2_with fail
     refine HST.out.mono ?_; rintro e w3 ⟨⟨v,rfl⟩,A4,k4,c4,w4,hr4,hb4,rfl⟩; have hg4:=(hb4.block g (by omega)).trans HG3.out; have HG4:=Lib.hid (one_setCell (u:=.slice A4 k4 c4) hg4); have HR4:=Lib.hid (hr4.set_not (v:=.slice A4 k4 c4) (cell_of_one hg4) (fun d h=>by cases h)); have HB4:=Lib.hid ((bstep HB3.out hb4).setCell (p:=⟨g,0,none⟩) hlt (.slice A4 k4 c4)); have hz4:=hb4.size; have hz5 : w.heap.size ≤ (w4.setCell ⟨g,0,none⟩ (.slice A4 k4 c4)).heap.size:=by rw [World.size_setCell]; omega
     clear hb4 hg4 hr4 HST HG3
     go_wp2
     go_roundw
     case rel=>exact ⟨k' + 1,_,_,_,by omega,by go_num,HG4,by show Rr _ _ _; rw [HGS.out]; exact HR4.out,HB4,hz5⟩
     case measure=>simp [intOf]; omega
   · have hk' : k' = l:=by omega
     have HK:=Lib.hid hk'; clear hk'
     go_wp2
     go_end0
     exact ⟨⟨_,rfl⟩,A',j,d,HG1.out,by rw [← List.take_length (l:=L),← HLL.out,← HK.out]; exact HR1.out,HB1.out,hsz⟩
theorem gcd_any {w : World} {g0 c0 N : Nat} {L : List (Nat × Bool)} (hL : Ints w g0 L) (hLn : ∀ p ∈ L,p.1 < 1000000000 ^ N) (hN : N ≤ 4000) (hlen : L.length ≤ 100000) :
   Calls Tryz.prog 51 #[.slice (some ⟨g0,0,none⟩) L.length c0] w (RetInt w (gcds L 0) false):=by
 have hmf : ∀ (fn : Fn) (first cap : Array Value) (w : World),(Instr.makeFunc fn first cap).run Tryz.prog w = .ok (.func fn first cap) w:=fun _ _ _ _=>rfl
 have h0 : 0 < 1000000000 ^ N:=Nat.pow_pos (by decide)
 obtain ⟨w1,hw1⟩ : ∃ w1,w1 = w.alloc (Obj.cells #[Value.bool false,Value.slice none 0 0] 24):=⟨_,rfl⟩
 have b1 : Below w.heap.size w w1:=by rw [hw1]; exact bal (Below.refl _ _) _
 have s1 : w1.heap.size = w.heap.size + 1:=by rw [hw1]; simp
 have K1 : w1.heap[w.heap.size]? = some (Obj.cells #[Value.bool false,Value.slice none 0 0] 24):=by rw [hw1]; exact heap_alloc_new _ _
 have hea:=each_gcd (T:=89) (c0:=c0) (hL.below b1) (bal (Below.refl _ _) (.cells #[.slice none 0 0] 89)) (Nat.le_refl _) (heap_alloc_new _ _) (rr_nil _) h0 hLn hN hlen
 rw [s1] at hea
 obtain ⟨l,hl⟩ : ∃ l,l = L.length:=⟨_,rfl⟩
 rw [← hl] at hea ⊢
 clear hl hlen
 have HEA:=Lib.hid hea
 have HW1:=Lib.hid hw1
 have HK1:=Lib.hid K1
 clear hea hL hLn hN h0 hw1 K1
 go_enter Tryz.func51,Tryz.ntmps51
 go_wp2_with fail
 rw [← HW1.out]
 refine HEA.out.mono ?_
 rintro e w2 ⟨⟨v,rfl⟩,A,k,c,hg,hr,hb,_⟩
 rw [← s1] at hb
 have K2:=(hb.block w.heap.size (by omega)).trans HK1.out
 have hcg:=cell_of_one hg
 have bw2:=b1.trans (hb.mono (by omega))
 have hz:=hb.size
 have HK2:=Lib.hid K2
 clear hb hg HK1 K2
 have hss : sgn (gcds L 0) false = false:=rfl
 have hsg:=signed_s false hr
 rw [hss] at hsg
 have HSG:=Lib.hid hsg
 clear hsg hr hss
 go_wp2_with fail
 refine HSG.out.mono ?_
 rintro e w3 ⟨A3,k3,c3,rfl,h3,z3,hb3⟩
 have HT:=Lib.hid (told_any h3 z3)
 have K3:=(hb3.block w.heap.size (by omega)).trans HK2.out
 have bw3:=bstep bw2 hb3
 have hz3:=hb3.size
 have HK3:=Lib.hid K3
 clear hb3 h3 HSG bw2 K3 HK2
 go_wp2_with fail
 refine HT.out.mono ?_
 rintro e w4 ⟨A4,k4,c4,rfl,h4,z4,hb4⟩
 have K4:=(hb4.block w.heap.size (by omega)).trans HK3.out
 have bw4:=bstep bw3 hb4
 obtain ⟨m1,m2,m3,m4⟩:=cell_of_two K4
 obtain ⟨n1,n2,n3⟩:=bk (a':=.bool false) (b':=.slice A4 k4 c4) K4 (fun d h=>by cases h) (fun d h=>by cases h) h4
 clear hb4 K4
 go_wp2
 refine bodyPost_ret (v:=.agg #[.bool false,.slice A4 k4 c4]) (by simp [results,Tryz.results51,go_sem,n1,n2]) rfl ?_
 exact ⟨A4,k4,c4,rfl,n3,fun _=>rfl,(bw4.setCell (Nat.le_refl _) _).setCell (Nat.le_refl _) _⟩
def ntext (n : Nat) (b : Bool) : ByteArray:=if b = true then ⟨#[45]⟩ ++ dtext n else dtext n
theorem val_text {w : World} {A : Option Addr} {k c n : Nat} (h : Rd w (.slice A k c) n) (htab : Tab w) (hw : 2 ≤ w.heap.size) :
   Calls Tryz.prog 148 #[.slice A k c] w fun e w'=>e = .returned (.string (dtext n)) ∧ Below w.heap.size w w':=by
 obtain ⟨A',c',xs,e,r,d,l,hv⟩:=h
 injection e with e1 e2 e3
 subst e1; subst e2; subst e3
 have:=text_any (c:=c) r d (by omega) htab hw
 rw [hv] at this
 exact this
theorem sizeDec_any {w : World} {A : Option Addr} {k c n : Nat} (h : Rd w (.slice A k c) n) (htab : Tab w) (hw : 2 ≤ w.heap.size) :
   Calls Tryz.prog 128 #[.slice A k c] w fun e w'=>e = .returned (.string (dtext n)) ∧ Below w.heap.size w w':=by
 have ht:=val_text h htab hw
 have HT:=Lib.hid ht
 clear ht htab h
 go_enter Tryz.func128,Tryz.ntmps128
 go_wp2_with fail
 refine HT.out.mono ?_
 rintro e w' ⟨rfl,hb⟩
 go_wp2
 go_ret
 exact ⟨rfl,hb⟩
theorem dtext_short {n N : Nat} (hn : n < 1000000000 ^ N) (hN : N ≤ 4000) : (dtext n).size ≤ 36009:=by
 rw [jl]
 refine Nat.le_trans (decDigits_len (k:=N + 1) (Nat.lt_trans hn ?_) (Nat.succ_pos _)) (by omega)
 exact Nat.pow_lt_pow_right (by decide) (Nat.lt_succ_self _)
theorem numDec_any {w : World} {A : Option Addr} {k c n : Nat} (b : Bool) (h : Rd w (.slice A k c) n) (hs : (dtext n).size ≤ 36009) (htab : Tab w) (hw : 2 ≤ w.heap.size) :
   Calls Tryz.prog 94 #[.agg #[.slice A k c,.bool b]] w fun e w'=>e = .returned (.string (ntext n b)) ∧ Below w.heap.size w w':=by
 have ht:=fun (W : World) (hW : Below w.heap.size w W)=>sizeDec_any (h.below hW) (htab.below hW hw) (Nat.le_trans hw hW.size)
 have HT:=Lib.hid ht
 have HS:=Lib.hid hs
 clear ht htab h hs
 cases b
 · have e1 : ntext n false = dtext n:=rfl; rw [e1]; clear e1
   go_enter Tryz.func94,Tryz.ntmps94
   go_wp2_with fail
   refine (HT.out _ (bal (Below.refl _ _) _)).mono ?_; rintro e w' ⟨rfl,hb⟩; have hb:=bstep (bal (Below.refl w.heap.size w) _) hb
   go_wp2
   go_returns
   exact ⟨rfl,hb⟩
 · have e1 : ntext n true = ⟨#[45]⟩ ++ dtext n:=rfl; rw [e1]; clear e1
   go_enter Tryz.func94,Tryz.ntmps94
   go_wp2_with fail
   refine (HT.out _ (bal (Below.refl _ _) _)).mono ?_; rintro e w' ⟨rfl,hb⟩; have hb:=bstep (bal (Below.refl w.heap.size w) _) hb
   go_wp2
   · exfalso
     rename_i hh
     have:=HS.out; omega
   · go_returns
     exact ⟨rfl,hb⟩
theorem numText_any {w : World} {A : Option Addr} {k c n N : Nat} (b : Bool) (h : Rd w (.slice A k c) n) (hn : n < 1000000000 ^ N) (hN : N ≤ 4000) (htab : Tab w) (hw : 2 ≤ w.heap.size) :
   Calls Tryz.prog 42 #[.agg #[.bool b,.slice A k c]] w fun e w'=>e = .returned (.string (ntext n (sgn n b))) ∧ Below w.heap.size w w':=by
 have hof:=fun (W : World) (hW : Below w.heap.size w W)=>numOf_any b (h.below hW) hn hN
 have hdc:=fun (W : World) (hW : Below w.heap.size w W) (A : Option Addr) (k c : Nat) (h : Rr W (.slice A k c) n)=>numDec_any (sgn n b) h.rd (dtext_short hn hN) (htab.below hW hw) (Nat.le_trans hw hW.size)
 have HOF:=Lib.hid hof
 have HDC:=Lib.hid hdc
 clear hof hdc htab h hn hN
 go_enter Tryz.func42,Tryz.ntmps42
 go_wp2_with fail
 refine (HOF.out _ (bal (Below.refl _ _) _)).mono ?_
 rintro e w1 ⟨A1,k1,c1,rfl,hr,_,hb⟩
 have hb:=bstep (bal (Below.refl w.heap.size w) _) hb
 have HD:=Lib.hid (HDC.out _ hb _ _ _ hr)
 clear hr
 go_wp2_with fail
 refine HD.out.mono ?_
 rintro e w2 ⟨rfl,hb2⟩
 have hb3:=bstep hb hb2
 clear hb hb2
 go_wp2
 go_ret
 exact ⟨rfl,hb3⟩
def divQ (n : Nat) (b : Bool) (m : Nat) (c : Bool) : Nat:=if (b == c) = true ∨ n % m = 0 then n / m else n / m + 1
def divR (n : Nat) (b : Bool) (m : Nat) (c : Bool) : Nat:=if (b == c) = true ∨ n % m = 0 then n % m else m - n % m
def RetNum2 (w : World) (n : Nat) (b : Bool) (m : Nat) (c : Bool) (e : Ending) (w' : World) : Prop:=∃ x y,e = .returned (.tuple #[x,y]) ∧ Num w' x n b ∧ Num w' y m c ∧ Below w.heap.size w w'
theorem divide_num {w : World} {A1 A2 : Option Addr} {k1 c1 k2 c2 n1 n2 N : Nat} (b1 b2 : Bool) (h1 : Rr w (.slice A1 k1 c1) n1) (h2 : Rr w (.slice A2 k2 c2) n2) (h0 : 0 < n2) (hn1 : n1 < 1000000000 ^ N) (hn2 : n2 < 1000000000 ^ N) (hN : N ≤ 3999) :
   Calls Tryz.prog 117 #[.agg #[.slice A1 k1 c1,.bool b1],.agg #[.slice A2 k2 c2,.bool b2]] w (RetNum2 w (divQ n1 b1 n2 b2) (sgn (divQ n1 b1 n2 b2) (b1 != b2)) (divR n1 b1 n2 b2) (sgn (divR n1 b1 n2 b2) b2)):=by
 have hsp:=fun (W : World) (hW : Below w.heap.size w W)=>split_any (h1.rd.below hW) (h2.rd.below hW) h0 hn1 (show N ≤ 4000 by omega)
 have HSP:=Lib.hid hsp
 have H2:=Lib.hid h2
 have hq : n1 / n2 < 1000000000 ^ N:=Nat.lt_of_le_of_lt (Nat.div_le_self _ _) hn1
 have HB:=Lib.hid (show n2 < 1000000000 ^ N ∧ n1 % n2 < 1000000000 ^ N ∧ n1 / n2 + 1 < 1000000000 ^ (N + 1) ∧ n1 % n2 < n2 from ⟨hn2,Nat.lt_of_le_of_lt (Nat.mod_le _ _) hn1,by
   rw [Nat.pow_succ]; have : 0 < 1000000000 ^ N:=Nat.pow_pos (by decide)
   omega,Nat.mod_lt _ h0⟩)
 obtain ⟨Q,hQ⟩ : ∃ Q,Q = divQ n1 b1 n2 b2:=⟨_,rfl⟩
 obtain ⟨R,hR⟩ : ∃ R,R = divR n1 b1 n2 b2:=⟨_,rfl⟩
 obtain ⟨sx,hsx⟩ : ∃ sx,sx = (b1 != b2):=⟨_,rfl⟩
 rw [← hQ,← hR,← hsx]
 have HSX:=Lib.hid hsx
 have HQ:=Lib.hid hQ
 have HR:=Lib.hid hR
 have HN:=Lib.hid hN
 clear hsp h1 h2 h0 hn1 hn2 hq hQ hR hN hsx
 go_enter Tryz.func117,Tryz.ntmps117
 go_wp2_with fail
 obtain ⟨W,hW⟩ : ∃ W,W = (((w.alloc (Obj.cells #[Value.slice A1 k1 c1,Value.bool b1] 91)).alloc (Obj.cells #[Value.slice A2 k2 c2,Value.bool b2] 91)).alloc (Obj.cells #[Value.slice none 0 0,Value.bool false] 91)).alloc (Obj.cells #[Value.slice none 0 0,Value.bool false] 91):=⟨_,rfl⟩
 obtain ⟨bW,sW,K1,K2,K3,K4⟩:=gz hW
 rw [← hW]
 clear hW
 refine (HSP.out _ bW).mono ?_
 rintro e w1 ⟨Aq,kq,cq,Ar,kr,cr,rfl,hq,hr,hb⟩
 have hk:=(rr_len hr).1
 have hz:=hb.size
 have bw1:=bstep bW hb
 have J1:=(hb.block w.heap.size (by omega)).trans K1
 have J2:=(hb.block (w.heap.size + 1) (by omega)).trans K2
 have J3 : Holds_ w1 (w.heap.size + 1 + 1) #[Value.slice none 0 0,Value.bool false]:=⟨⟨_,(hb.block (w.heap.size + 1 + 1) (by omega)).trans K3⟩,by simp [noDig]⟩
 have J4 : Holds_ w1 (w.heap.size + 1 + 1 + 1) #[Value.slice none 0 0,Value.bool false]:=⟨⟨_,(hb.block (w.heap.size + 1 + 1 + 1) (by omega)).trans K4⟩,by simp [noDig]⟩
 have hlt : w.heap.size + 1 < w1.heap.size:=by omega
 obtain ⟨p1,p2,p3,p4⟩:=cell_of_two J1
 obtain ⟨q1,q2,q3,q4⟩:=cell_of_two J2
 clear K1 K2 K3 K4 hb bW J1 J2 hz sW
 have hd1 : (w.heap.size + 1 + 1) ≠ (w.heap.size + 1 + 1 + 1):=by omega
 by_cases hc : (b1 == b2) = true ∨ n1 % n2 = 0
 · have eQ : Q = n1 / n2:=by rw [HQ.out]; exact if_pos hc
   have eR : R = n1 % n2:=by rw [HR.out]; exact if_pos hc
   clear HQ HR; subst eQ; subst eR
   by_cases he : b1 = b2
   · subst he; have esx : sx = false:=by rw [HSX.out]; simp
     clear HSX; subst esx; clear hc hk
     go_wp2_with fail
     refine az (w.heap.size) [kIs (.slice Aq kq cq),kIs (.pointer (some ⟨w.heap.size,1,none⟩)),kIs (.bool b1),kIs (.pointer (some ⟨w.heap.size + 1,1,none⟩)),kIs (.bool b1),kIs (.bool false),kNum (n1 / n2) (sgn (n1 / n2) false),kIs (.slice Ar kr cr),kIs (.pointer (some ⟨w.heap.size + 1,1,none⟩)),kIs (.bool b1),kNum (n1 % n2) (sgn (n1 % n2) b1),kCellNum (w.heap.size + 1 + 1) (n1 / n2) (sgn (n1 / n2) false),kCellNum (w.heap.size + 1 + 1 + 1) (n1 % n2) (sgn (n1 % n2) b1)] [ [],[],[(1,some 28)],[],[(3,some 30)],[(2,some 29),(4,some 31)],[(0,some 27),(5,some 32)],[],[],[(8,some 35)],[(7,some 34),(9,some 36)],[(6,some 33)],[(10,some 37)] ] [(0,some 27),(1,some 28),(2,some 29),(3,some 30),(4,some 31),(5,some 32),(6,some 33),(7,some 34),(8,some 35),(9,some 36),(10,some 37),(11,none),(12,none)] [] [] ?n1 ?n2 ?n3 ?n4 ?st ?en
     case n1=>show List.Nodup ([(w.heap.size + 1 + 1),(w.heap.size + 1 + 1 + 1)] : List Nat); simp
     case n2=>show ∀ g ∈ ([(w.heap.size + 1 + 1),(w.heap.size + 1 + 1 + 1)] : List Nat),_; intro g hg; simp only [List.mem_cons,List.not_mem_nil,or_false] at hg; omega
     case n3=>omega
     case n4 =>
       show ∀ g ∈ ([(w.heap.size + 1 + 1),(w.heap.size + 1 + 1 + 1)] : List Nat),∃ cs,Holds_ _ g cs
       intro g hg; simp only [List.mem_cons,List.not_mem_nil,or_false] at hg; rcases hg with rfl | rfl
       · exact ⟨_,J3⟩
       · exact ⟨_,J4⟩
     case st =>
       refine aa rfl rfl ?_ ?_
       · intro wr x hC; simp only [deps,at_,List.getD_cons_zero,PK.sem,PK.move,kIs]; intro K hK; simp only [putE,retOf]
         go_simp
         exact hK _ _ (Below.refl _ _) rfl
       refine aa rfl rfl ?_ ?_
       · intro wr x hC; simp only [deps,at_,List.getD_cons_zero,List.getD_cons_succ,PK.sem,PK.move,kIs]; intro K hK; simp only [putE,retOf]
         go_simp
         exact hK _ _ (Below.refl _ _) rfl
       refine aa rfl rfl ?_ ?_
       · intro wr x hC; simp only [deps,at_,List.getD_cons_zero,List.getD_cons_succ,PK.sem,PK.move,kIs]; intro h0; intro K hK; have hce1:=(hC.cell (b:=w.heap.size) (by omega) (show _ ∉ ([(w.heap.size + 1 + 1),(w.heap.size + 1 + 1 + 1)] : List Nat) by simp <;> omega) 1).1.trans p2; simp only [putE,retOf,h0]
         go_simp
         exact hK _ _ (Below.refl _ _) rfl
       refine aa rfl rfl ?_ ?_
       · intro wr x hC; simp only [deps,at_,List.getD_cons_zero,List.getD_cons_succ,PK.sem,PK.move,kIs]; intro K hK; simp only [putE,retOf]
         go_simp
         exact hK _ _ (Below.refl _ _) rfl
       refine aa rfl rfl ?_ ?_
       · intro wr x hC; simp only [deps,at_,List.getD_cons_zero,List.getD_cons_succ,PK.sem,PK.move,kIs]; intro h0; intro K hK; have hce1:=(hC.cell (b:=w.heap.size + 1) (by omega) (show _ ∉ ([(w.heap.size + 1 + 1),(w.heap.size + 1 + 1 + 1)] : List Nat) by simp <;> omega) 1).1.trans q2; simp only [putE,retOf,h0]
         go_simp
         exact hK _ _ (Below.refl _ _) rfl
       refine aa rfl rfl ?_ ?_
       · intro wr x hC; simp only [deps,at_,List.getD_cons_zero,List.getD_cons_succ,PK.sem,PK.move,kIs]; intro h0 h1; intro K hK; simp only [putE,retOf,h0,h1]
         go_simp
         exact hK _ _ (Below.refl _ _) rfl
       refine aa rfl rfl ?_ ?_
       · intro wr x hC; simp only [deps,at_,List.getD_cons_zero,List.getD_cons_succ,PK.sem,PK.move,kIs,kNum]; intro hA hB; intro K hK; simp only [putE,retOf,hA,hB]
         go_simp
         refine (signed_s false (hC.rr hq)).mono ?_; rintro e w2 ⟨A2,k2,c2,rfl,h1,h2,h3⟩
         go_simp
         exact hK _ _ h3 ⟨A2,k2,c2,rfl,h1,h2⟩
       refine aa rfl rfl ?_ ?_
       · intro wr x hC; simp only [deps,at_,List.getD_cons_zero,List.getD_cons_succ,PK.sem,PK.move,kIs]; intro K hK; simp only [putE,retOf]
         go_simp
         exact hK _ _ (Below.refl _ _) rfl
       refine aa rfl rfl ?_ ?_
       · intro wr x hC; simp only [deps,at_,List.getD_cons_zero,List.getD_cons_succ,PK.sem,PK.move,kIs]; intro K hK; simp only [putE,retOf]
         go_simp
         exact hK _ _ (Below.refl _ _) rfl
       refine aa rfl rfl ?_ ?_
       · intro wr x hC; simp only [deps,at_,List.getD_cons_zero,List.getD_cons_succ,PK.sem,PK.move,kIs]; intro h0; intro K hK; have hce1:=(hC.cell (b:=w.heap.size + 1) (by omega) (show _ ∉ ([(w.heap.size + 1 + 1),(w.heap.size + 1 + 1 + 1)] : List Nat) by simp <;> omega) 1).1.trans q2; simp only [putE,retOf,h0]
         go_simp
         exact hK _ _ (Below.refl _ _) rfl
       refine aa rfl rfl ?_ ?_
       · intro wr x hC; simp only [deps,at_,List.getD_cons_zero,List.getD_cons_succ,PK.sem,PK.move,kIs,kNum]; intro hA hB; intro K hK; simp only [putE,retOf,hA,hB]
         go_simp
         refine (signed_s b1 (hC.rr hr)).mono ?_; rintro e w2 ⟨A2,k2,c2,rfl,h1,h2,h3⟩
         go_simp
         exact hK _ _ h3 ⟨A2,k2,c2,rfl,h1,h2⟩
       refine aa rfl rfl ?_ ?_
       · intro wr x hC; simp only [deps,at_,List.getD_cons_zero,List.getD_cons_succ,PK.sem,PK.move,kCellNum,kNum]; intro hA; intro K hK; obtain ⟨A,k,c,hx,hr1,hr2⟩:=hA; obtain ⟨u0,v0,hg⟩:=hC.two (show _ ∈ ([(w.heap.size + 1 + 1),(w.heap.size + 1 + 1 + 1)] : List Nat) by simp) J3; obtain ⟨m1,m2,m3,m4⟩:=hg.two; simp only [putE,retOf,hx]
         go_simp
         exact hK _ _ (stored_put2 hg (noDig_slice _ _ _) (noDig_bool _)) ⟨_,ay hg (noDig_slice _ _ _) (noDig_bool _),A,k,c,rfl,(stored_put2 hg (noDig_slice _ _ _) (noDig_bool _)).rr hr1,hr2⟩
       refine aa rfl rfl ?_ ?_
       · intro wr x hC; simp only [deps,at_,List.getD_cons_zero,List.getD_cons_succ,PK.sem,PK.move,kCellNum,kNum]; intro hA; intro K hK; obtain ⟨A,k,c,hx,hr1,hr2⟩:=hA; obtain ⟨u0,v0,hg⟩:=hC.two (show _ ∈ ([(w.heap.size + 1 + 1),(w.heap.size + 1 + 1 + 1)] : List Nat) by simp) J4; obtain ⟨m1,m2,m3,m4⟩:=hg.two; simp only [putE,retOf,hx]
         go_simp
         exact hK _ _ (stored_put2 hg (noDig_slice _ _ _) (noDig_bool _)) ⟨_,ay hg (noDig_slice _ _ _) (noDig_bool _),A,k,c,rfl,(stored_put2 hg (noDig_slice _ _ _) (noDig_bool _)).rr hr1,hr2⟩
       exact ag rfl
     case en =>
       intro wr x hC hall; have h11:=hall 11 (of_decide_eq_true (by kernel_rfl)); have h12:=hall 12 (of_decide_eq_true (by kernel_rfl)); clear hall; simp only [at_,List.getD_cons_zero,List.getD_cons_succ,PK.sem,kCellNum] at h11 h12; obtain ⟨_,e4,A4,k4,c4,rfl,r4,z4⟩:=h11; obtain ⟨_,e5,A5,k5,c5,rfl,r5,z5⟩:=h12; have hbw:=bw1.trans hC.below; obtain ⟨i1,i2,_,_⟩:=e4.two; obtain ⟨j1,j2,_,_⟩:=e5.two; simp only [putE]
       go_wp2
       refine bodyPost_ret (v:=.tuple #[.agg #[.slice A4 k4 c4,.bool (sgn (n1 / n2) false)],.agg #[.slice A5 k5 c5,.bool (sgn (n1 % n2) b1)]]) (by simp [results,Tryz.results117,go_sem,i1,i2,j1,j2]) rfl ?_; exact ⟨_,_,rfl,⟨A4,k4,c4,rfl,r4,z4⟩,⟨A5,k5,c5,rfl,r5,z5⟩,hbw⟩
   · have hn0 : n1 % n2 = 0:=hc.resolve_left (by simpa using he); have hk0 : ((kr : Int) == 0) = true:=by rw [hk.2 hn0]; rfl
     have hb1 : (b1 == b2) = false:=by simpa using he
     have hb2 : (b1 != b2) = true:=by simpa using he
     have esx : sx = true:=HSX.out.trans hb2; clear HSX; subst esx; clear hc hk hn0 he
     go_wp2_with (go_at_call 116; refine (sizeNone_any _ _ _ _).mono ?_; rintro e w' ⟨rfl,rfl⟩)
     refine az (w.heap.size) [kIs (.slice Aq kq cq),kIs (.pointer (some ⟨w.heap.size,1,none⟩)),kIs (.bool b1),kIs (.pointer (some ⟨w.heap.size + 1,1,none⟩)),kIs (.bool b2),kIs (.bool true),kNum (n1 / n2) (sgn (n1 / n2) true),kIs (.slice Ar kr cr),kIs (.pointer (some ⟨w.heap.size + 1,1,none⟩)),kIs (.bool b2),kNum (n1 % n2) (sgn (n1 % n2) b2),kCellNum (w.heap.size + 1 + 1) (n1 / n2) (sgn (n1 / n2) true),kCellNum (w.heap.size + 1 + 1 + 1) (n1 % n2) (sgn (n1 % n2) b2)] [ [],[],[(1,some 28)],[],[(3,some 30)],[(2,some 29),(4,some 31)],[(0,some 27),(5,some 32)],[],[],[(8,some 35)],[(7,some 34),(9,some 36)],[(6,some 33)],[(10,some 37)] ] [(0,some 27),(1,some 28),(2,some 29),(3,some 30),(4,some 31),(5,some 32),(6,some 33),(7,some 34),(8,some 35),(9,some 36),(10,some 37),(11,none),(12,none)] [] [] ?n1 ?n2 ?n3 ?n4 ?st ?en
     case n1=>show List.Nodup ([(w.heap.size + 1 + 1),(w.heap.size + 1 + 1 + 1)] : List Nat); simp
     case n2=>show ∀ g ∈ ([(w.heap.size + 1 + 1),(w.heap.size + 1 + 1 + 1)] : List Nat),_; intro g hg; simp only [List.mem_cons,List.not_mem_nil,or_false] at hg; omega
     case n3=>omega
     case n4 =>
       show ∀ g ∈ ([(w.heap.size + 1 + 1),(w.heap.size + 1 + 1 + 1)] : List Nat),∃ cs,Holds_ _ g cs
       intro g hg; simp only [List.mem_cons,List.not_mem_nil,or_false] at hg; rcases hg with rfl | rfl
       · exact ⟨_,J3⟩
       · exact ⟨_,J4⟩
     case st =>
       refine aa rfl rfl ?_ ?_
       · intro wr x hC; simp only [deps,at_,List.getD_cons_zero,PK.sem,PK.move,kIs]; intro K hK; simp only [putE,retOf]
         go_simp
         exact hK _ _ (Below.refl _ _) rfl
       refine aa rfl rfl ?_ ?_
       · intro wr x hC; simp only [deps,at_,List.getD_cons_zero,List.getD_cons_succ,PK.sem,PK.move,kIs]; intro K hK; simp only [putE,retOf]
         go_simp
         exact hK _ _ (Below.refl _ _) rfl
       refine aa rfl rfl ?_ ?_
       · intro wr x hC; simp only [deps,at_,List.getD_cons_zero,List.getD_cons_succ,PK.sem,PK.move,kIs]; intro h0; intro K hK; have hce1:=(hC.cell (b:=w.heap.size) (by omega) (show _ ∉ ([(w.heap.size + 1 + 1),(w.heap.size + 1 + 1 + 1)] : List Nat) by simp <;> omega) 1).1.trans p2; simp only [putE,retOf,h0]
         go_simp
         exact hK _ _ (Below.refl _ _) rfl
       refine aa rfl rfl ?_ ?_
       · intro wr x hC; simp only [deps,at_,List.getD_cons_zero,List.getD_cons_succ,PK.sem,PK.move,kIs]; intro K hK; simp only [putE,retOf]
         go_simp
         exact hK _ _ (Below.refl _ _) rfl
       refine aa rfl rfl ?_ ?_
       · intro wr x hC; simp only [deps,at_,List.getD_cons_zero,List.getD_cons_succ,PK.sem,PK.move,kIs]; intro h0; intro K hK; have hce1:=(hC.cell (b:=w.heap.size + 1) (by omega) (show _ ∉ ([(w.heap.size + 1 + 1),(w.heap.size + 1 + 1 + 1)] : List Nat) by simp <;> omega) 1).1.trans q2; simp only [putE,retOf,h0]
         go_simp
         exact hK _ _ (Below.refl _ _) rfl
       refine aa rfl rfl ?_ ?_
       · intro wr x hC; simp only [deps,at_,List.getD_cons_zero,List.getD_cons_succ,PK.sem,PK.move,kIs]; intro h0 h1; intro K hK; simp only [putE,retOf,h0,h1]
         go_simp
         exact hK _ _ (Below.refl _ _) rfl
       refine aa rfl rfl ?_ ?_
       · intro wr x hC; simp only [deps,at_,List.getD_cons_zero,List.getD_cons_succ,PK.sem,PK.move,kIs,kNum]; intro hA hB; intro K hK; simp only [putE,retOf,hA,hB]
         go_simp
         refine (signed_s true (hC.rr hq)).mono ?_; rintro e w2 ⟨A2,k2,c2,rfl,h1,h2,h3⟩
         go_simp
         exact hK _ _ h3 ⟨A2,k2,c2,rfl,h1,h2⟩
       refine aa rfl rfl ?_ ?_
       · intro wr x hC; simp only [deps,at_,List.getD_cons_zero,List.getD_cons_succ,PK.sem,PK.move,kIs]; intro K hK; simp only [putE,retOf]
         go_simp
         exact hK _ _ (Below.refl _ _) rfl
       refine aa rfl rfl ?_ ?_
       · intro wr x hC; simp only [deps,at_,List.getD_cons_zero,List.getD_cons_succ,PK.sem,PK.move,kIs]; intro K hK; simp only [putE,retOf]
         go_simp
         exact hK _ _ (Below.refl _ _) rfl
       refine aa rfl rfl ?_ ?_
       · intro wr x hC; simp only [deps,at_,List.getD_cons_zero,List.getD_cons_succ,PK.sem,PK.move,kIs]; intro h0; intro K hK; have hce1:=(hC.cell (b:=w.heap.size + 1) (by omega) (show _ ∉ ([(w.heap.size + 1 + 1),(w.heap.size + 1 + 1 + 1)] : List Nat) by simp <;> omega) 1).1.trans q2; simp only [putE,retOf,h0]
         go_simp
         exact hK _ _ (Below.refl _ _) rfl
       refine aa rfl rfl ?_ ?_
       · intro wr x hC; simp only [deps,at_,List.getD_cons_zero,List.getD_cons_succ,PK.sem,PK.move,kIs,kNum]; intro hA hB; intro K hK; simp only [putE,retOf,hA,hB]
         go_simp
         refine (signed_s b2 (hC.rr hr)).mono ?_; rintro e w2 ⟨A2,k2,c2,rfl,h1,h2,h3⟩
         go_simp
         exact hK _ _ h3 ⟨A2,k2,c2,rfl,h1,h2⟩
       refine aa rfl rfl ?_ ?_
       · intro wr x hC; simp only [deps,at_,List.getD_cons_zero,List.getD_cons_succ,PK.sem,PK.move,kCellNum,kNum]; intro hA; intro K hK; obtain ⟨A,k,c,hx,hr1,hr2⟩:=hA; obtain ⟨u0,v0,hg⟩:=hC.two (show _ ∈ ([(w.heap.size + 1 + 1),(w.heap.size + 1 + 1 + 1)] : List Nat) by simp) J3; obtain ⟨m1,m2,m3,m4⟩:=hg.two; simp only [putE,retOf,hx]
         go_simp
         exact hK _ _ (stored_put2 hg (noDig_slice _ _ _) (noDig_bool _)) ⟨_,ay hg (noDig_slice _ _ _) (noDig_bool _),A,k,c,rfl,(stored_put2 hg (noDig_slice _ _ _) (noDig_bool _)).rr hr1,hr2⟩
       refine aa rfl rfl ?_ ?_
       · intro wr x hC; simp only [deps,at_,List.getD_cons_zero,List.getD_cons_succ,PK.sem,PK.move,kCellNum,kNum]; intro hA; intro K hK; obtain ⟨A,k,c,hx,hr1,hr2⟩:=hA; obtain ⟨u0,v0,hg⟩:=hC.two (show _ ∈ ([(w.heap.size + 1 + 1),(w.heap.size + 1 + 1 + 1)] : List Nat) by simp) J4; obtain ⟨m1,m2,m3,m4⟩:=hg.two; simp only [putE,retOf,hx]
         go_simp
         exact hK _ _ (stored_put2 hg (noDig_slice _ _ _) (noDig_bool _)) ⟨_,ay hg (noDig_slice _ _ _) (noDig_bool _),A,k,c,rfl,(stored_put2 hg (noDig_slice _ _ _) (noDig_bool _)).rr hr1,hr2⟩
       exact ag rfl
     case en =>
       intro wr x hC hall; have h11:=hall 11 (of_decide_eq_true (by kernel_rfl)); have h12:=hall 12 (of_decide_eq_true (by kernel_rfl)); clear hall; simp only [at_,List.getD_cons_zero,List.getD_cons_succ,PK.sem,kCellNum] at h11 h12; obtain ⟨_,e4,A4,k4,c4,rfl,r4,z4⟩:=h11; obtain ⟨_,e5,A5,k5,c5,rfl,r5,z5⟩:=h12; have hbw:=bw1.trans hC.below; obtain ⟨i1,i2,_,_⟩:=e4.two; obtain ⟨j1,j2,_,_⟩:=e5.two; simp only [putE]
       go_wp2
       refine bodyPost_ret (v:=.tuple #[.agg #[.slice A4 k4 c4,.bool (sgn (n1 / n2) true)],.agg #[.slice A5 k5 c5,.bool (sgn (n1 % n2) b2)]]) (by simp [results,Tryz.results117,go_sem,i1,i2,j1,j2]) rfl ?_; exact ⟨_,_,rfl,⟨A4,k4,c4,rfl,r4,z4⟩,⟨A5,k5,c5,rfl,r5,z5⟩,hbw⟩
 · have eQ : Q = n1 / n2 + 1:=by rw [HQ.out]; exact if_neg hc
   have eR : R = n2 - n1 % n2:=by rw [HR.out]; exact if_neg hc
   have hb1 : (b1 == b2) = false:=by
     cases h : (b1 == b2) with
     | false=>rfl
     | true=>exact absurd (.inl h) hc
   have hb2 : (b1 != b2) = true:=by rw [bne,hb1]; rfl
   have hk0 : ((kr : Int) == 0) = false:=by
     rw [beq_eq_false_iff_ne]; intro h; exact hc (.inr (hk.1 (by omega)))
   clear HQ HR; subst eQ; subst eR; have esx : sx = true:=HSX.out.trans hb2; clear HSX; subst esx; clear hc hk; have hap:=fun (W : World) (hW : Below w1.heap.size w1 W)=>kn (N:=N) ((H2.out.below bw1).below hW).rd (hr.below hW).rd HB.out.1 HB.out.2.1 (Nat.le_trans HN.out (by omega)); have hg : gapOf n2 (n1 % n2) = n2 - n1 % n2:=if_pos (Nat.le_of_lt HB.out.2.2.2); rw [hg] at hap; have HAP:=Lib.hid hap; clear hap hg
   go_wp2_with (go_at_call 116; refine (sizeNone_any _ _ _ _).mono ?_; rintro e w' ⟨rfl,rfl⟩)
   refine (HAP.out _ (Below.refl _ _)).mono ?_; rintro e w2 ⟨Am,km,cm,rfl,hm,hb⟩; have hz:=hb.size; have q2:=(hb.cell (p:=⟨w.heap.size + 1,1,none⟩) hlt).trans q2; have J3:=J3.step hb; have J4:=J4.step hb; have bw1:=bstep bw1 hb; have hq:=hq.below hb; have hlt : w.heap.size + 1 < w2.heap.size:=by omega
   clear hb hr HAP
   go_wp2_with fail
   refine az (w.heap.size) [kIs (.slice Aq kq cq),kRr 1,kRr (n1 / n2 + 1),kNum (n1 / n2 + 1) (sgn (n1 / n2 + 1) true),kIs (.slice Am km cm),kIs (.pointer (some ⟨w.heap.size + 1,1,none⟩)),kIs (.bool b2),kNum (n2 - n1 % n2) (sgn (n2 - n1 % n2) b2),kCellNum (w.heap.size + 1 + 1) (n1 / n2 + 1) (sgn (n1 / n2 + 1) true),kCellNum (w.heap.size + 1 + 1 + 1) (n2 - n1 % n2) (sgn (n2 - n1 % n2) b2)] [ [],[],[(0,some 45),(1,some 46)],[(2,some 47)],[],[],[(5,some 50)],[(4,some 49),(6,some 51)],[(3,some 48)],[(7,some 52)] ] [(0,some 45),(1,some 46),(2,some 47),(3,some 48),(4,some 49),(5,some 50),(6,some 51),(7,some 52),(8,none),(9,none)] [] [] ?n1 ?n2 ?n3 ?n4 ?st ?en
   case n1=>show List.Nodup ([(w.heap.size + 1 + 1),(w.heap.size + 1 + 1 + 1)] : List Nat); simp
   case n2=>show ∀ g ∈ ([(w.heap.size + 1 + 1),(w.heap.size + 1 + 1 + 1)] : List Nat),_; intro g hg; simp only [List.mem_cons,List.not_mem_nil,or_false] at hg; omega
   case n3=>omega
   case n4 =>
     show ∀ g ∈ ([(w.heap.size + 1 + 1),(w.heap.size + 1 + 1 + 1)] : List Nat),∃ cs,Holds_ _ g cs
     intro g hg; simp only [List.mem_cons,List.not_mem_nil,or_false] at hg; rcases hg with rfl | rfl
     · exact ⟨_,J3⟩
     · exact ⟨_,J4⟩
   case st =>
     refine aa rfl rfl ?_ ?_
     · intro wr x hC; simp only [deps,at_,List.getD_cons_zero,PK.sem,PK.move,kIs]; intro K hK; simp only [putE,retOf]
       go_simp
       exact hK _ _ (Below.refl _ _) rfl
     refine aa rfl rfl ?_ ?_
     · intro wr x hC; simp only [deps,at_,List.getD_cons_zero,List.getD_cons_succ,PK.sem,PK.move,kRr]; intro K hK; simp only [putE,retOf]
       go_simp
       exact hK _ _ ((Below.refl _ _).alloc (Nat.le_refl _) _) ⟨_,_,_,rfl,rr_lit1 _⟩
     refine aa rfl rfl ?_ ?_
     · intro wr x hC; simp only [deps,at_,List.getD_cons_zero,List.getD_cons_succ,PK.sem,PK.move,kIs,kRr]; intro hA hB; intro K hK; obtain ⟨A,k,c,hB,hr1⟩:=hB; simp only [putE,retOf,hA,hB]
       go_simp
       refine (joined_any (hC.rr hq).rd hr1.rd HB.out.2.2.1 (show N + 1 ≤ 4000 from Nat.succ_le_succ HN.out)).mono ?_; rintro e w2 ⟨A2,k2,c2,rfl,h1,h2⟩
       go_simp
       exact hK _ _ h2 ⟨A2,k2,c2,rfl,h1⟩
     refine aa rfl rfl ?_ ?_
     · intro wr x hC; simp only [deps,at_,List.getD_cons_zero,List.getD_cons_succ,PK.sem,PK.move,kNum,kRr]; intro hA; intro K hK; obtain ⟨A,k,c,hA,hr1⟩:=hA; simp only [putE,retOf,hA]
       go_simp
       refine (signed_s true hr1).mono ?_; rintro e w2 ⟨A2,k2,c2,rfl,h1,h2,h3⟩
       go_simp
       exact hK _ _ h3 ⟨A2,k2,c2,rfl,h1,h2⟩
     refine aa rfl rfl ?_ ?_
     · intro wr x hC; simp only [deps,at_,List.getD_cons_zero,List.getD_cons_succ,PK.sem,PK.move,kIs]; intro K hK; simp only [putE,retOf]
       go_simp
       exact hK _ _ (Below.refl _ _) rfl
     refine aa rfl rfl ?_ ?_
     · intro wr x hC; simp only [deps,at_,List.getD_cons_zero,List.getD_cons_succ,PK.sem,PK.move,kIs]; intro K hK; simp only [putE,retOf]
       go_simp
       exact hK _ _ (Below.refl _ _) rfl
     refine aa rfl rfl ?_ ?_
     · intro wr x hC; simp only [deps,at_,List.getD_cons_zero,List.getD_cons_succ,PK.sem,PK.move,kIs]; intro h0; intro K hK; have hce1:=(hC.cell (b:=w.heap.size + 1) (by omega) (show _ ∉ ([(w.heap.size + 1 + 1),(w.heap.size + 1 + 1 + 1)] : List Nat) by simp <;> omega) 1).1.trans q2; simp only [putE,retOf,h0]
       go_simp
       exact hK _ _ (Below.refl _ _) rfl
     refine aa rfl rfl ?_ ?_
     · intro wr x hC; simp only [deps,at_,List.getD_cons_zero,List.getD_cons_succ,PK.sem,PK.move,kIs,kNum]; intro hA hB; intro K hK; simp only [putE,retOf,hA,hB]
       go_simp
       refine (signed_s b2 (hC.rr hm)).mono ?_; rintro e w2 ⟨A2,k2,c2,rfl,h1,h2,h3⟩
       go_simp
       exact hK _ _ h3 ⟨A2,k2,c2,rfl,h1,h2⟩
     refine aa rfl rfl ?_ ?_
     · intro wr x hC; simp only [deps,at_,List.getD_cons_zero,List.getD_cons_succ,PK.sem,PK.move,kCellNum,kNum]; intro hA; intro K hK; obtain ⟨A,k,c,hx,hr1,hr2⟩:=hA; obtain ⟨u0,v0,hg⟩:=hC.two (show _ ∈ ([(w.heap.size + 1 + 1),(w.heap.size + 1 + 1 + 1)] : List Nat) by simp) J3; obtain ⟨m1,m2,m3,m4⟩:=hg.two; simp only [putE,retOf,hx]
       go_simp
       exact hK _ _ (stored_put2 hg (noDig_slice _ _ _) (noDig_bool _)) ⟨_,ay hg (noDig_slice _ _ _) (noDig_bool _),A,k,c,rfl,(stored_put2 hg (noDig_slice _ _ _) (noDig_bool _)).rr hr1,hr2⟩
     refine aa rfl rfl ?_ ?_
     · intro wr x hC; simp only [deps,at_,List.getD_cons_zero,List.getD_cons_succ,PK.sem,PK.move,kCellNum,kNum]; intro hA; intro K hK; obtain ⟨A,k,c,hx,hr1,hr2⟩:=hA; obtain ⟨u0,v0,hg⟩:=hC.two (show _ ∈ ([(w.heap.size + 1 + 1),(w.heap.size + 1 + 1 + 1)] : List Nat) by simp) J4; obtain ⟨m1,m2,m3,m4⟩:=hg.two; simp only [putE,retOf,hx]
       go_simp
       exact hK _ _ (stored_put2 hg (noDig_slice _ _ _) (noDig_bool _)) ⟨_,ay hg (noDig_slice _ _ _) (noDig_bool _),A,k,c,rfl,(stored_put2 hg (noDig_slice _ _ _) (noDig_bool _)).rr hr1,hr2⟩
     exact ag rfl
   case en =>
     intro wr x hC hall; have h8:=hall 8 (of_decide_eq_true (by kernel_rfl)); have h9:=hall 9 (of_decide_eq_true (by kernel_rfl)); clear hall; simp only [at_,List.getD_cons_zero,List.getD_cons_succ,PK.sem,kCellNum] at h8 h9; obtain ⟨_,e4,A4,k4,c4,rfl,r4,z4⟩:=h8; obtain ⟨_,e5,A5,k5,c5,rfl,r5,z5⟩:=h9; have hbw:=bw1.trans hC.below; obtain ⟨i1,i2,_,_⟩:=e4.two; obtain ⟨j1,j2,_,_⟩:=e5.two; simp only [putE]
     go_wp2
     refine bodyPost_ret (v:=.tuple #[.agg #[.slice A4 k4 c4,.bool (sgn (n1 / n2 + 1) true)],.agg #[.slice A5 k5 c5,.bool (sgn (n2 - n1 % n2) b2)]]) (by simp [results,Tryz.results117,go_sem,i1,i2,j1,j2]) rfl ?_; exact ⟨_,_,rfl,⟨A4,k4,c4,rfl,r4,z4⟩,⟨A5,k5,c5,rfl,r5,z5⟩,hbw⟩
def RetInt2 (w : World) (n : Nat) (b : Bool) (m : Nat) (c : Bool) (e : Ending) (w' : World) : Prop:=∃ x y,e = .returned (.tuple #[x,y,.int .i64 0]) ∧ Int_ w' x n b ∧ Int_ w' y m c ∧ Below w.heap.size w w'
theorem divMod_int {w : World} {A1 A2 : Option Addr} {k1 c1 k2 c2 n1 n2 N : Nat} (b1 b2 : Bool) (h1 : Rd w (.slice A1 k1 c1) n1) (h2 : Rd w (.slice A2 k2 c2) n2) (h0 : 0 < n2) (hn1 : n1 < 1000000000 ^ N) (hn2 : n2 < 1000000000 ^ N) (hN : N ≤ 3999) :
   Calls Tryz.prog 59 #[.agg #[.bool b1,.slice A1 k1 c1],.agg #[.bool b2,.slice A2 k2 c2]] w (RetInt2 w (divQ n1 (sgn n1 b1) n2 b2) (sgn (divQ n1 (sgn n1 b1) n2 b2) ((sgn n1 b1) != b2)) (divR n1 (sgn n1 b1) n2 b2) (sgn (divR n1 (sgn n1 b1) n2 b2) b2)):=by
 have hof:=fun (W : World) (hW : Below w.heap.size w W)=>numOf_any b1 (h1.below hW) hn1 (show N ≤ 4000 by omega)
 have hof2:=fun (W : World) (hW : Below w.heap.size w W)=>numOf_any b2 (h2.below hW) hn2 (show N ≤ 4000 by omega)
 have hdv:=fun (W : World) (A : Option Addr) (k c : Nat) (h1 : Rr W (.slice A k c) n1) (A2 : Option Addr) (k2 c2 : Nat) (h2 : Rr W (.slice A2 k2 c2) n2)=>divide_num (sgn n1 b1) b2 h1 h2 h0 hn1 hn2 hN
 have hs2 : sgn n2 b2 = b2:=by
   unfold sgn; rw [decide_eq_true (show n2 ≠ 0 by omega),Bool.and_true]
 obtain ⟨Q,hQ⟩ : ∃ Q,Q = divQ n1 (sgn n1 b1) n2 b2:=⟨_,rfl⟩
 obtain ⟨M,hM⟩ : ∃ M,M = divR n1 (sgn n1 b1) n2 b2:=⟨_,rfl⟩
 rw [← hQ,← hM] at hdv ⊢
 obtain ⟨sq,hsq⟩ : ∃ s,s = sgn Q ((sgn n1 b1) != b2):=⟨_,rfl⟩
 obtain ⟨sm,hsm⟩ : ∃ s,s = sgn M b2:=⟨_,rfl⟩
 rw [← hsq,← hsm] at hdv ⊢
 rw [hs2] at hof2
 have hHDV : ∀ (W : World) (A : Option Addr) (k c : Nat),Rr W (.slice A k c) n1 → ∀ {A2 : Option Addr} {k2 c2 : Nat},Rr W (.slice A2 k2 c2) n2 → Calls Tryz.prog 117 #[.agg #[.slice A k c,.bool (sgn n1 b1)],.agg #[.slice A2 k2 c2,.bool b2]] W (RetNum2 W Q sq M sm):=fun W A k c h A2 k2 c2 h'=>hdv W A k c h A2 k2 c2 h'
 have HOF:=Lib.hid hof
 have HOF2:=Lib.hid hof2
 have HDV:=Lib.hid hHDV
 have H0:=Lib.hid h0
 clear hof hof2 hdv hHDV h1 h2 h0 hn1 hn2 hN hQ hM hsq hsm hs2
 go_enter Tryz.func59,Tryz.ntmps59
 go_wp2_with fail
 obtain ⟨W,hW⟩ : ∃ W,W = (((w.alloc (Obj.cells #[Value.bool b1,Value.slice A1 k1 c1] 24)).alloc (Obj.cells #[Value.bool b2,Value.slice A2 k2 c2] 24)).alloc (Obj.cells #[Value.bool false,Value.slice none 0 0] 24)).alloc (Obj.cells #[Value.bool false,Value.slice none 0 0] 24):=⟨_,rfl⟩
 obtain ⟨bW0,sW0,K0,_,K2,K3⟩:=gz hW
 rw [← hW]
 clear hW
 refine (HOF2.out _ bW0).mono ?_
 clear HOF2
 rintro e w2 ⟨B2,j2,d2,rfl,hr,_,hb⟩
 have hk0 : ((j2 : Int) == 0) = false:=by
   rw [beq_eq_false_iff_ne]; intro h; have:=(rr_len hr).1.1 (by omega); have:=H0.out; omega
 have hz:=hb.size
 have K0:=(hb.block w.heap.size (by omega)).trans K0
 have K2:=(hb.block (w.heap.size + 1 + 1) (by omega)).trans K2
 have K3:=(hb.block (w.heap.size + 1 + 1 + 1) (by omega)).trans K3
 have bw2:=bstep bW0 hb
 clear hb bW0
 go_wp2_with (go_at_call 116; refine (sizeNone_any _ _ _ _).mono ?_; rintro e w' ⟨rfl,rfl⟩)
 obtain ⟨W4,hW4⟩ : ∃ W4,W4 = w2.alloc (Obj.cells #[Value.slice B2 j2 d2,Value.bool b2] 91):=⟨_,rfl⟩
 have bW : Below w.heap.size w W4:=by rw [hW4]; exact bal bw2 _
 have sW : W4.heap.size = w2.heap.size + 1:=by rw [hW4]; simp
 have hr : Rr W4 (.slice B2 j2 d2) n2:=by rw [hW4]; exact hr.alloc _
 have K7 : W4.heap[w2.heap.size]? = some (Obj.cells #[Value.slice B2 j2 d2,Value.bool b2] 91):=by rw [hW4]; exact heap_alloc_new _ _
 have K0 : W4.heap[w.heap.size]? = _:=(by rw [hW4]; exact Below.heap_alloc _ _ _ (by omega) : W4.heap[w.heap.size]? = w2.heap[w.heap.size]?).trans K0
 have K2 : W4.heap[w.heap.size + 1 + 1]? = _:=(by rw [hW4]; exact Below.heap_alloc _ _ _ (by omega) : W4.heap[w.heap.size + 1 + 1]? = w2.heap[w.heap.size + 1 + 1]?).trans K2
 have K3 : W4.heap[w.heap.size + 1 + 1 + 1]? = _:=(by rw [hW4]; exact Below.heap_alloc _ _ _ (by omega) : W4.heap[w.heap.size + 1 + 1 + 1]? = w2.heap[w.heap.size + 1 + 1 + 1]?).trans K3
 obtain ⟨p1,p2,_,_⟩:=cell_of_two K0
 obtain ⟨q1,q2,_,_⟩:=cell_of_two K7
 rw [← hW4]
 clear hW4 K0 K7 bw2 hk0
 have hwz : w.heap.size + 4 ≤ w2.heap.size:=by omega
 refine az (w.heap.size) [kIs (.agg #[.bool b1,.slice A1 k1 c1]),kNum n1 (sgn n1 b1),kIs (.agg #[.slice B2 j2 d2,.bool b2]),kNum2 Q sq M sm,kNum2 Q sq M sm,kNum Q sq,kNum M sm,PK.fresh 2,PK.fresh 2,kPutNum 7 Q sq,kPutNum 8 M sm] [ [],[(0,some 18)],[],[(1,some 19),(2,some 20)],[(3,some 21)],[(4,some 17)],[(4,some 17)],[],[],[(7,some 8),(5,some 22)],[(8,some 9),(6,some 23)] ] [(0,some 18),(1,some 19),(2,some 20),(3,some 21),(4,some 17),(5,some 22),(6,some 23),(7,some 8),(8,some 9),(9,none),(10,none)] [] [] ?n1 ?n2 ?n3 ?n4 ?st ?en
 case n1=>show List.Nodup ([] : List Nat); simp
 case n2=>show ∀ g ∈ ([] : List Nat),_; intro g hg; cases hg
 case n3=>omega
 case n4 =>
   show ∀ g ∈ ([] : List Nat),∃ cs,Holds_ _ g cs
   intro g hg
   cases hg
 case st =>
   refine aa rfl rfl ?_ ?_
   · intro wr x hC; simp only [deps,at_,List.getD_cons_zero,PK.sem,PK.move,kIs]; intro K hK; have hce0:=(hC.cell (b:=w.heap.size) (by omega) (show _ ∉ ([] : List Nat) by simp <;> omega) 0).1.trans p1; have hce1:=(hC.cell (b:=w.heap.size) (by omega) (show _ ∉ ([] : List Nat) by simp <;> omega) 1).1.trans p2; simp only [putE,retOf]
     go_simp
     exact hK _ _ (Below.refl _ _) rfl
   refine aa rfl rfl ?_ ?_
   · intro wr x hC; simp only [deps,at_,List.getD_cons_zero,List.getD_cons_succ,PK.sem,PK.move,kIs,kNum]; intro hA; intro K hK; simp only [putE,retOf,hA]
     go_simp
     refine (HOF.out _ (bW.trans hC.below)).mono ?_; rintro e w2 ⟨A2,k2,c2,rfl,h1,h2,h3⟩
     go_simp
     exact hK _ _ h3 ⟨A2,k2,c2,rfl,h1,h2⟩
   refine aa rfl rfl ?_ ?_
   · intro wr x hC; simp only [deps,at_,List.getD_cons_zero,List.getD_cons_succ,PK.sem,PK.move,kIs]; intro K hK; have hce0:=(hC.cell (b:=w2.heap.size) (by omega) (show _ ∉ ([] : List Nat) by simp <;> omega) 0).1.trans q1; have hce1:=(hC.cell (b:=w2.heap.size) (by omega) (show _ ∉ ([] : List Nat) by simp <;> omega) 1).1.trans q2; simp only [putE,retOf]
     go_simp
     exact hK _ _ (Below.refl _ _) rfl
   refine aa rfl rfl ?_ ?_
   · intro wr x hC; simp only [deps,at_,List.getD_cons_zero,List.getD_cons_succ,PK.sem,PK.move,kIs,kNum,kNum2]; intro hA hB; intro K hK; obtain ⟨A,k,c,hA,hr1,hr2⟩:=hA; simp only [putE,retOf,hA,hB]
     go_simp
     refine (HDV.out _ A k c hr1 (hC.rr hr)).mono ?_; rintro e w3 ⟨x,y,rfl,h1,h2,h3⟩
     go_simp
     exact hK _ _ h3 ⟨x,y,rfl,h1,h2⟩
   refine aa rfl rfl ?_ ?_
   · intro wr x hC; simp only [deps,at_,List.getD_cons_zero,List.getD_cons_succ,PK.sem,PK.move,kNum2]; intro hA; intro K hK; obtain ⟨x,y,hA,h1,h2⟩:=hA; simp only [putE,retOf,hA]
     go_simp
     exact hK _ _ (Below.refl _ _) ⟨x,y,rfl,h1,h2⟩
   refine aa rfl rfl ?_ ?_
   · intro wr x hC; simp only [deps,at_,List.getD_cons_zero,List.getD_cons_succ,PK.sem,PK.move,kNum,kNum2]; intro hA; intro K hK; obtain ⟨x,y,hA,h1,h2⟩:=hA; simp only [putE,retOf,hA]
     go_simp
     exact hK _ _ (Below.refl _ _) h1
   refine aa rfl rfl ?_ ?_
   · intro wr x hC; simp only [deps,at_,List.getD_cons_zero,List.getD_cons_succ,PK.sem,PK.move,kNum,kNum2]; intro hA; intro K hK; obtain ⟨x,y,hA,h1,h2⟩:=hA; simp only [putE,retOf,hA]
     go_simp
     exact hK _ _ (Below.refl _ _) h2
   refine aa rfl rfl ?_ ?_
   · intro wr x hC; simp only [deps,at_,List.getD_cons_zero,List.getD_cons_succ,PK.sem,PK.move]; intro K hK; have hsz:=hC.below.size; simp only [putE,retOf]
     go_simp
     exact hK _ _ ⟨(Below.refl _ _).alloc (Nat.le_refl _) _,_,rfl,Nat.le_refl _⟩ ⟨_,_,rfl,hsz,ft _ (noDig_slice _ _ _) (noDig_bool _) _,rfl⟩
   refine aa rfl rfl ?_ ?_
   · intro wr x hC; simp only [deps,at_,List.getD_cons_zero,List.getD_cons_succ,PK.sem,PK.move]; intro K hK; have hsz:=hC.below.size; simp only [putE,retOf]
     go_simp
     exact hK _ _ ⟨(Below.refl _ _).alloc (Nat.le_refl _) _,_,rfl,Nat.le_refl _⟩ ⟨_,_,rfl,hsz,ft _ (noDig_slice _ _ _) (noDig_bool _) _,rfl⟩
   refine aa rfl rfl ?_ ?_
   · intro wr x hC; simp only [deps,at_,List.getD_cons_zero,List.getD_cons_succ,PK.sem,PK.move,kNum,kPutNum]; intro hA hB; intro K hK; obtain ⟨g,cs,hx,hg0,hg,hsz⟩:=hA; obtain ⟨u0,v0,rfl⟩:=jb hsz; obtain ⟨A,k,c,hy,hr1,hr2⟩:=hB; obtain ⟨m1,m2,m3,m4⟩:=hg.two; simp only [putE,retOf,hx,hy]
     go_simp
     exact hK _ _ ⟨g,hx,hg0,stored_put2 hg (noDig_slice _ _ _) (noDig_bool _)⟩ ⟨g,_,hx,hg0,ay hg (noDig_slice _ _ _) (noDig_bool _),A,k,c,rfl,(stored_put2 hg (noDig_slice _ _ _) (noDig_bool _)).rr hr1,hr2⟩
   refine aa rfl rfl ?_ ?_
   · intro wr x hC; simp only [deps,at_,List.getD_cons_zero,List.getD_cons_succ,PK.sem,PK.move,kNum,kPutNum]; intro hA hB; intro K hK; obtain ⟨g,cs,hx,hg0,hg,hsz⟩:=hA; obtain ⟨u0,v0,rfl⟩:=jb hsz; obtain ⟨A,k,c,hy,hr1,hr2⟩:=hB; obtain ⟨m1,m2,m3,m4⟩:=hg.two; simp only [putE,retOf,hx,hy]
     go_simp
     exact hK _ _ ⟨g,hx,hg0,stored_put2 hg (noDig_slice _ _ _) (noDig_bool _)⟩ ⟨g,_,hx,hg0,ay hg (noDig_slice _ _ _) (noDig_bool _),A,k,c,rfl,(stored_put2 hg (noDig_slice _ _ _) (noDig_bool _)).rr hr1,hr2⟩
   exact ag rfl
 case en =>
   intro wr x hC hall; have h9:=hall 9 (of_decide_eq_true (by kernel_rfl)); have h10:=hall 10 (of_decide_eq_true (by kernel_rfl)); clear hall; simp only [at_,List.getD_cons_zero,List.getD_cons_succ,PK.sem,kPutNum] at h9 h10; obtain ⟨g8,_,hx8,hs8,e8,A8,k8,c8,rfl,r8,z8⟩:=h9; obtain ⟨g9,_,hx9,hs9,e9,A9,k9,c9,rfl,r9,z9⟩:=h10; simp only [putE,hx8,hx9]; clear hx8 hx9; obtain ⟨i1,i2,_,_⟩:=e8.two; obtain ⟨j1,j2,_,_⟩:=e9.two; have bwr:=bW.trans hC.below; have hzr:=hC.below.size
   have J2 : Holds_ wr (w.heap.size + 1 + 1) #[Value.bool false,Value.slice none 0 0]:=⟨⟨_,(hC.old _ (by omega) (show _ ∉ ([] : List Nat) by simp)).trans K2⟩,by simp [noDig]⟩
   have J3 : Holds_ wr (w.heap.size + 1 + 1 + 1) #[Value.bool false,Value.slice none 0 0]:=⟨⟨_,(hC.old _ (by omega) (show _ ∉ ([] : List Nat) by simp)).trans K3⟩,by simp [noDig]⟩
   have hl8:=e8.lt; have hl9:=e9.lt
   rename_i w4
   clear hC K2 K3 p1 p2 q1 q2
   go_wp2_with fail
   go_simp
   refine az (w.heap.size) [kIs (.agg #[.slice A8 k8 c8,.bool sq]),kInt Q sq,kIs (.agg #[.slice A9 k9 c9,.bool sm]),kInt M sm,kCellInt (w.heap.size + 1 + 1) Q sq,kCellInt (w.heap.size + 1 + 1 + 1) M sm,kIs (.int .i64 0)] [ [],[(0,some 24)],[],[(2,some 26)],[(1,some 25)],[(3,some 27)],[] ] [(0,some 24),(1,some 25),(2,some 26),(3,some 27),(4,none),(5,none),(6,some 6)] [] [] ?n1 ?n2 ?n3 ?n4 ?st ?en
   case n1=>show List.Nodup ([(w.heap.size + 1 + 1),(w.heap.size + 1 + 1 + 1)] : List Nat); simp
   case n2=>show ∀ g ∈ ([(w.heap.size + 1 + 1),(w.heap.size + 1 + 1 + 1)] : List Nat),_; intro g hg; simp only [List.mem_cons,List.not_mem_nil,or_false] at hg; omega
   case n3=>omega
   case n4 =>
     show ∀ g ∈ ([(w.heap.size + 1 + 1),(w.heap.size + 1 + 1 + 1)] : List Nat),∃ cs,Holds_ _ g cs
     intro g hg; simp only [List.mem_cons,List.not_mem_nil,or_false] at hg; rcases hg with rfl | rfl
     · exact ⟨_,J2⟩
     · exact ⟨_,J3⟩
   case st =>
     refine aa rfl rfl ?_ ?_
     · intro wr x hC; simp only [deps,at_,List.getD_cons_zero,PK.sem,PK.move,kIs]; intro K hK; have hce0:=(hC.cell (b:=g8) (by omega) (show _ ∉ ([(w.heap.size + 1 + 1),(w.heap.size + 1 + 1 + 1)] : List Nat) by simp <;> omega) 0).1.trans i1; have hce1:=(hC.cell (b:=g8) (by omega) (show _ ∉ ([(w.heap.size + 1 + 1),(w.heap.size + 1 + 1 + 1)] : List Nat) by simp <;> omega) 1).1.trans i2; simp only [putE,retOf]
       go_simp
       exact hK _ _ (Below.refl _ _) rfl
     refine aa rfl rfl ?_ ?_
     · intro wr x hC; simp only [deps,at_,List.getD_cons_zero,List.getD_cons_succ,PK.sem,PK.move,kInt,kIs]; intro hA; intro K hK; simp only [putE,retOf,hA]
       go_simp
       refine (told_any (hC.rr r8) z8).mono ?_; rintro e w2 ⟨A2,k2,c2,rfl,h1,h2,h3⟩
       go_simp
       exact hK _ _ h3 ⟨A2,k2,c2,rfl,h1,h2⟩
     refine aa rfl rfl ?_ ?_
     · intro wr x hC; simp only [deps,at_,List.getD_cons_zero,List.getD_cons_succ,PK.sem,PK.move,kIs]; intro K hK; have hce0:=(hC.cell (b:=g9) (by omega) (show _ ∉ ([(w.heap.size + 1 + 1),(w.heap.size + 1 + 1 + 1)] : List Nat) by simp <;> omega) 0).1.trans j1; have hce1:=(hC.cell (b:=g9) (by omega) (show _ ∉ ([(w.heap.size + 1 + 1),(w.heap.size + 1 + 1 + 1)] : List Nat) by simp <;> omega) 1).1.trans j2; simp only [putE,retOf]
       go_simp
       exact hK _ _ (Below.refl _ _) rfl
     refine aa rfl rfl ?_ ?_
     · intro wr x hC; simp only [deps,at_,List.getD_cons_zero,List.getD_cons_succ,PK.sem,PK.move,kInt,kIs]; intro hA; intro K hK; simp only [putE,retOf,hA]
       go_simp
       refine (told_any (hC.rr r9) z9).mono ?_; rintro e w2 ⟨A2,k2,c2,rfl,h1,h2,h3⟩
       go_simp
       exact hK _ _ h3 ⟨A2,k2,c2,rfl,h1,h2⟩
     refine aa rfl rfl ?_ ?_
     · intro wr x hC; simp only [deps,at_,List.getD_cons_zero,List.getD_cons_succ,PK.sem,PK.move,kCellInt,kInt]; intro hA; intro K hK; obtain ⟨A,k,c,hx,hr1,hr2⟩:=hA; obtain ⟨u0,v0,hg⟩:=hC.two (show _ ∈ ([(w.heap.size + 1 + 1),(w.heap.size + 1 + 1 + 1)] : List Nat) by simp) J2; obtain ⟨m1,m2,m3,m4⟩:=hg.two; simp only [putE,retOf,hx]
       go_simp
       exact hK _ _ (stored_put2 hg (noDig_bool _) (noDig_slice _ _ _)) ⟨_,ay hg (noDig_bool _) (noDig_slice _ _ _),A,k,c,rfl,(stored_put2 hg (noDig_bool _) (noDig_slice _ _ _)).rr hr1,hr2⟩
     refine aa rfl rfl ?_ ?_
     · intro wr x hC; simp only [deps,at_,List.getD_cons_zero,List.getD_cons_succ,PK.sem,PK.move,kCellInt,kInt]; intro hA; intro K hK; obtain ⟨A,k,c,hx,hr1,hr2⟩:=hA; obtain ⟨u0,v0,hg⟩:=hC.two (show _ ∈ ([(w.heap.size + 1 + 1),(w.heap.size + 1 + 1 + 1)] : List Nat) by simp) J3; obtain ⟨m1,m2,m3,m4⟩:=hg.two; simp only [putE,retOf,hx]
       go_simp
       exact hK _ _ (stored_put2 hg (noDig_bool _) (noDig_slice _ _ _)) ⟨_,ay hg (noDig_bool _) (noDig_slice _ _ _),A,k,c,rfl,(stored_put2 hg (noDig_bool _) (noDig_slice _ _ _)).rr hr1,hr2⟩
     refine aa rfl rfl ?_ ?_
     · intro wr x hC; simp only [deps,at_,List.getD_cons_zero,List.getD_cons_succ,PK.sem,PK.move,kIs]; intro K hK; simp only [putE,retOf]
       go_simp
       exact hK _ _ (Below.refl _ _) rfl
     exact ag rfl
   case en =>
     intro wr x hC hall; have h4:=hall 4 (of_decide_eq_true (by kernel_rfl)); have h5:=hall 5 (of_decide_eq_true (by kernel_rfl)); have h6:=hall 6 (of_decide_eq_true (by kernel_rfl)); clear hall; simp only [at_,List.getD_cons_zero,List.getD_cons_succ,PK.sem,kCellInt,kIs] at h4 h5 h6; obtain ⟨_,e4,A4,k4,c4,rfl,r4,z4⟩:=h4; obtain ⟨_,e5,A5,k5,c5,rfl,r5,z5⟩:=h5; have hbw:=bwr.trans hC.below; obtain ⟨i1,i2,_,_⟩:=e4.two; obtain ⟨j1,j2,_,_⟩:=e5.two; simp only [putE,h6]; clear h6
     go_wp2
     refine bodyPost_ret (v:=.tuple #[.agg #[.bool sq,.slice A4 k4 c4],.agg #[.bool sm,.slice A5 k5 c5],.int .i64 0]) (by simp [results,Tryz.results59,go_sem,i1,i2,j1,j2]) rfl ?_; exact ⟨_,_,rfl,⟨A4,k4,c4,rfl,r4,z4⟩,⟨A5,k5,c5,rfl,r5,z5⟩,hbw⟩
end Go.Proofs.YtifgcjpgelbelaaGreatDoor

/- The answer's Key (package whetstoneref04): the Key of a term in memory. Premises: the library's table as it is laid; the Key has at most 100000000 bytes. The answer's Of (package whetstoneref04): the term of any text of at most 1000000 bytes, or that there is none. Premise: the library's table as it is laid. -/
import Derived.Test.YtdkgpnkcdnfniaaDoorTFmt
import Derived.Test.YtdkgpnkcdnfniaaDoorRTermQ
import Derived.Deep.RegionHeld3
import Derived.Test.YtdkgpnkcdnfniaaDoorRTerm
set_option linter.unusedVariables false
set_option linter.unusedSimpArgs false
namespace Go.Proofs.YtdkgpnkcdnfniaaDoor
open Go.RowKit Go.Lib

theorem itoa_nat (u : Nat) : Lib.itoa (u : Int) = decDigits u := by
  unfold Lib.itoa
  rw [if_neg (by omega)]
  rfl
theorem itoa_r {w : World} (u : Nat) (hu : u < 9223372036854775808) (ht : Tab w) : Calls Tryd.prog 52 #[.int .i64 u] w fun e w' => e = .returned (.string ⟨(decDigits u).toArray⟩) ∧ Below w.heap.size w w' := by
  refine (Tryd.strconv_Itoa u (by omega) (by omega) w ht).mono ?_
  rintro e w' ⟨rfl, k, os, rfl⟩
  exact ⟨by rw [itoa_nat], Lib.below_grow w.heap.size w (Nat.le_refl _) k os⟩
theorem ba_app (a b : List UInt8) : (⟨a.toArray⟩ : ByteArray) ++ ⟨b.toArray⟩ = ⟨(a ++ b).toArray⟩ := by
  apply ByteArray.ext
  simp
/-- What a Key has ahead of its number; then of its digits. -/
def keyA (t : Tm) : List UInt8 := decDigits t.kind.toNat ++ 32 :: (decDigits t.name.size ++ 58 :: (t.name.data.toList ++ [32]))
def keyB (t : Tm) : List UInt8 := keyA t ++ (if t.neg then [45] else [])
theorem key_parts (t : Tm) : keyK (preT t) = keyB t ++ (digsK t.ds ++ 32 :: (decDigits t.kids.length ++ 59 :: keyK (preL t.kids))) := by
  have e : keyK (preT t) = headK t ++ keyK (preL t.kids) := by rw [preT_eq]; rfl
  rw [e]
  unfold headK keyB keyA
  simp
theorem ba_one (c : UInt8) : (⟨#[c]⟩ : ByteArray) = ⟨[c].toArray⟩ := rfl
theorem key_a {t : Tm} {kn : Nat} {S1 SK SN : ByteArray} (h : S1 = SK ++ { data := #[32] } ++ SN ++ { data := #[58] } ++ t.name ++ { data := #[32] }) (hkn : (kn : Int) = t.kind) (hs : SK = ⟨(decDigits kn).toArray⟩ ∧ SN = ⟨(decDigits t.name.size).toArray⟩) (hz : SK.size ≤ 20 ∧ SN.size ≤ 20 ∧ t.name.size ≤ 100000000) : S1 = ⟨(keyA t).toArray⟩ ∧ S1.size ≤ 100000100 := by
  have e1 : t.kind.toNat = kn := by omega
  have en : t.name = ⟨t.name.data.toList.toArray⟩ := by cases t.name; simp
  refine ⟨?_, ?_⟩
  · rw [h, hs.1, hs.2, ba_one, ba_one, ba_app, ba_app, ba_app]
    unfold keyA
    rw [e1]
    conv => lhs; rw [en]
    rw [ba_app, ba_app]
    simp
  · rw [h]
    simp only [ByteArray.size_append]
    have h1 : (⟨#[32]⟩ : ByteArray).size = 1 := rfl
    have h2 : (⟨#[58]⟩ : ByteArray).size = 1 := rfl
    omega
theorem key_b {t : Tm} {S1 : ByteArray} {b : Bool} (h : S1 = ⟨(keyA t).toArray⟩ ∧ S1.size ≤ 100000100) (hb : b = t.neg) : (if b then S1 ++ { data := #[45] } else S1) = ⟨(keyB t).toArray⟩ := by
  unfold keyB
  rw [← hb, h.1]
  cases b with
  | true => simp only [if_true]; rw [ba_one, ba_app]
  | false => simp
def keyC (t : Tm) : List UInt8 := keyB t ++ (digsK t.ds ++ 32 :: (decDigits t.kids.length ++ [59]))
theorem key_whole (t : Tm) : keyK (preT t) = keyC t ++ keyK (preL t.kids) := by
  rw [key_parts]; unfold keyC; simp
theorem digsK_take {ds : List Nat} {i d : Nat} (h : ds[i]? = some d) : digsK (ds.take (i + 1)) = digsK (ds.take i) ++ (decDigits d ++ [46]) := by
  rw [List.take_add_one, h, digsK_append]; rfl
theorem key_d {t : Tm} {Sv D : ByteArray} {i d : Nat} (h : Sv = ⟨(keyB t ++ digsK (t.ds.take i)).toArray⟩) (hD : D = ⟨(decDigits d).toArray⟩ ∧ t.ds[i]? = some d) : Sv ++ D ++ { data := #[46] } = ⟨(keyB t ++ digsK (t.ds.take (i + 1))).toArray⟩ := by
  rw [h, hD.1, digsK_take hD.2, ba_one, ba_app, ba_app]; simp
theorem key_c {t : Tm} {Sv D : ByteArray} (h : Sv = ⟨(keyB t ++ digsK (t.ds.take t.ds.length)).toArray⟩) (hD : D = ⟨(decDigits t.kids.length).toArray⟩) : Sv ++ { data := #[32] } ++ D ++ { data := #[59] } = ⟨(keyC t ++ keyK (preL (t.kids.take 0))).toArray⟩ := by
  rw [h, hD, List.take_length, ba_one, ba_one, ba_app, ba_app, ba_app, List.take_zero, preL_nil]
  unfold keyC keyK
  simp
theorem keyK_take {l : List Tm} {i : Nat} {k : Tm} (h : l[i]? = some k) : keyK (preL (l.take (i + 1))) = keyK (preL (l.take i)) ++ keyK (preT k) := by
  rw [List.take_add_one, h, preL_append]
  show keyK (preL (l.take i) ++ preL [k]) = _
  rw [preL_cons, preL_nil, List.append_nil, ← preT_eq]
  exact List.flatMap_append ..
theorem key_k {t k : Tm} {Sv D : ByteArray} {i : Nat} (h : Sv = ⟨(keyC t ++ keyK (preL (t.kids.take i))).toArray⟩) (hD : D = ⟨(keyK (preT k)).toArray⟩ ∧ t.kids[i]? = some k) : Sv ++ D = ⟨(keyC t ++ keyK (preL (t.kids.take (i + 1)))).toArray⟩ := by
  rw [h, hD.1, keyK_take hD.2, ba_app]; simp
theorem digsK_take_len : ∀ (ds : List Nat) (i : Nat), (digsK (ds.take i)).length ≤ (digsK ds).length
  | [], i => by simp
  | d :: ds, 0 => by simp [digsK]
  | d :: ds, i + 1 => by
    have := digsK_take_len ds i
    rw [List.take_succ_cons]
    unfold digsK
    simp only [List.length_append, List.length_cons]
    omega
theorem key_len1 {t : Tm} {Sv : ByteArray} {i : Nat} (hl : (keyK (preT t)).length ≤ 100000000) (h : Sv = ⟨(keyB t ++ digsK (t.ds.take i)).toArray⟩) : Sv.size ≤ 100000000 := by
  have e : Sv.size = (keyB t ++ digsK (t.ds.take i)).length := by rw [h]; exact List.size_toArray ..
  have h2 := digsK_take_len t.ds i
  rw [key_parts] at hl
  rw [e]
  simp only [List.length_append, List.length_cons] at hl ⊢
  omega
theorem key_len2 {t k : Tm} {Sv : ByteArray} {i : Nat} (hl : (keyK (preT t)).length ≤ 100000000) (h : Sv = ⟨(keyC t ++ keyK (preL (t.kids.take i))).toArray⟩) (hk : t.kids[i]? = some k) : Sv.size + (keyK (preT k)).length ≤ 100000000 := by
  have e : Sv.size = (keyC t ++ keyK (preL (t.kids.take i))).length := by rw [h]; exact List.size_toArray ..
  have h2 : (keyK (preL (t.kids.take (i + 1)))).length ≤ (keyK (preL t.kids)).length := by
    have e2 : keyK (preL t.kids) = keyK (preL (t.kids.take (i + 1))) ++ keyK (preL (t.kids.drop (i + 1))) := by
      have : keyK (preL (t.kids.take (i + 1) ++ t.kids.drop (i + 1))) = keyK (preL (t.kids.take (i + 1))) ++ keyK (preL (t.kids.drop (i + 1))) := by rw [preL_append]; exact List.flatMap_append ..
      rw [List.take_append_drop] at this
      exact this
    rw [e2, List.length_append]
    exact Nat.le_add_right _ _
  rw [keyK_take hk, List.length_append] at h2
  rw [key_whole, List.length_append] at hl
  rw [e, List.length_append]
  omega
/-- The answer tells that term's Key, in whatever memory it lies. -/
def KeyR (t : Tm) : Prop := ∀ (W : World) (u0 u1 u2 u3 u4 : Value), TmV W (.agg #[u0, u1, u2, u3, u4]) t → TabM W.heap.size W → Calls Tryd.prog 27 #[.agg #[u0, u1, u2, u3, u4]] W fun e w' => e = .returned (.string ⟨(keyK (preT t)).toArray⟩) ∧ Below W.heap.size W w'
set_option maxRecDepth 100000 in
set_option maxHeartbeats 6400000 in
theorem key_one {t : Tm} (hK : ∀ k ∈ t.kids, KeyR k) (hlen : (keyK (preT t)).length ≤ 100000000) : KeyR t := by
  intro W u0 u1 u2 u3 u4 ht htab
  obtain ⟨A, K, c, c', e, hkd, hnm, hrow, hsm, hdl, hkl, hkids⟩ := ht.parts
  simp only [Value.agg.injEq, Array.mk.injEq, List.cons.injEq, and_true] at e
  obtain ⟨rfl, rfl, rfl, rfl, rfl⟩ := e
  obtain ⟨kn, hkn⟩ : ∃ kn : Nat, (kn : Int) = t.kind := by
    refine ⟨t.kind.toNat, ?_⟩
    have := (ht.good t (by rw [preT_eq]; exact List.mem_cons_self ..)).kind
    omega
  have hkn8 : kn < 256 := by
    have := (ht.good t (by rw [preT_eq]; exact List.mem_cons_self ..)).kind
    omega
  have g0 : (W.alloc (.cells #[.int .u8 t.kind, .string t.name, .bool t.neg, .slice A t.ds.length c, .slice K t.kids.length c'] 28)).heap[W.heap.size]? = some (.cells #[.int .u8 t.kind, .string t.name, .bool t.neg, .slice A t.ds.length c, .slice K t.kids.length c'] 28 (0, 0)) := heap_alloc_new W _
  have b0 : Below W.heap.size W (W.alloc (.cells #[.int .u8 t.kind, .string t.name, .bool t.neg, .slice A t.ds.length c, .slice K t.kids.length c'] 28)) := (Below.refl _ _).alloc (Nat.le_refl _) _
  obtain ⟨w1, hw1⟩ : ∃ w1, w1 = W.alloc (.cells #[.int .u8 t.kind, .string t.name, .bool t.neg, .slice A t.ds.length c, .slice K t.kids.length c'] 28) := ⟨_, rfl⟩
  rw [← hw1] at g0 b0
  have hsz : w1.heap.size = W.heap.size + 1 := by rw [hw1]; exact World.size_alloc ..
  have HC := hid (show ∀ w', Below w1.heap.size w1 w' → w'.cell? ⟨W.heap.size, 0, none⟩ = some (.int .u8 t.kind) ∧ w'.cell? ⟨W.heap.size, 1, none⟩ = some (.string t.name) ∧ w'.cell? ⟨W.heap.size, 2, none⟩ = some (.bool t.neg) ∧ w'.cell? ⟨W.heap.size, 3, none⟩ = some (.slice A t.ds.length c) ∧ w'.cell? ⟨W.heap.size, 4, none⟩ = some (.slice K t.kids.length c') from fun w' hb => by
    have p0 := (hb.block _ (by omega)).trans g0
    exact ⟨cell_of_row w' _ 0 _ _ _ p0, cell_of_row w' _ 1 _ _ _ p0, cell_of_row w' _ 2 _ _ _ p0, cell_of_row w' _ 3 _ _ _ p0, cell_of_row w' _ 4 _ _ _ p0⟩)
  have HT := hid (show ∀ w', Below w1.heap.size w1 w' → TabM w'.heap.size w' from fun w' hb => htab.on (b0.trans (hb.mono b0.size)) (Nat.le_trans b0.size hb.size))
  have HB := hid (show _ ∧ _ ∧ _ ∧ _ ∧ _ ∧ _ ∧ _ ∧ _ ∧ _ from ⟨b0, hrow, hsm, hdl, hkl, hkids, hkn, hkn8, hnm⟩)
  have HL := hid (show _ ∧ _ from ⟨hlen, hK⟩)
  have I1 := hid (fun w' (hb : Below w1.heap.size w1 w') => itoa_r kn (by omega) ((HT.out w' hb) w' (Below.refl _ _)))
  have I2 := hid (fun w' (hb : Below w1.heap.size w1 w') => itoa_r t.name.size (by omega) ((HT.out w' hb) w' (Below.refl _ _)))
  have ekn : (⟨(decDigits kn).toArray⟩ : ByteArray).size ≤ 20 := by
    show (decDigits kn).toArray.size ≤ 20
    rw [List.size_toArray]; exact dec_len (by omega)
  have enn : (⟨(decDigits t.name.size).toArray⟩ : ByteArray).size ≤ 20 := by
    show (decDigits t.name.size).toArray.size ≤ 20
    rw [List.size_toArray]; exact dec_len (by omega)
  obtain ⟨SK, hSK⟩ : ∃ SK : ByteArray, SK = ⟨(decDigits kn).toArray⟩ := ⟨_, rfl⟩
  obtain ⟨SN, hSN⟩ : ∃ SN : ByteArray, SN = ⟨(decDigits t.name.size).toArray⟩ := ⟨_, rfl⟩
  rw [← hSK] at I1 ekn
  rw [← hSN] at I2 enn
  have HSS := hid (show _ ∧ _ from ⟨hSK, hSN⟩)
  have hnm8 : t.name.size ≤ 100000000 := by
    have h1 : (headK t).length ≤ (keyK (preT t)).length := by rw [preT_eq, keyK, List.flatMap_cons, List.length_append]; omega
    have h2 : t.name.data.toList.length = t.name.size := Array.length_toList
    unfold headK at h1
    simp only [List.length_append, List.length_cons, h2] at h1
    omega
  have ew : IntKind.i64.wrap t.kind = t.kind := by rw [IntKind.wrap_i64]; omega
  have hk0 : 0 ≤ t.kind := by omega
  have hk1 : t.kind < 256 := by omega
  rw [hkn] at I1
  have C0 := HC.out w1 (Below.refl _ _)
  obtain ⟨q0, q1, q2, q3, q4⟩ := C0
  have HW1 := hid hw1
  have z1 : ¬9223372036854775807 < SK.size + 1 := by omega
  have z2 : ¬9223372036854775807 < SK.size + 1 + SN.size := by omega
  have z3 : ¬9223372036854775807 < SK.size + 1 + SN.size + 1 := by omega
  have z4 : ¬9223372036854775807 < SK.size + 1 + SN.size + 1 + t.name.size := by omega
  have z5 : ¬9223372036854775807 < SK.size + 1 + SN.size + 1 + t.name.size + 1 := by omega
  have HZ := hid (show _ ∧ _ ∧ _ from ⟨ekn, enn, hnm8⟩)
  clear hkd hnm hrow hsm hdl hkl hkids hkn8 ht htab g0 b0 hlen hK hsz hSK hSN hw1 ekn enn hnm8 hkn
  go_enter Tryd.func27, Tryd.ntmps27
  go_wp2_with fail
  rw [← HW1.out]
  go_region_held3 (fun w' => w'.cell? ⟨W.heap.size, 0, none⟩ = some (.int .u8 t.kind) ∧ w'.cell? ⟨W.heap.size, 1, none⟩ = some (.string t.name))
    (first
      | exact ⟨(HC.out _ ((Below.refl _ _).drew)).1, (HC.out _ ((Below.refl _ _).drew)).2.1⟩
      | exact ⟨(HC.out _ N2.out).1, (HC.out _ N2.out).2.1⟩
      | exact ⟨(HC.out _ N1.out).1, (HC.out _ N1.out).2.1⟩
      | go_keep)
    (first
      | (go_at_call 52; (with_reducible refine (I1.out w1.drew ((Below.refl _ _).drew)).mono ?_); rintro e wa ⟨rfl, hba⟩; have N1 := Lib.hid (show Below w1.heap.size w1 wa from ((Below.refl _ _).drew).trans hba); clear hba)
      | (go_at_call 52; (with_reducible refine (I2.out wa N1.out).mono ?_); rintro e wb ⟨rfl, hbb⟩; have N2 := Lib.hid (show Below w1.heap.size w1 wb from N1.out.trans (hbb.mono N1.out.size)); clear hbb)
      | (go_at_call 52; (with_reducible refine (I2.out w1.drew ((Below.refl _ _).drew)).mono ?_); rintro e wa ⟨rfl, hba⟩; have N1 := Lib.hid (show Below w1.heap.size w1 wa from ((Below.refl _ _).drew).trans hba); clear hba)
      | (go_at_call 52; (with_reducible refine (I1.out wa N1.out).mono ?_); rintro e wb ⟨rfl, hbb⟩; have N2 := Lib.hid (show Below w1.heap.size w1 wb from N1.out.trans (hbb.mono N1.out.size)); clear hbb))
  all_goals (clear z1 z2 z3 z4 z5 hk0 hk1 ew I1 I2 N1; rename_i hKs hHeld; clear hHeld)
  all_goals
    have C2 := HC.out wb N2.out
    obtain ⟨q0, q1, q2, q3, q4⟩ := C2
    obtain ⟨S1, hS1⟩ : ∃ S1 : ByteArray, S1 = SK ++ { data := #[32] } ++ SN ++ { data := #[58] } ++ t.name ++ { data := #[32] } := ⟨_, rfl⟩
    have HS1 := hid (show S1 = ⟨(keyA t).toArray⟩ ∧ S1.size ≤ 100000100 from key_a hS1 HB.out.2.2.2.2.2.2.1 HSS.out HZ.out)
    rw [← hS1]
    clear hS1
    have z1 : ¬9223372036854775807 < S1.size + 1 := by have := HS1.out; omega
    generalize hng : t.neg = ng at q2
    rcases ng with _ | _
    · obtain ⟨S2, hS2⟩ : ∃ S2 : ByteArray, S2 = S1 := ⟨_, rfl⟩
      have HS2 := hid (show S2 = ⟨(keyB t).toArray⟩ from by rw [hS2]; exact key_b HS1.out hng.symm)
      clear HS1
      subst hS2
      clear z1 hng
      go_wp2
      go_loopw [3, 4] (fun sv iv wr => ∃ (i : Nat) (Sv : ByteArray), i ≤ t.ds.length ∧ iv = .int .i64 i ∧ sv = .string Sv ∧ Hid (Sv = ⟨(keyB t ++ digsK (t.ds.take i)).toArray⟩ ∧ Below w1.heap.size w1 wr)) (fun _ iv _ => t.ds.length - (RowKit.intOf iv).toNat)
      case atStart => exact ⟨0, S2, Nat.zero_le _, rfl, rfl, hid ⟨by rw [HS2.out]; simp [digsK], N2.out⟩⟩
      case round =>
        obtain ⟨i, Sv, hi, rfl, rfl, HI⟩ := hrel
        have hsv := key_len1 HL.out.1 HI.out.1
        have hdl := HB.out.2.2.2.1
        by_cases hlt : i < t.ds.length
        · have hlt' : (i : Int) < (t.ds.length : Int) := by omega
          obtain ⟨d, hd⟩ : ∃ d, t.ds[i]? = some d := ⟨_, List.getElem?_eq_getElem hlt⟩
          obtain ⟨a, rfl, hcell⟩ := HB.out.2.1 i (.int .u32 d) (by unfold u32s; rw [List.getElem?_map, hd]; rfl)
          have hcw := (HB.out.1.trans (HI.out.2.mono HB.out.1.size)).cell (cell_lt hcell) |>.trans hcell
          have hd32 : d < 4294967296 := HB.out.2.2.1 d (List.mem_of_getElem? hd)
          obtain ⟨p0, p1, p2, p3, p4⟩ := HC.out wr HI.out.2
          obtain ⟨D, hD⟩ : ∃ D : ByteArray, D = ⟨(decDigits d).toArray⟩ := ⟨_, rfl⟩
          have HD := hid (show _ ∧ _ from ⟨hD, hd⟩)
          have hDl : D.size ≤ 20 := by rw [hD]; show (decDigits d).toArray.size ≤ 20; rw [List.size_toArray]; exact dec_len (by omega)
          have I3 := hid (itoa_r (w := wr) d (by omega) (HT.out wr HI.out.2 wr (Below.refl _ _)))
          rw [← hD] at I3
          have z1 : ¬9223372036854775807 < Sv.size + D.size := by omega
          have z2 : ¬9223372036854775807 < Sv.size + D.size + 1 := by omega
          have ew : IntKind.i64.wrap (d : Int) = d := by rw [IntKind.wrap_i64]; omega
          have hd0 : (0 : Int) ≤ (d : Int) := by omega
          have hd1 : (d : Int) < 4294967296 := by omega
          clear hcell hd hD hd32 hDl hsv
          go_wp2_with fail
          refine I3.out.mono ?_
          rintro e w3 ⟨rfl, hb3⟩
          have HE := hid (show i + 1 ≤ t.ds.length ∧ Sv ++ D ++ { data := #[46] } = ⟨(keyB t ++ digsK (t.ds.take (i + 1))).toArray⟩ ∧ Below w1.heap.size w1 w3 from ⟨hlt, key_d HI.out.1 HD.out, HI.out.2.trans (hb3.mono HI.out.2.size)⟩)
          clear hb3 I3 hlt
          go_wp2
          go_roundw
          case rel => exact ⟨i + 1, Sv ++ D ++ { data := #[46] }, HE.out.1, by go_num, rfl, hid HE.out.2⟩
          case measure => have := HE.out.1; simp [RowKit.intOf]; omega
        · have hi2 : i = t.ds.length := by omega
          subst hi2
          have hsv2 := hsv
          obtain ⟨p0, p1, p2, p3, p4⟩ := HC.out wr HI.out.2
          obtain ⟨D, hD⟩ : ∃ D : ByteArray, D = ⟨(decDigits t.kids.length).toArray⟩ := ⟨_, rfl⟩
          have HD := hid hD
          have hkl := HB.out.2.2.2.2.1
          have hDl : D.size ≤ 20 := by rw [hD]; show (decDigits t.kids.length).toArray.size ≤ 20; rw [List.size_toArray]; exact dec_len (by omega)
          have I3 := hid (itoa_r (w := wr) t.kids.length (by omega) (HT.out wr HI.out.2 wr (Below.refl _ _)))
          rw [← hD] at I3
          have z0 : ¬9223372036854775807 < Sv.size + 1 := by omega
          have z1 : ¬9223372036854775807 < Sv.size + 1 + D.size := by omega
          have z2 : ¬9223372036854775807 < Sv.size + 1 + D.size + 1 := by omega
          clear hD hDl hsv hsv2 hlt hkl
          go_wp2_with fail
          refine I3.out.mono ?_
          rintro e w3 ⟨rfl, hb3⟩
          have HE := hid (show Sv ++ { data := #[32] } ++ D ++ { data := #[59] } = ⟨(keyC t ++ keyK (preL (t.kids.take 0))).toArray⟩ ∧ Below w1.heap.size w1 w3 from ⟨key_c HI.out.1 HD.out, HI.out.2.trans (hb3.mono HI.out.2.size)⟩)
          clear hb3 I3
          go_wp2
          go_loopw [3, 5] (fun sv iv wr => ∃ (i : Nat) (Sv : ByteArray), i ≤ t.kids.length ∧ iv = .int .i64 i ∧ sv = .string Sv ∧ Hid (Sv = ⟨(keyC t ++ keyK (preL (t.kids.take i))).toArray⟩ ∧ Below w1.heap.size w1 wr)) (fun _ iv _ => t.kids.length - (RowKit.intOf iv).toNat)
          case atStart => exact ⟨0, _, Nat.zero_le _, rfl, rfl, HE⟩
          case round =>
            obtain ⟨i, Sv, hi, rfl, rfl, HI⟩ := hrel
            have hkl := HB.out.2.2.2.2.1
            by_cases hlt : i < t.kids.length
            · have hlt' : (i : Int) < (t.kids.length : Int) := by omega
              obtain ⟨kd, hkd⟩ : ∃ kd, t.kids[i]? = some kd := ⟨_, List.getElem?_eq_getElem hlt⟩
              obtain ⟨ad, x0, x1, x2, x3, x4, rfl, ⟨y0, y1, y2, y3, y4⟩, htm⟩ := (HB.out.2.2.2.2.2.1.below (HB.out.1.trans (HI.out.2.mono HB.out.1.size))) i kd hkd
              obtain ⟨p0, p1, p2, p3, p4⟩ := HC.out wr HI.out.2
              have hsv := key_len2 HL.out.1 HI.out.1 hkd
              have I3 := hid (HL.out.2 kd (List.mem_of_getElem? hkd) wr x0 x1 x2 x3 x4 htm (HT.out wr HI.out.2))
              obtain ⟨D, hD⟩ : ∃ D : ByteArray, D = ⟨(keyK (preT kd)).toArray⟩ := ⟨_, rfl⟩
              have hDl : D.size = (keyK (preT kd)).length := by rw [hD]; exact List.size_toArray ..
              rw [← hD] at I3
              have HD := hid (show _ ∧ _ from ⟨hD, hkd⟩)
              have z1 : ¬9223372036854775807 < Sv.size + D.size := by omega
              have r1 : wr.cell? { block := (ad.add (i * 5)).block, off := (ad.add (i * 5)).off + 1 } = some x1 := y1
              have r2 : wr.cell? { block := (ad.add (i * 5)).block, off := (ad.add (i * 5)).off + 2 } = some x2 := y2
              have r3 : wr.cell? { block := (ad.add (i * 5)).block, off := (ad.add (i * 5)).off + 3 } = some x3 := y3
              have r4 : wr.cell? { block := (ad.add (i * 5)).block, off := (ad.add (i * 5)).off + 4 } = some x4 := y4
              clear hkd hD hDl hsv htm
              go_wp2_with fail
              refine I3.out.mono ?_
              rintro e w3 ⟨rfl, hb3⟩
              have HE := hid (show i + 1 ≤ t.kids.length ∧ Sv ++ D = ⟨(keyC t ++ keyK (preL (t.kids.take (i + 1)))).toArray⟩ ∧ Below w1.heap.size w1 w3 from ⟨hlt, key_k HI.out.1 HD.out, HI.out.2.trans (hb3.mono HI.out.2.size)⟩)
              clear hb3 I3 hlt
              go_wp2
              go_roundw
              case rel => exact ⟨i + 1, Sv ++ D, HE.out.1, by go_num, rfl, hid HE.out.2⟩
              case measure => have := HE.out.1; simp [RowKit.intOf]; omega
            · have hi2 : i = t.kids.length := by omega
              subst hi2
              obtain ⟨p0, p1, p2, p3, p4⟩ := HC.out wr HI.out.2
              have HE := hid (show Sv = ⟨(keyK (preT t)).toArray⟩ ∧ Below W.heap.size W wr from ⟨by rw [HI.out.1, List.take_length, ← key_whole], HB.out.1.trans (HI.out.2.mono HB.out.1.size)⟩)
              clear HI
              go_wp2
              go_ret
              exact ⟨by rw [HE.out.1]; rfl, HE.out.2⟩
    · have HS2 := hid (show S1 ++ { data := #[45] } = ⟨(keyB t).toArray⟩ from key_b HS1.out hng.symm)
      clear HS1 hng
      go_wp2
      obtain ⟨S2, hS2⟩ : ∃ S2 : ByteArray, S2 = S1 ++ { data := #[45] } := ⟨_, rfl⟩
      rw [← hS2] at HS2 ⊢
      clear hS2
      go_loopw [3, 4] (fun sv iv wr => ∃ (i : Nat) (Sv : ByteArray), i ≤ t.ds.length ∧ iv = .int .i64 i ∧ sv = .string Sv ∧ Hid (Sv = ⟨(keyB t ++ digsK (t.ds.take i)).toArray⟩ ∧ Below w1.heap.size w1 wr)) (fun _ iv _ => t.ds.length - (RowKit.intOf iv).toNat)
      case atStart => exact ⟨0, S2, Nat.zero_le _, rfl, rfl, hid ⟨by rw [HS2.out]; simp [digsK], N2.out⟩⟩
      case round =>
        obtain ⟨i, Sv, hi, rfl, rfl, HI⟩ := hrel
        have hsv := key_len1 HL.out.1 HI.out.1
        have hdl := HB.out.2.2.2.1
        by_cases hlt : i < t.ds.length
        · have hlt' : (i : Int) < (t.ds.length : Int) := by omega
          obtain ⟨d, hd⟩ : ∃ d, t.ds[i]? = some d := ⟨_, List.getElem?_eq_getElem hlt⟩
          obtain ⟨a, rfl, hcell⟩ := HB.out.2.1 i (.int .u32 d) (by unfold u32s; rw [List.getElem?_map, hd]; rfl)
          have hcw := (HB.out.1.trans (HI.out.2.mono HB.out.1.size)).cell (cell_lt hcell) |>.trans hcell
          have hd32 : d < 4294967296 := HB.out.2.2.1 d (List.mem_of_getElem? hd)
          obtain ⟨p0, p1, p2, p3, p4⟩ := HC.out wr HI.out.2
          obtain ⟨D, hD⟩ : ∃ D : ByteArray, D = ⟨(decDigits d).toArray⟩ := ⟨_, rfl⟩
          have HD := hid (show _ ∧ _ from ⟨hD, hd⟩)
          have hDl : D.size ≤ 20 := by rw [hD]; show (decDigits d).toArray.size ≤ 20; rw [List.size_toArray]; exact dec_len (by omega)
          have I3 := hid (itoa_r (w := wr) d (by omega) (HT.out wr HI.out.2 wr (Below.refl _ _)))
          rw [← hD] at I3
          have z1 : ¬9223372036854775807 < Sv.size + D.size := by omega
          have z2 : ¬9223372036854775807 < Sv.size + D.size + 1 := by omega
          have ew : IntKind.i64.wrap (d : Int) = d := by rw [IntKind.wrap_i64]; omega
          have hd0 : (0 : Int) ≤ (d : Int) := by omega
          have hd1 : (d : Int) < 4294967296 := by omega
          clear hcell hd hD hd32 hDl hsv
          go_wp2_with fail
          refine I3.out.mono ?_
          rintro e w3 ⟨rfl, hb3⟩
          have HE := hid (show i + 1 ≤ t.ds.length ∧ Sv ++ D ++ { data := #[46] } = ⟨(keyB t ++ digsK (t.ds.take (i + 1))).toArray⟩ ∧ Below w1.heap.size w1 w3 from ⟨hlt, key_d HI.out.1 HD.out, HI.out.2.trans (hb3.mono HI.out.2.size)⟩)
          clear hb3 I3 hlt
          go_wp2
          go_roundw
          case rel => exact ⟨i + 1, Sv ++ D ++ { data := #[46] }, HE.out.1, by go_num, rfl, hid HE.out.2⟩
          case measure => have := HE.out.1; simp [RowKit.intOf]; omega
        · have hi2 : i = t.ds.length := by omega
          subst hi2
          have hsv2 := hsv
          obtain ⟨p0, p1, p2, p3, p4⟩ := HC.out wr HI.out.2
          obtain ⟨D, hD⟩ : ∃ D : ByteArray, D = ⟨(decDigits t.kids.length).toArray⟩ := ⟨_, rfl⟩
          have HD := hid hD
          have hkl := HB.out.2.2.2.2.1
          have hDl : D.size ≤ 20 := by rw [hD]; show (decDigits t.kids.length).toArray.size ≤ 20; rw [List.size_toArray]; exact dec_len (by omega)
          have I3 := hid (itoa_r (w := wr) t.kids.length (by omega) (HT.out wr HI.out.2 wr (Below.refl _ _)))
          rw [← hD] at I3
          have z0 : ¬9223372036854775807 < Sv.size + 1 := by omega
          have z1 : ¬9223372036854775807 < Sv.size + 1 + D.size := by omega
          have z2 : ¬9223372036854775807 < Sv.size + 1 + D.size + 1 := by omega
          clear hD hDl hsv hsv2 hlt hkl
          go_wp2_with fail
          refine I3.out.mono ?_
          rintro e w3 ⟨rfl, hb3⟩
          have HE := hid (show Sv ++ { data := #[32] } ++ D ++ { data := #[59] } = ⟨(keyC t ++ keyK (preL (t.kids.take 0))).toArray⟩ ∧ Below w1.heap.size w1 w3 from ⟨key_c HI.out.1 HD.out, HI.out.2.trans (hb3.mono HI.out.2.size)⟩)
          clear hb3 I3
          go_wp2
          go_loopw [3, 5] (fun sv iv wr => ∃ (i : Nat) (Sv : ByteArray), i ≤ t.kids.length ∧ iv = .int .i64 i ∧ sv = .string Sv ∧ Hid (Sv = ⟨(keyC t ++ keyK (preL (t.kids.take i))).toArray⟩ ∧ Below w1.heap.size w1 wr)) (fun _ iv _ => t.kids.length - (RowKit.intOf iv).toNat)
          case atStart => exact ⟨0, _, Nat.zero_le _, rfl, rfl, HE⟩
          case round =>
            obtain ⟨i, Sv, hi, rfl, rfl, HI⟩ := hrel
            have hkl := HB.out.2.2.2.2.1
            by_cases hlt : i < t.kids.length
            · have hlt' : (i : Int) < (t.kids.length : Int) := by omega
              obtain ⟨kd, hkd⟩ : ∃ kd, t.kids[i]? = some kd := ⟨_, List.getElem?_eq_getElem hlt⟩
              obtain ⟨ad, x0, x1, x2, x3, x4, rfl, ⟨y0, y1, y2, y3, y4⟩, htm⟩ := (HB.out.2.2.2.2.2.1.below (HB.out.1.trans (HI.out.2.mono HB.out.1.size))) i kd hkd
              obtain ⟨p0, p1, p2, p3, p4⟩ := HC.out wr HI.out.2
              have hsv := key_len2 HL.out.1 HI.out.1 hkd
              have I3 := hid (HL.out.2 kd (List.mem_of_getElem? hkd) wr x0 x1 x2 x3 x4 htm (HT.out wr HI.out.2))
              obtain ⟨D, hD⟩ : ∃ D : ByteArray, D = ⟨(keyK (preT kd)).toArray⟩ := ⟨_, rfl⟩
              have hDl : D.size = (keyK (preT kd)).length := by rw [hD]; exact List.size_toArray ..
              rw [← hD] at I3
              have HD := hid (show _ ∧ _ from ⟨hD, hkd⟩)
              have z1 : ¬9223372036854775807 < Sv.size + D.size := by omega
              have r1 : wr.cell? { block := (ad.add (i * 5)).block, off := (ad.add (i * 5)).off + 1 } = some x1 := y1
              have r2 : wr.cell? { block := (ad.add (i * 5)).block, off := (ad.add (i * 5)).off + 2 } = some x2 := y2
              have r3 : wr.cell? { block := (ad.add (i * 5)).block, off := (ad.add (i * 5)).off + 3 } = some x3 := y3
              have r4 : wr.cell? { block := (ad.add (i * 5)).block, off := (ad.add (i * 5)).off + 4 } = some x4 := y4
              clear hkd hD hDl hsv htm
              go_wp2_with fail
              refine I3.out.mono ?_
              rintro e w3 ⟨rfl, hb3⟩
              have HE := hid (show i + 1 ≤ t.kids.length ∧ Sv ++ D = ⟨(keyC t ++ keyK (preL (t.kids.take (i + 1)))).toArray⟩ ∧ Below w1.heap.size w1 w3 from ⟨hlt, key_k HI.out.1 HD.out, HI.out.2.trans (hb3.mono HI.out.2.size)⟩)
              clear hb3 I3 hlt
              go_wp2
              go_roundw
              case rel => exact ⟨i + 1, Sv ++ D, HE.out.1, by go_num, rfl, hid HE.out.2⟩
              case measure => have := HE.out.1; simp [RowKit.intOf]; omega
            · have hi2 : i = t.kids.length := by omega
              subst hi2
              obtain ⟨p0, p1, p2, p3, p4⟩ := HC.out wr HI.out.2
              have HE := hid (show Sv = ⟨(keyK (preT t)).toArray⟩ ∧ Below W.heap.size W wr from ⟨by rw [HI.out.1, List.take_length, ← key_whole], HB.out.1.trans (HI.out.2.mono HB.out.1.size)⟩)
              clear HI
              go_wp2
              go_ret
              exact ⟨by rw [HE.out.1]; rfl, HE.out.2⟩
/-- The answer's Key, of any term in memory. -/
theorem keyR_ok : ∀ (n : Nat) {t : Tm}, (preT t).length ≤ n → (keyK (preT t)).length ≤ 100000000 → KeyR t
  | 0, t, h, _ => by rw [preT_eq] at h; simp at h
  | n + 1, t, h, hl => by
    refine key_one (fun k hk => ?_) hl
    obtain ⟨i, hi⟩ := List.mem_iff_getElem?.1 hk
    have e : preL t.kids = preL (t.kids.take i) ++ (preT k ++ preL (t.kids.drop (i + 1))) := by
      have h1 : t.kids = t.kids.take i ++ (k :: t.kids.drop (i + 1)) := by
        have hlt := (List.getElem?_eq_some_iff.1 hi).1
        have h2 := List.drop_eq_getElem_cons hlt
        rw [(List.getElem?_eq_some_iff.1 hi).2] at h2
        rw [← h2, List.take_append_drop]
      conv => lhs; rw [h1]
      rw [preL_append, preL_cons, preT_eq k]; rfl
    refine keyR_ok n ?_ ?_
    · rw [preT_eq, e] at h
      simp only [List.length_cons, List.length_append] at h
      omega
    · rw [key_whole, e] at hl
      have : keyK (preL (t.kids.take i) ++ (preT k ++ preL (t.kids.drop (i + 1)))) = keyK (preL (t.kids.take i)) ++ (keyK (preT k) ++ keyK (preL (t.kids.drop (i + 1)))) := by unfold keyK; rw [List.flatMap_append, List.flatMap_append]
      rw [this] at hl
      simp only [List.length_append] at hl
      omega
end Go.Proofs.YtdkgpnkcdnfniaaDoor

namespace Go.Proofs.YtdkgpnkcdnfniaaDoor
open Go.RowKit Go.Lib

/-- S is the Key of t. -/
def IsKey (S : ByteArray) (t : Tm) : Prop := (∀ p ∈ preT t, Good p) ∧ S = ⟨(keyK (preT t)).toArray⟩
theorem isKey_txt {S : ByteArray} {t : Tm} : S = ⟨(keyK (preT t)).toArray⟩ ↔ txt S 0 = keyK (preT t) ++ [] := by
  unfold txt
  rw [List.append_nil, List.drop_zero]
  constructor
  · rintro rfl; rfl
  · intro h
    apply ByteArray.ext
    apply Array.ext'
    rw [h]
/-- What Of tells: the term whose Key that is, or a zero one and false. -/
def OfTold (S : ByteArray) (w : World) (e : Ending) (w' : World) : Prop := Below w.heap.size w w' ∧ ((∃ t A K c c', IsKey S t ∧ e = .returned (.tuple #[.agg #[.int .u8 t.kind, .string t.name, .bool t.neg, .slice A t.ds.length c, .slice K t.kids.length c'], .bool true]) ∧ TmV w' (.agg #[.int .u8 t.kind, .string t.name, .bool t.neg, .slice A t.ds.length c, .slice K t.kids.length c']) t) ∨ ((¬ ∃ t, IsKey S t) ∧ e = .returned (.tuple #[.agg #[.int .u8 0, .string ⟨#[]⟩, .bool false, .slice none 0 0, .slice none 0 0], .bool false])))
theorem five_below {M N : Nat} (h : M ≤ N) (w : World) (y0 y1 y2 y3 y4 : Value) : Below M w (((((w.setCell ⟨N, 0, none⟩ y0).setCell ⟨N, 1, none⟩ y1).setCell ⟨N, 2, none⟩ y2).setCell ⟨N, 3, none⟩ y3).setCell ⟨N, 4, none⟩ y4) := ((((below_set h w y0).trans (below_set h _ y1)).trans (below_set h _ y2)).trans (below_set h _ y3)).trans (below_set h _ y4)
theorem str_neqB {a b : ByteArray} (h : a ≠ b) : (a.toList == b.toList) = false := by
  refine beq_eq_false_iff_ne.2 fun e => h ?_
  rw [ByteArray.toList_eq, ByteArray.toList_eq] at e
  exact ByteArray.ext (Array.ext' e)
set_option maxRecDepth 100000 in
set_option maxHeartbeats 6400000 in
theorem ofR_ok {w : World} {S : ByteArray} (hS : S.size ≤ 1000000) (htab : TabM w.heap.size w) :
    Calls Tryd.prog 9 #[.string S] w (OfTold S w) := by
  obtain ⟨a0, a1, asz, ab⟩ := two_alloc w (.cells #[.int .u8 0, .string ⟨#[]⟩, .bool false, .slice none 0 0, .slice none 0 0] 28) (.cells #[.string S, .int .i64 0, .bool false] 61)
  have HT := hid (term_all hS (S.size + 1) _ _ 0 (show Rf ((w.alloc (.cells #[.int .u8 0, .string ⟨#[]⟩, .bool false, .slice none 0 0, .slice none 0 0] 28)).alloc (.cells #[.string S, .int .i64 0, .bool false] 61)) (w.heap.size + 1) S 0 false from a1) (Nat.zero_le _) (by omega))
  have HA := hid (show _ ∧ _ ∧ _ ∧ _ from ⟨a0, a1, asz, ab⟩)
  have HH := hid (show _ ∧ _ from ⟨hS, htab⟩)
  clear a0 a1 asz ab hS htab
  go_enter Tryd.func9, Tryd.ntmps9
  go_wp2_with fail
  refine HT.out.mono ?_
  rintro e w3 ⟨kd, nm, ng, ds, kids, A, K, c, c', at', b', rfl, hdep, r3, o3, hat, hok, hrem⟩
  obtain ⟨a0, a1, asz, ab⟩ := HA.out
  have hsz3 := o3.size
  have hb3 : Below w.heap.size w w3 := ab.trans (o3.below (by omega) (by omega))
  obtain ⟨w4, hw4⟩ : ∃ w4, w4 = w3.alloc (.cells #[.int .u8 kd, .string nm, .bool ng, .slice A ds.length c, .slice K kids.length c'] 28) := ⟨_, rfl⟩
  have hb4 : Below w3.heap.size w3 w4 := by rw [hw4]; exact (Below.refl _ _).alloc (Nat.le_refl _) _
  have tm4 : TmV w4 (.agg #[.int .u8 kd, .string nm, .bool ng, .slice A ds.length c, .slice K kids.length c']) (.mk kd nm ng ds kids) := hdep.tm.bel hb4
  have res4 : w4.heap[w.heap.size]? = some (.cells #[.int .u8 0, .string ⟨#[]⟩, .bool false, .slice none 0 0, .slice none 0 0] 28 (0, 0)) := (hb4.block _ (by omega)).trans ((o3.block _ (by omega) (by omega)).trans a0)
  have blk4 : w4.heap[w3.heap.size]? = some (.cells #[.int .u8 kd, .string nm, .bool ng, .slice A ds.length c, .slice K kids.length c'] 28 (0, 0)) := by rw [hw4]; exact heap_alloc_new _ _
  have rd4 : Rf w4 (w.heap.size + 1) S at' b' := r3.to (hb4.block _ (by omega))
  have q2 := rd4.c2
  have hbw4 : Below w.heap.size w w4 := hb3.trans (hb4.mono (by omega))
  have p0 := cell_of_row w4 w3.heap.size 0 _ _ _ blk4
  have p1 := cell_of_row w4 w3.heap.size 1 _ _ _ blk4
  have p2 := cell_of_row w4 w3.heap.size 2 _ _ _ blk4
  have p3 := cell_of_row w4 w3.heap.size 3 _ _ _ blk4
  have p4 := cell_of_row w4 w3.heap.size 4 _ _ _ blk4
  simp at p0 p1 p2 p3 p4
  have s0 := cell_of_row w4 w.heap.size 0 _ _ _ res4
  have s1 := cell_of_row w4 w.heap.size 1 _ _ _ res4
  have s2 := cell_of_row w4 w.heap.size 2 _ _ _ res4
  have s3 := cell_of_row w4 w.heap.size 3 _ _ _ res4
  have s4 := cell_of_row w4 w.heap.size 4 _ _ _ res4
  simp at s0 s1 s2 s3 s4
  have HW := hid hw4
  rw [hw4] at q2 p0 p1 p2 p3 p4
  have HF := hid (show _ ∧ _ ∧ _ ∧ _ ∧ _ ∧ _ ∧ _ from ⟨tm4, hbw4, hok, hrem, res4, blk4, rd4⟩)
  have HD := hid (show DepTm (fun m => w.heap.size + 2 ≤ m) w3 (.agg #[.int .u8 kd, .string nm, .bool ng, .slice A ds.length c, .slice K kids.length c']) (.mk kd nm ng ds kids) ∧ Below w3.heap.size w3 w4 from ⟨by rw [← asz]; exact hdep, hb4⟩)
  clear hdep r3 o3 hat hok hrem a0 a1 asz ab hsz3 hb3 hw4 hb4 tm4 res4 blk4 rd4 hbw4 HT HA
  rcases b' with _ | _
  · have hg := HF.out.1.good
    obtain ⟨hat1, hat2, hwt⟩ := HF.out.2.2.1 rfl
    have hkl : (keyK (preT (.mk kd nm ng ds kids))).length ≤ 100000000 := by
      have h1 := keyK_len _ (l := [Tm.mk kd nm ng ds kids]) (Nat.le_refl _) (by rw [preL_cons, preL_nil, List.append_nil, ← preT_eq]; exact hg)
      rw [preL_cons, preL_nil, List.append_nil, ← preT_eq, wtL_cons, wtL_nil] at h1
      have := HH.out.1
      omega
    have HK := hid (keyR_ok _ (Nat.le_refl _) hkl w4 _ _ _ _ _ HF.out.1 (HH.out.2.on HF.out.2.1 HF.out.2.1.size))
    clear hg hat1 hat2 hwt hkl
    go_wp2_with fail
    rw [← HW.out]
    refine HK.out.mono ?_
    rintro e w5 ⟨rfl, hb5⟩
    obtain ⟨KS, hKS⟩ : ∃ KS : ByteArray, KS = ⟨(keyK (preT (.mk kd nm ng ds kids))).toArray⟩ := ⟨_, rfl⟩
    rw [← hKS]
    have HK2 := hid (show KS = ⟨(keyK (preT (.mk kd nm ng ds kids))).toArray⟩ ∧ Below w4.heap.size w4 w5 from ⟨hKS, hb5⟩)
    have hs4 : w.heap.size < w4.heap.size := cell_lt s0
    have res5 : w5.heap[w.heap.size]? = some (.cells #[.int .u8 0, .string ⟨#[]⟩, .bool false, .slice none 0 0, .slice none 0 0] 28 (0, 0)) := (hb5.block _ hs4).trans HF.out.2.2.2.2.1
    have blk5 : w5.heap[w3.heap.size]? = some (.cells #[.int .u8 kd, .string nm, .bool ng, .slice A ds.length c, .slice K kids.length c'] 28 (0, 0)) := (hb5.block _ (Own.lt.cell_lt' HF.out.2.2.2.2.2.1)).trans HF.out.2.2.2.2.2.1
    clear p0 p1 p2 p3 p4 s0 s1 s2 s3 s4 q2 hKS
    have p0 := cell_of_row w5 w3.heap.size 0 _ _ _ blk5
    have p1 := cell_of_row w5 w3.heap.size 1 _ _ _ blk5
    have p2 := cell_of_row w5 w3.heap.size 2 _ _ _ blk5
    have p3 := cell_of_row w5 w3.heap.size 3 _ _ _ blk5
    have p4 := cell_of_row w5 w3.heap.size 4 _ _ _ blk5
    have s0 := cell_of_row w5 w.heap.size 0 _ _ _ res5
    have s1 := cell_of_row w5 w.heap.size 1 _ _ _ res5
    have s2 := cell_of_row w5 w.heap.size 2 _ _ _ res5
    have s3 := cell_of_row w5 w.heap.size 3 _ _ _ res5
    have s4 := cell_of_row w5 w.heap.size 4 _ _ _ res5
    simp at p0 p1 p2 p3 p4 s0 s1 s2 s3 s4
    have ff : ∀ o, w5.frozen? ⟨w.heap.size, o, none⟩ = false := fun o => by simp [World.frozen?, res5]
    have f0 := ff 0
    have f1 := ff 1
    have f2 := ff 2
    have f3 := ff 3
    have f4 := ff 4
    have HR5 := hid res5
    clear ff res5 blk5 hb5 hs4
    have HB5 := hid (HF.out.2.1.trans (HK2.out.2.mono HF.out.2.1.size))
    by_cases hks : KS = S
    · subst hks
      have hne := str_ne KS
      go_wp2
      obtain ⟨wf, hwf⟩ : ∃ wf, wf = ((((w5.setCell ⟨w.heap.size, 0, none⟩ (.int .u8 kd)).setCell ⟨w.heap.size, 1, none⟩ (.string nm)).setCell ⟨w.heap.size, 2, none⟩ (.bool ng)).setCell ⟨w.heap.size, 3, none⟩ (.slice A ds.length c)).setCell ⟨w.heap.size, 4, none⟩ (.slice K kids.length c') := ⟨_, rfl⟩
      rw [← hwf]
      have q0 : wf.heap[w.heap.size]? = some (.cells #[.int .u8 kd, .string nm, .bool ng, .slice A ds.length c, .slice K kids.length c'] 28 (0, 0)) := by rw [hwf]; exact five_set HR5.out
      have hbf : Below w.heap.size w wf := HB5.out.trans (by rw [hwf]; exact five_below (Nat.le_refl _) _ _ _ _ _ _)
      have t0 := cell_of_row wf w.heap.size 0 _ _ _ q0
      have t1 := cell_of_row wf w.heap.size 1 _ _ _ q0
      have t2 := cell_of_row wf w.heap.size 2 _ _ _ q0
      have t3 := cell_of_row wf w.heap.size 3 _ _ _ q0
      have t4 := cell_of_row wf w.heap.size 4 _ _ _ q0
      simp at t0 t1 t2 t3 t4
      have hk : IsKey KS (.mk kd nm ng ds kids) := ⟨HF.out.1.good, HK2.out.1⟩
      have htm : TmV wf (.agg #[.int .u8 kd, .string nm, .bool ng, .slice A ds.length c, .slice K kids.length c']) (.mk kd nm ng ds kids) := HD.out.1 wf fun a u hu hD => by
        have hD' : w.heap.size + 2 ≤ a.block := hD
        refine (cell_congr ?_).trans hu
        have h1 := cell_lt hu
        rw [hwf]
        exact (five_off (by omega)).trans ((HK2.out.2.block _ (by have := HD.out.2.size; omega)).trans (HD.out.2.block _ h1))
      exact bodyPost_ret (v := .tuple #[.agg #[.int .u8 kd, .string nm, .bool ng, .slice A ds.length c, .slice K kids.length c'], .bool true]) (by simp [results, Tryd.results9, go_sem, t0, t1, t2, t3, t4]) rfl ⟨hbf, .inl ⟨.mk kd nm ng ds kids, A, K, c, c', hk, rfl, htm⟩⟩
    · have hne := str_neqB hks
      have hno : ¬ ∃ t, IsKey S t := fun ⟨t, hg, ht⟩ => hks (by
        obtain ⟨_, _, h3⟩ := HF.out.2.2.2.1 t [] hg (isKey_txt.1 ht)
        rw [HK2.out.1, h3, ← ht])
      go_wp2
      obtain ⟨wf, hwf⟩ : ∃ wf, wf = ((((w5.setCell ⟨w.heap.size, 0, none⟩ (.int .u8 0)).setCell ⟨w.heap.size, 1, none⟩ (.string ⟨#[]⟩)).setCell ⟨w.heap.size, 2, none⟩ (.bool false)).setCell ⟨w.heap.size, 3, none⟩ (.slice none 0 0)).setCell ⟨w.heap.size, 4, none⟩ (.slice none 0 0) := ⟨_, rfl⟩
      rw [← hwf]
      have q0 : wf.heap[w.heap.size]? = some (.cells #[.int .u8 0, .string ⟨#[]⟩, .bool false, .slice none 0 0, .slice none 0 0] 28 (0, 0)) := by rw [hwf]; exact five_set HR5.out
      have hbf : Below w.heap.size w wf := HB5.out.trans (by rw [hwf]; exact five_below (Nat.le_refl _) _ _ _ _ _ _)
      have t0 := cell_of_row wf w.heap.size 0 _ _ _ q0
      have t1 := cell_of_row wf w.heap.size 1 _ _ _ q0
      have t2 := cell_of_row wf w.heap.size 2 _ _ _ q0
      have t3 := cell_of_row wf w.heap.size 3 _ _ _ q0
      have t4 := cell_of_row wf w.heap.size 4 _ _ _ q0
      simp at t0 t1 t2 t3 t4
      exact bodyPost_ret (v := .tuple #[.agg #[.int .u8 0, .string ⟨#[]⟩, .bool false, .slice none 0 0, .slice none 0 0], .bool false]) (by simp [results, Tryd.results9, go_sem, t0, t1, t2, t3, t4]) rfl ⟨hbf, .inr ⟨hno, rfl⟩⟩
  · have hno : ¬ ∃ t, IsKey S t := fun ⟨t, hg, ht⟩ => by
      obtain ⟨h1, _, _⟩ := HF.out.2.2.2.1 t [] hg (isKey_txt.1 ht)
      cases h1
    have ff : ∀ o, w4.frozen? ⟨w.heap.size, o, none⟩ = false := fun o => by simp [World.frozen?, HF.out.2.2.2.2.1]
    have f0 := ff 0
    have f1 := ff 1
    have f2 := ff 2
    have f3 := ff 3
    have f4 := ff 4
    clear ff
    rw [HW.out] at s0 s1 s2 s3 s4 f0 f1 f2 f3 f4
    have HN := hid hno
    clear hno
    go_wp2
    rw [← HW.out]
    obtain ⟨w5, hw5⟩ : ∃ w5, w5 = w4 := ⟨_, rfl⟩
    have HR5 := hid (hw5 ▸ HF.out.2.2.2.2.1 : w5.heap[w.heap.size]? = _)
    have HB5 := hid (hw5 ▸ HF.out.2.1 : Below w.heap.size w w5)
    rw [← hw5]
    obtain ⟨wf, hwf⟩ : ∃ wf, wf = ((((w5.setCell ⟨w.heap.size, 0, none⟩ (.int .u8 0)).setCell ⟨w.heap.size, 1, none⟩ (.string ⟨#[]⟩)).setCell ⟨w.heap.size, 2, none⟩ (.bool false)).setCell ⟨w.heap.size, 3, none⟩ (.slice none 0 0)).setCell ⟨w.heap.size, 4, none⟩ (.slice none 0 0) := ⟨_, rfl⟩
    rw [← hwf]
    have q0 : wf.heap[w.heap.size]? = some (.cells #[.int .u8 0, .string ⟨#[]⟩, .bool false, .slice none 0 0, .slice none 0 0] 28 (0, 0)) := by rw [hwf]; exact five_set HR5.out
    have hbf : Below w.heap.size w wf := HB5.out.trans (by rw [hwf]; exact five_below (Nat.le_refl _) _ _ _ _ _ _)
    have t0 := cell_of_row wf w.heap.size 0 _ _ _ q0
    have t1 := cell_of_row wf w.heap.size 1 _ _ _ q0
    have t2 := cell_of_row wf w.heap.size 2 _ _ _ q0
    have t3 := cell_of_row wf w.heap.size 3 _ _ _ q0
    have t4 := cell_of_row wf w.heap.size 4 _ _ _ q0
    simp at t0 t1 t2 t3 t4
    exact bodyPost_ret (v := .tuple #[.agg #[.int .u8 0, .string ⟨#[]⟩, .bool false, .slice none 0 0, .slice none 0 0], .bool false]) (by simp [results, Tryd.results9, go_sem, t0, t1, t2, t3, t4]) rfl ⟨hbf, .inr ⟨HN.out, rfl⟩⟩
end Go.Proofs.YtdkgpnkcdnfniaaDoor

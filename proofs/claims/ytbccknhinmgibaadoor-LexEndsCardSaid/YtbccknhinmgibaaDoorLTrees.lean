/- Package lex's trees: all that a text holds, or the first fault. Premise: the text has at most 2^18 bytes. -/
import Derived.Test.YtbccknhinmgibaaDoorLBegin
import Derived.Deep.LoopGhost
import Derived.Outline
set_option linter.unusedVariables false
set_option linter.unusedSimpArgs false
namespace Go.Proofs.YtbccknhinmgibaaDoor
open Go.RowKit

variable {B : Nat} {T TR : TypeId} {S : ByteArray} {gr N : Nat} {w w1 : World} {i : Nat} {ov : Value} {st : List (Value × Fo × Nat)}
set_option maxRecDepth 100000 in
set_option maxHeartbeats 3200000 in
theorem begin_no (h : RdS B 35 92 S gr N w i ov st) (hst : 400 < st.length) (hs2 : st.length ≤ 1000) :
    Calls Tryd.prog 52 #[.pointer (some ⟨gr, 0, none⟩)] w fun e w' => e = faultP i 3 ∧ Below w.heap.size w w' := by
  obtain ⟨g, cap, rfl, hBg, hgl⟩ := h.own.form (by omega)
  have m2 : w.cell? ⟨gr, 2, none⟩ = some (.slice (some ⟨g, 0, none⟩) st.length cap) := (cell_of_row _ _ 2 _ _ _ h.rd).trans rfl
  have m1 := h.place.2
  obtain ⟨n, hn⟩ : ∃ n, n = st.length := ⟨_, rfl⟩
  rw [← hn] at m2 hst hs2
  have hle : decide ((n : Int) ≤ 400) = false := decide_eq_false (by omega)
  have HX := Lib.hid (show ∀ k, Calls Tryd.prog 55 #[.pointer (some ⟨gr, 0, none⟩), .bool false, .int .i64 3] (w.drewN k) fun e w' => e = faultP i 3 ∧ w' = w.drewN k from fun k => need_no (w := w.drewN k) m1)
  clear h hn m1
  go_enter Tryd.func52, Tryd.ntmps52
  go_wp2_with fail
  go_region_dies
  all_goals refine (HX.out 1).mono ?_
  all_goals rintro e w3 ⟨rfl, rfl⟩
  all_goals exact ⟨rfl, rfl, ⟨rfl, rfl, rfl, Nat.le_refl _, fun _ _ => rfl⟩⟩
/-- What trees tells. -/
def TreesE (B : Nat) (S : ByteArray) (w : World) (e : Ending) (w' : World) : Prop := Below B w w' ∧
  ((∃ ks K c, go S.data.toList 0 [] .nil = .fine [] ks ∧ e = .returned (.slice K ks.len c) ∧ (ks.len ≤ c ∧ c ≤ maxLen ∧ ks.len ≤ 262144) ∧ DepF (fun m => B ≤ m) w' K ks) ∨ (∃ (p : Nat) (n : Int), fin S.size (go S.data.toList 0 [] .nil) = (.nil, p, n) ∧ (n = 3 ∨ n = 20) ∧ e = faultP (p : Int) n))
/-- What holds ahead of each byte. -/
def Ahead (B : Nat) (T TR : TypeId) (S : ByteArray) (gr : Nat) (w wr : World) (i : Nat) : Prop := ∃ ov st up ks N, RdS B T TR S gr N wr i ov st ∧ st.map (fun q => (q.2.1, q.2.2)) = frames up ks ∧ go (S.data.toList.drop i) i up ks = go S.data.toList 0 [] .nil ∧ N ≤ i ∧ i ≤ S.size ∧ up.length ≤ 400 ∧ Below B w wr
theorem frames_st {st : List (Value × Fo × Nat)} {up : Up} {ks : Fo} (h : st.map (fun q => (q.2.1, q.2.2)) = frames up ks) : st.length = up.length + 1 := by
  have := congrArg List.length h
  rwa [List.length_map, frames_len] at this
theorem frames_cons {st : List (Value × Fo × Nat)} {up : Up} {ks : Fo} (h : st.map (fun q => (q.2.1, q.2.2)) = frames up ks) : ∃ v a st', st = (v, ks, a) :: st' ∧ (match up with | [] => a = 0 ∧ st' = [] | (b, js) :: u => a = b ∧ st'.map (fun q => (q.2.1, q.2.2)) = frames u js) := by
  cases st with
  | nil => cases up <;> simp [frames] at h
  | cons q st' =>
    obtain ⟨v, f, a⟩ := q
    cases up with
    | nil =>
      simp only [frames, List.map_cons, List.cons.injEq, Prod.mk.injEq, List.map_eq_nil_iff] at h
      obtain ⟨⟨rfl, rfl⟩, rfl⟩ := h
      exact ⟨v, 0, [], rfl, rfl, rfl⟩
    | cons x u =>
      obtain ⟨b, js⟩ := x
      simp only [frames, List.map_cons, List.cons.injEq, Prod.mk.injEq] at h
      obtain ⟨⟨rfl, rfl⟩, h2⟩ := h
      exact ⟨v, _, st', rfl, rfl, h2⟩
theorem drop_taken (p : UInt8 → Bool) : ∀ l : List UInt8, l.drop (l.takeWhile p).length = l.dropWhile p
  | [] => rfl
  | a :: l => by
    rw [List.takeWhile_cons, List.dropWhile_cons]
    split
    · exact drop_taken p l
    · rfl
theorem frames_top {u : Up} {js js' : Fo} {a : Nat} {r : List (Fo × Nat)} (h : (js, a) :: r = frames u js) : (js', a) :: r = frames u js' := by
  cases u with
  | nil => simp only [frames, List.cons.injEq, Prod.mk.injEq] at h ⊢; exact ⟨⟨trivial, h.1.2⟩, h.2⟩
  | cons x u => obtain ⟨b, ks⟩ := x; simp only [frames, List.cons.injEq, Prod.mk.injEq] at h ⊢; exact ⟨⟨trivial, h.1.2⟩, h.2⟩
theorem wordAt_cons {i : Nat} (hlt : i < S.size) (h : signB S[i] = true) : wordAt S i = S[i] :: (S.data.toList.drop (i + 1)).takeWhile signB := by
  rw [wordAt, drop_byte hlt, List.takeWhile_cons, h]; rfl
theorem word_next {i : Nat} (hlt : i < S.size) (h : signB S[i] = true) : S.data.toList.drop (i + (wordAt S i).length) = (S.data.toList.drop (i + 1)).dropWhile signB ∧ i + (wordAt S i).length = i + 1 + ((S.data.toList.drop (i + 1)).takeWhile signB).length ∧ i + (wordAt S i).length ≤ S.size := by
  have h1 := wordAt_cons hlt h
  have h2 := split_len signB (S.data.toList.drop (i + 1))
  have h3 : S.data.toList.length = S.size := by simp
  have h4 : i + (wordAt S i).length = i + 1 + ((S.data.toList.drop (i + 1)).takeWhile signB).length := by rw [h1, List.length_cons]; omega
  rw [List.length_drop] at h2
  refine ⟨?_, h4, by omega⟩
  rw [h4, ← List.drop_drop, drop_taken]
theorem u8_lit {c : UInt8} {n : Nat} (h : n = c.toNat) (k : Nat) (hk : k < 256) : n = k ↔ c = UInt8.ofNat k := by
  rw [h]
  constructor
  · intro e; rw [← e]; simp
  · rintro rfl; simp; omega
theorem nat_beq {n k : Nat} (h : n = k) : ((n : Int) == (k : Int)) = true := by rw [beq_iff_eq]; omega
theorem nat_bne {n k : Nat} (h : ¬ n = k) : ((n : Int) == (k : Int)) = false := by rw [beq_eq_false_iff_ne]; omega
set_option maxRecDepth 100000 in
set_option maxHeartbeats 6400000 in
theorem trees_ok (h : RdS B 35 92 S gr 0 w 0 ov st) (hf : st.map (fun q => (q.2.1, q.2.2)) = frames [] .nil) (hS : S.size ≤ 262144) :
    Calls Tryd.prog 25 #[.pointer (some ⟨gr, 0, none⟩)] w (TreesE B S w) := by
  have HA := Lib.hid (show Ahead B 35 92 S gr w w 0 from ⟨ov, st, [], .nil, 0, h, hf, rfl, Nat.le_refl _, Nat.zero_le _, Nat.zero_le _, Below.refl _ _⟩)
  have HS := Lib.hid hS
  clear h hf hS
  go_enter Tryd.func25, Tryd.ntmps25
  go_wp2
  obtain ⟨w0, hw0⟩ : ∃ w0, w0 = w := ⟨_, rfl⟩
  have HW := Lib.hid hw0
  rw [← hw0]
  clear hw0
  go_loopg [3] S.size (fun k _ wr => ∃ i : Nat, Hid (k = S.size - i ∧ Ahead B 35 92 S gr w wr i))
  case atStart => exact ⟨0, Lib.hid ⟨rfl, by have := HA.out; rw [HW.out]; exact this⟩⟩
  case round =>
    obtain ⟨i, HR⟩ := hrel
    obtain ⟨hk, ov, st, up, ks, N, hr, hfr, hgo, hNi, hiS, hup, hb⟩ := HR.out
    have HM := Lib.hid (show _ ∧ _ from ⟨hk, hNi⟩)
    have hst := frames_st hfr
    by_cases hlt : i < S.size
    · have HO := Lib.hid (over_ok hr.place (by have := HS.out; omega) false (beq_eq_false_iff_ne.2 (by omega)))
      rw [drop_byte hlt] at hgo
      have HX := Lib.hid (show _ ∧ _ ∧ _ ∧ _ ∧ _ from ⟨hr, hfr, hgo, hup, hb⟩)
      clear hr hfr hgo hup hb hk hNi HR
      go_wp2_with fail
      refine HO.out.mono ?_
      rintro e w1 ⟨rfl, hd1⟩
      have HD1 := Lib.hid hd1
      have HH := Lib.hid (here_ok (w := w1) (gr := gr) (S := S) (i := i) (by obtain ⟨n1, rfl⟩ := hd1; exact HX.out.1.place) (by have := HS.out; omega) hlt)
      clear hd1
      go_wp2_with fail
      refine HH.out.mono ?_
      rintro e w2 ⟨rfl, hd2⟩
      have hdd := HD1.out.trans hd2
      have HR2 := Lib.hid (show RdS B 35 92 S gr N w2 i ov st ∧ Below B w w2 from ⟨HX.out.1.bel hdd.below, HX.out.2.2.2.2.trans (hdd.below.mono (by have := HX.out.1.low; have := blk_lt HX.out.1.rd; omega))⟩)
      clear hd2 hdd HD1 HH HO
      obtain ⟨c, hc⟩ : ∃ c, c = S[i] := ⟨_, rfl⟩
      rw [← hc]
      have HC := Lib.hid hc
      clear hc
      obtain ⟨n, hn⟩ : ∃ n : Nat, n = c.toNat := ⟨_, rfl⟩
      rw [← hn]
      have HN := Lib.hid hn
      clear hn
      have hcn := HN.out
      have e32 := u8_lit hcn 32 (by decide)
      have e10 := u8_lit hcn 10 (by decide)
      have e40 := u8_lit hcn 40 (by decide)
      have e41 := u8_lit hcn 41 (by decide)
      have hi5 := HS.out
      have hgr2 : w2.frozen? ⟨gr, 1, none⟩ = false := by simp [World.frozen?, HR2.out.1.rd]
      have HO2 := Lib.hid (onward_ok (w := w2) (gr := gr) (i := i) HR2.out.1.place.2 hgr2 (by omega))
      clear hgr2 hcn
      have HI := Lib.hid (show _ ∧ _ from ⟨hlt, hi5⟩)
      clear hi5
      by_cases h32 : n = 32
      · have hcb : c = 32 ∨ c = 10 := .inl (e32.1 h32)
        have HE := Lib.hid (show Ahead B 35 92 S gr w (w2.setCell ⟨gr, 1, none⟩ (.int .i64 ((i + 1 : Nat) : Int))) (i + 1) from ⟨ov, st, up, ks, N, HR2.out.1.step (i + 1), HX.out.2.1, by rw [← HX.out.2.2.1, ← HC.out, go_blank hcb], by have := HM.out.2; omega, hlt, HX.out.2.2.2.1, HR2.out.1.below_set 1 _ HR2.out.2⟩)
        have b32 : ((n : Int) == 32) = true := nat_beq h32
        clear hcb h32 e32 e10 e40 e41 hst hiS
        go_wp2_with fail
        refine HO2.out.mono ?_
        rintro e w3 ⟨rfl, rfl⟩
        go_wp2
        go_roundg (S.size - (i + 1))
        case rel => exact ⟨i + 1, Lib.hid ⟨rfl, HE.out⟩⟩
        case measure => have := HM.out.1; have := HI.out.1; omega
      have b32 : ((n : Int) == 32) = false := nat_bne h32
      by_cases h10 : n = 10
      · have hcb : c = 32 ∨ c = 10 := .inr (e10.1 h10)
        have HE := Lib.hid (show Ahead B 35 92 S gr w (w2.setCell ⟨gr, 1, none⟩ (.int .i64 ((i + 1 : Nat) : Int))) (i + 1) from ⟨ov, st, up, ks, N, HR2.out.1.step (i + 1), HX.out.2.1, by rw [← HX.out.2.2.1, ← HC.out, go_blank hcb], by have := HM.out.2; omega, hlt, HX.out.2.2.2.1, HR2.out.1.below_set 1 _ HR2.out.2⟩)
        have b10 : ((n : Int) == 10) = true := nat_beq h10
        clear hcb h32 h10 e32 e10 e40 e41 hst hiS
        go_wp2_with fail
        refine HO2.out.mono ?_
        rintro e w3 ⟨rfl, rfl⟩
        go_wp2
        go_roundg (S.size - (i + 1))
        case rel => exact ⟨i + 1, Lib.hid ⟨rfl, HE.out⟩⟩
        case measure => have := HM.out.1; have := HI.out.1; omega
      have b10 : ((n : Int) == 10) = false := nat_bne h10
      have hnb : ¬ (c = 32 ∨ c = 10) := fun h => h.elim (fun h => h32 (e32.2 h)) fun h => h10 (e10.2 h)
      clear e32 e10 h32 h10
      by_cases h40 : n = 40
      · have hcb : c = 40 := e40.1 h40
        have b40 : ((n : Int) == 40) = true := nat_beq h40
        by_cases hu : up.length < 400
        · have HBg := Lib.hid (begin_ok HR2.out.1 (by have := HI.out; omega) (by omega) (by omega))
          have HG := Lib.hid (show go (S.data.toList.drop (i + 1)) (i + 1) ((i, ks) :: up) .nil = go S.data.toList 0 [] .nil by rw [← HX.out.2.2.1, ← HC.out, hcb, go_open _ _ _ _ hu])
          have HL := Lib.hid (show _ ∧ _ from ⟨hlt, hu⟩)
          clear hcb h40 e40 e41 hst hiS hu hnb HO2
          go_wp2_with fail
          refine HBg.out.mono ?_
          rintro e w3 ⟨rfl, hb3, ov3, hr3⟩
          have HE := Lib.hid (show Ahead B 35 92 S gr w w3 (i + 1) from ⟨ov3, _, (i, ks) :: up, .nil, N, hr3, by rw [List.map_cons, HX.out.2.1]; rfl, HG.out, by have := HM.out.2; omega, HL.out.1, by have := HL.out.2; simp; omega, HR2.out.2.trans hb3⟩)
          clear hb3 hr3
          go_wp2
          go_roundg (S.size - (i + 1))
          case rel => exact ⟨i + 1, Lib.hid ⟨rfl, HE.out⟩⟩
          case measure => have := HM.out.1; have := HI.out.1; omega
        · have HBg := Lib.hid (begin_no HR2.out.1 (by omega) (by have := HX.out.2.2.2.1; omega))
          have HT := Lib.hid (show fin S.size (go S.data.toList 0 [] .nil) = (.nil, i, 3) by rw [← HX.out.2.2.1, ← HC.out, hcb, go_deep _ _ _ _ hu]; rfl)
          clear hcb h40 e40 e41 hst hiS hu hnb HO2
          go_wp2_with fail
          refine HBg.out.mono ?_
          rintro e w3 ⟨rfl, hb3⟩
          exact ⟨rfl, by rw [HW.out]; exact ⟨HR2.out.2.trans (hb3.mono (Nat.le_trans HR2.out.1.low (Nat.le_of_lt (blk_lt HR2.out.1.rd)))), .inr ⟨_, _, HT.out, .inl rfl, rfl⟩⟩⟩
      have b40 : ((n : Int) == 40) = false := nat_bne h40
      have hn40 : c ≠ 40 := fun h => h40 (e40.2 h)
      clear e40 h40
      by_cases h41 : n = 41
      · have hcb : c = 41 := e41.1 h41
        have b41 : ((n : Int) == 41) = true := nat_beq h41
        obtain ⟨v, a, st', rfl, hfr'⟩ := frames_cons HX.out.2.1
        cases up with
        | nil =>
          obtain ⟨rfl, rfl⟩ := hfr'
          have HBg := Lib.hid (end_no HR2.out.1)
          have HT := Lib.hid (show fin S.size (go S.data.toList 0 [] .nil) = (.nil, i, 20) by rw [← HX.out.2.2.1, ← HC.out, hcb, go_none]; rfl)
          clear hcb h41 e41 hst hiS hnb HO2 hn40
          go_wp2_with fail
          refine HBg.out.mono ?_
          rintro e w3 ⟨rfl, rfl⟩
          exact ⟨rfl, by rw [HW.out]; exact ⟨HR2.out.2, .inr ⟨_, _, HT.out, .inr rfl, rfl⟩⟩⟩
        | cons x u =>
          obtain ⟨b, js⟩ := x
          obtain ⟨rfl, hfr2⟩ := hfr'
          obtain ⟨v2, a2, st2, rfl, hfr3⟩ := frames_cons hfr2
          have HBg := Lib.hid (end_ok HR2.out.1 (by have := HI.out; omega) (by have := HM.out.2; have := HI.out; omega) (by have := HX.out.2.2.2.1; simp at hst this; omega))
          have HG := Lib.hid (show go (S.data.toList.drop (i + 1)) (i + 1) u (js.app (.one ⟨#[]⟩ ks true a)) = go S.data.toList 0 [] .nil by rw [← HX.out.2.2.1, ← HC.out, hcb, go_close])
          have HL := Lib.hid (show _ ∧ _ from ⟨hlt, frames_top (js' := js.app (.one ⟨#[]⟩ ks true a)) hfr2⟩)
          have HU := Lib.hid (show u.length ≤ 400 by have := HX.out.2.2.2.1; simp at this; omega)
          clear hcb h41 e41 hst hiS hnb HO2 hn40 hfr2 hfr3
          go_wp2_with fail
          refine HBg.out.mono ?_
          rintro e w3 ⟨rfl, hb3, ov3, v3, hr3⟩
          have HE := Lib.hid (show Ahead B 35 92 S gr w w3 (i + 1) from ⟨ov3, _, u, _, N + 1, hr3, HL.out.2, HG.out, by have := HM.out.2; omega, HL.out.1, HU.out, HR2.out.2.trans hb3⟩)
          clear hb3 hr3
          go_wp2
          go_roundg (S.size - (i + 1))
          case rel => exact ⟨i + 1, Lib.hid ⟨rfl, HE.out⟩⟩
          case measure => have := HM.out.1; have := HI.out.1; omega
      have b41 : ((n : Int) == 41) = false := nat_bne h41
      have hn41 : c ≠ 41 := fun h => h41 (e41.2 h)
      clear e41 h41
      obtain ⟨v, a, st', rfl, hfr'⟩ := frames_cons HX.out.2.1
      cases hsg : signB c with
      | true =>
        have hs : signB S[i] = true := by rw [← HC.out]; exact hsg
        have HBg := Lib.hid (word_ok HR2.out.1 HI.out.2 (by have := HM.out.2; have := HI.out; omega) (by have := HX.out.2.2.2.1; simp at hst; omega) hlt hs)
        obtain ⟨hw1, hw2, hw3⟩ := word_next hlt hs
        have HG := Lib.hid (show go (S.data.toList.drop (i + (wordAt S i).length)) (i + (wordAt S i).length) up (ks.app (.one ⟨(wordAt S i).toArray⟩ .nil false i)) = go S.data.toList 0 [] .nil by rw [← HX.out.2.2.1, go_word hs, hw1, hw2, wordAt_cons hlt hs])
        have HL := Lib.hid (show _ ∧ _ ∧ _ ∧ _ from ⟨hw3, hw2, frames_top (js' := ks.app (.one ⟨(wordAt S i).toArray⟩ .nil false i)) HX.out.2.1, hlt⟩)
        clear hw1 hw2 hw3 hs hsg hst hiS hnb HO2 hn40 hn41 hfr'
        obtain ⟨j, hj⟩ : ∃ j, j = i + (wordAt S i).length := ⟨_, rfl⟩
        rw [← hj] at HBg HG HL
        clear hj
        go_wp2_with fail
        refine HBg.out.mono ?_
        rintro e w3 ⟨rfl, hb3, v3, hr3⟩
        have HE := Lib.hid (show Ahead B 35 92 S gr w w3 j from ⟨ov, _, up, _, N + 1, hr3, HL.out.2.2.1, HG.out, by have := HM.out.2; have := HL.out.2.1; omega, HL.out.1, HX.out.2.2.2.1, HR2.out.2.trans hb3⟩)
        clear hb3 hr3
        go_wp2
        go_roundg (S.size - (j))
        case rel => exact ⟨j, Lib.hid ⟨rfl, HE.out⟩⟩
        case measure => have := HM.out.1; have := HL.out.2.1; have := HL.out.2.2.2; omega
      | false =>
        have hs : signB S[i] = false := by rw [← HC.out]; exact hsg
        have HBg := Lib.hid (word_no HR2.out.1 HI.out.2 hlt hs)
        have HT := Lib.hid (show fin S.size (go S.data.toList 0 [] .nil) = (.nil, i, 20) by rw [← HX.out.2.2.1, ← HC.out, go_not hnb hn40 hn41 hsg]; rfl)
        clear hs hsg hst hiS hnb HO2 hn40 hn41 hfr'
        go_wp2_with fail
        refine HBg.out.mono ?_
        rintro e w3 ⟨rfl, hb3⟩
        exact ⟨rfl, by rw [HW.out]; exact ⟨HR2.out.2.trans hb3, .inr ⟨_, _, HT.out, .inr rfl, rfl⟩⟩⟩
    · have hie : i = S.size := by omega
      have HO := Lib.hid (over_ok hr.place (by have := HS.out; omega) true (beq_iff_eq.2 (by omega)))
      rw [drop_over (by omega), go_nil] at hgo
      obtain ⟨v, a, st', rfl, hfr'⟩ := frames_cons hfr
      obtain ⟨g, cap, rfl, hBg, hgl⟩ := hr.own.form (Nat.succ_pos _)
      have HX := Lib.hid (show _ ∧ _ ∧ _ ∧ _ ∧ _ from ⟨hr, hie, hgo, hup, hb⟩)
      cases up with
      | nil =>
        obtain ⟨rfl, rfl⟩ := hfr'
        obtain ⟨K, c, hv, hc1, hc2, hdep⟩ := (hr.kids _ (List.mem_cons_self ..)).dep (D' := fun m => B ≤ m) (fun _ h => h.1) fun m hm => ((hr.kids _ (List.mem_cons_self ..)).lt m hm).1
        have hv : v = .slice K ks.len c := hv
        subst hv
        have hkl := hr.few _ (List.mem_cons_self ..)
        have HT := Lib.hid (show ∀ k, TreesE B S w (.returned (.slice K ks.len c)) (wr.drewN k) from fun k => ⟨hb.trans ⟨rfl, rfl, rfl, Nat.le_refl _, fun _ _ => rfl⟩, .inl ⟨ks, K, c, hgo.symm, rfl, ⟨hc1, hc2, by have := HS.out; have : ks.len ≤ N := hkl; omega⟩, DepF.to hdep fun _ _ h h' => ⟨h, h'⟩⟩⟩)
        have m2 : wr.cell? ⟨gr, 2, none⟩ = some (.slice (some ⟨g, 0, none⟩) 1 cap) := (cell_of_row _ _ 2 _ _ _ hr.rd).trans rfl
        have mc : wr.cell? ⟨g, 1, none⟩ = some (.slice K ks.len c) := (World.ownsRow.cellAt hr.own 1 (show 1 < 1 * 4 by decide)).trans rfl
        clear hr hfr hgo hup hb hk hNi HR hst hlt hie hc1 hc2 hdep hkl hBg hgl hiS
        go_wp2_with fail
        refine HO.out.mono ?_
        rintro e w1 ⟨rfl, hd1⟩
        obtain ⟨m2', mc', HT2⟩ : w1.cell? ⟨gr, 2, none⟩ = some (.slice (some ⟨g, 0, none⟩) 1 cap) ∧ w1.cell? ⟨g, 1, none⟩ = some (.slice K ks.len c) ∧ Hid (∀ k, TreesE B S w (.returned (.slice K ks.len c)) (w1.drewN k)) := by
          obtain ⟨n1, rfl⟩ := hd1
          exact ⟨m2, mc, Lib.hid fun k => by rw [show (wr.drewN n1).drewN k = wr.drewN (n1 + k) by simp [World.drewN, Nat.add_assoc]]; exact HT.out _⟩
        clear m2 mc hd1
        go_wp2_with fail
        go_quiet ((go_at_call 55; exact Calls.quiet_of_same (need_yes.mono fun e w' h => h)))
        go_wp2
        go_ret
        exact HT2.out _
      | cons x u =>
        obtain ⟨b, js⟩ := x
        obtain ⟨rfl, hfr2⟩ := hfr'
        obtain ⟨v2, a2, st2, rfl, hfr3⟩ := frames_cons hfr2
        have m2 : wr.cell? ⟨gr, 2, none⟩ = some (.slice (some ⟨g, 0, none⟩) (st2.length + 2) cap) := (cell_of_row _ _ 2 _ _ _ hr.rd).trans rfl
        have hT : ∀ k, TreesE B S w (faultP (i : Int) 20) (wr.drewN k) := fun k => ⟨hb.trans ⟨rfl, rfl, rfl, Nat.le_refl _, fun _ _ => rfl⟩, .inr ⟨i, 20, by rw [← hgo, hie]; rfl, .inr rfl, rfl⟩⟩
        have HT := Lib.hid hT
        have HNN := Lib.hid (fun k => need_no (w := wr.drewN k) (gr := gr) (i := (i : Int)) (n := 20) hr.place.2)
        obtain ⟨q, hq⟩ : ∃ q, q = st2.length + 2 := ⟨_, rfl⟩
        rw [← hq] at m2
        have hql : q ≤ 1000 := by simp at hst hup; omega
        have b1 : ((q : Int) == 1) = false := nat_bne (k := 1) (by omega)
        clear hr hfr hgo hup hb hk hNi HR hst hlt hie hBg hgl hiS hfr2 hfr3 hq hT
        go_wp2_with fail
        refine HO.out.mono ?_
        rintro e w1 ⟨rfl, n1, rfl⟩
        go_wp2_with fail
        go_region_dies
        all_goals refine (HNN.out _).mono ?_
        all_goals rintro e w3 ⟨rfl, rfl⟩
        all_goals exact ⟨rfl, HT.out _⟩
end Go.Proofs.YtbccknhinmgibaaDoor

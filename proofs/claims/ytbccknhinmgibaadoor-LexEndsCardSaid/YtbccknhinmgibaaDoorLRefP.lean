/- The Parse of the document's answer of layer 13, walked: it tells of every text what the pure machine does. -/
import Derived.Test.YtbccknhinmgibaaDoorLRefM
set_option linter.unusedVariables false
set_option linter.unusedSimpArgs false
namespace Go.Proofs.YtbccknhinmgibaaDoor
open Go.RowKit

theorem three_fresh (w : World) (o1 o2 o3 : Obj) : ∃ w3, w3 = (((w.alloc o1).alloc o2).alloc o3) ∧ w3.heap[w.heap.size]? = some o1 ∧ w3.heap[w.heap.size + 1]? = some o2 ∧ w3.heap[w.heap.size + 2]? = some o3 ∧ Below w.heap.size w w3 := ⟨_, rfl, (three_alloc w o1 o2 o3).1, (three_alloc w o1 o2 o3).2.1, (three_alloc w o1 o2 o3).2.2.1, (three_alloc w o1 o2 o3).2.2.2.2⟩
set_option maxRecDepth 100000 in
set_option maxHeartbeats 12800000 in
theorem rparse_ok {S : ByteArray} {w : World} (hS : S.size ≤ 140737488355328) : Calls Tryd.prog 12 #[.string S] w (ParseE S w) := by
  by_cases hl : 262144 < S.size
  · have b1 : decide ((262144 : Int) < (S.size : Int)) = true := decide_eq_true (by omega)
    have HP := Lib.hid (show parseP S.data.toList = (.nil, 0, 3) by rw [parseP, if_pos (by simpa using hl)])
    clear hl
    go_enter Tryd.func12, Tryd.ntmps12
    go_wp2
    go_returns
    exact ⟨Below.refl _ _, .nil, 0, 3, none, 0, HP.out, rfl, ⟨Nat.le_refl _, Nat.zero_le _, Nat.zero_le _⟩, trivial⟩
  · have b1 : decide ((262144 : Int) < (S.size : Int)) = false := decide_eq_false (by omega)
    have hS2 : S.size ≤ 262144 := by omega
    have HP := Lib.hid (show parseP S.data.toList = fin S.size (go S.data.toList 0 [] .nil) by rw [parseP, if_neg (by simpa using hS2)]; simp)
    have HS := Lib.hid hS2
    clear hl hS hS2
    go_enter Tryd.func12, Tryd.ntmps12
    go_wp2
    obtain ⟨w3, hw3, r1, r2, r3, rb⟩ := three_fresh w (.cells #[.slice none 0 0] 37) (.cells #[.int .i64 0] 3) (.cells #[.slice (some ⟨w.heap.size, 0, none⟩) 1 1, .slice (some ⟨w.heap.size + 1, 0, none⟩) 1 1] 75)
    obtain ⟨gr, hg⟩ : ∃ gr, gr = w.heap.size + 2 := ⟨_, rfl⟩
    have HA := Lib.hid (show RAhead S gr w w3 0 from ⟨_, _, _, [], .nil, 0, by rw [hg]; exact RfS.start r1 r2 r3 (Nat.le_refl _) (by omega) (by omega) (by omega) (by omega) (by omega), rfl, rfl, Nat.le_refl _, Nat.zero_le _, Nat.zero_le _, rb⟩)
    rw [← hw3]
    rw [show w.heap.size + 1 + 1 = gr by omega]
    clear hw3 r1 r2 r3 rb hg
    go_loopw [6] (fun iv wr => ∃ i : Nat, i ≤ S.size ∧ iv = .int .i64 (i : Int) ∧ Hid (RAhead S gr w wr i)) (fun iv _ => S.size - (intOf iv).toNat)
    case atStart => exact ⟨0, Nat.zero_le _, rfl, HA⟩
    case round =>
      obtain ⟨i, hiS, rfl, HR⟩ := hrel
      obtain ⟨lv, bv, st, up, ks, N, hr, hfr, hgo, hNi, -, hup, hb⟩ := HR.out
      have hi5 : i ≤ 262144 := by have := HS.out; omega
      have hst := frames_st hfr
      obtain ⟨gl, cl, rfl, hBl, hgl⟩ := hr.ownl.form (by omega)
      obtain ⟨gb, cb, rfl, hBb, hgb⟩ := hr.ownb.form (by omega)
      obtain ⟨q, hq⟩ : ∃ q, q = st.length := ⟨_, rfl⟩
      rw [← hq] at hr hst
      have m0 : wr.cell? ⟨gr, 0, none⟩ = some (.slice (some ⟨gl, 0, none⟩) q cl) := (cell_of_row _ _ 0 _ _ _ hr.rd).trans rfl
      have m1 : wr.cell? ⟨gr, 1, none⟩ = some (.slice (some ⟨gb, 0, none⟩) q cb) := (cell_of_row _ _ 1 _ _ _ hr.rd).trans rfl
      have HX := Lib.hid (show _ ∧ _ ∧ _ ∧ _ ∧ _ ∧ _ from ⟨hr, hfr, hgo, hup, hb, hq⟩)
      have hq0 : 0 < q := by omega
      have hq1 : q ≤ 401 := by omega
      clear hr hfr hup hb hq HR hBl hBb hgl hgb HA
      by_cases hlt : i < S.size
      · have hltd : decide (i < S.size) = true := decide_eq_true hlt
        rw [drop_byte hlt] at hgo
        obtain ⟨c, hc⟩ : ∃ c, c = S[i] := ⟨_, rfl⟩
        rw [← hc] at hgo
        obtain ⟨n, hn⟩ : ∃ n : Nat, n = c.toNat := ⟨_, rfl⟩
        have hcn : S[i].toNat = n := by rw [hn, hc]
        have e32 := u8_lit hn 32 (by decide)
        have e10 := u8_lit hn 10 (by decide)
        have e40 := u8_lit hn 40 (by decide)
        have e41 := u8_lit hn 41 (by decide)
        have HC := Lib.hid (show _ ∧ _ from ⟨hc, hn⟩)
        have HG := Lib.hid hgo
        have HM := Lib.hid (show _ ∧ _ from ⟨hNi, hst⟩)
        clear hc hn hgo hNi hst
        by_cases h32 : n = 32
        · have b32 : ((n : Int) == 32) = true := nat_beq h32
          have HE := Lib.hid (show RAhead S gr w wr (i + 1) from ⟨_, _, st, up, ks, N, HX.out.1, HX.out.2.1, by rw [← HG.out, go_blank (.inl (e32.1 h32))], by have := HM.out.1; omega, hlt, HX.out.2.2.2.1, HX.out.2.2.2.2.1⟩)
          clear h32 e32 e10 e40 e41
          go_wp2_with rw [hcn]
          go_roundw
          case rel => exact ⟨i + 1, hlt, by go_num, HE⟩
          case measure => simp [intOf]; omega
        have b32 : ((n : Int) == 32) = false := nat_bne h32
        by_cases h10 : n = 10
        · have b10 : ((n : Int) == 10) = true := nat_beq h10
          have HE := Lib.hid (show RAhead S gr w wr (i + 1) from ⟨_, _, st, up, ks, N, HX.out.1, HX.out.2.1, by rw [← HG.out, go_blank (.inr (e10.1 h10))], by have := HM.out.1; omega, hlt, HX.out.2.2.2.1, HX.out.2.2.2.2.1⟩)
          clear h32 h10 e32 e10 e40 e41
          go_wp2_with rw [hcn]
          go_roundw
          case rel => exact ⟨i + 1, hlt, by go_num, HE⟩
          case measure => simp [intOf]; omega
        have b10 : ((n : Int) == 10) = false := nat_bne h10
        have hnb : ¬ (c = 32 ∨ c = 10) := fun h => h.elim (fun h => h32 (e32.2 h)) fun h => h10 (e10.2 h)
        clear e32 e10 h32 h10
        by_cases h40 : n = 40
        · have hcb : c = 40 := e40.1 h40
          have b40 : ((n : Int) == 40) = true := nat_beq h40
          by_cases hu : up.length < 400
          · have bq : decide ((400 : Int) < (q : Int)) = false := decide_eq_false (by have := HM.out.2; omega)
            have HGo := Lib.hid (show go (S.data.toList.drop (i + 1)) (i + 1) ((i, ks) :: up) .nil = go S.data.toList 0 [] .nil by rw [← HG.out, hcb, go_open _ _ _ _ hu])
            have HU := Lib.hid hu
            have hown := HX.out.1.ownl
            rw [← HX.out.2.2.2.2.2] at hown
            have HO1 := Lib.hid (show (wr.alloc (.cells #[.slice none 0 0] 37)).ownsRow w.heap.size 37 1 (.slice (some ⟨gl, 0, none⟩) q cl) q (st.map (·.1)).reverse from hown.alloc _)
            have hownb := HX.out.1.ownb
            rw [← HX.out.2.2.2.2.2] at hownb
            have HOb := Lib.hid hownb
            have HBw := Lib.hid (show w.heap.size ≤ wr.heap.size from HX.out.2.2.2.2.1.size)
            have fr0 : wr.frozen? ⟨gr, 0, none⟩ = false := by simp [World.frozen?, HX.out.1.rd]
            have fr1 : wr.frozen? ⟨gr, 1, none⟩ = false := by simp [World.frozen?, HX.out.1.rd]
            have hgr := blk_lt HX.out.1.rd
            have m0a : (wr.alloc (.cells #[.slice none 0 0] 37)).cell? ⟨gr, 0, none⟩ = some (.slice (some ⟨gl, 0, none⟩) q cl) := (cell_congr (Below.heap_alloc _ _ _ hgr)).trans m0
            obtain ⟨i1, hin1, hz10, hz11, hz12⟩ := info_parts info_rows
            obtain ⟨i2, hin2, hz20, hz21, hz22⟩ := info_parts info_begun
            clear hcb h40 e40 e41 hu hnb hown hownb hgr
            go_wp2_with first | rw [hcn] | (at_builtin; refine wpList_append_lies _ rfl _ _ 72 rfl w.heap.size 37 i1 _ 1 24 Tryd.underlying72 hin1 hz10 hz11 hz12 rfl (by decide) (.slice (some ⟨gl, 0, none⟩) q cl) q (st.map (·.1)).reverse rfl HO1.out ⟨wr.heap.size, 0, none⟩ 1 1 [.slice none 0 0] rfl rfl ?c1 ?c2 (by decide) ?c3 ?c4 ?c5 _ rfl ?_)
            case c1 =>
              intro j u hu
              rw [add_eq0]
              exact (cell_of_row _ _ j _ _ _ (heap_alloc_new _ _)).trans (by simpa using hu)
            case c2 => intro u hu; simp at hu; subst hu; rfl
            case c3 => unfold maxLen; omega
            case c4 => omega
            case c5 => have := HBw.out; rw [World.size_alloc]; omega
            intro g3 c3 w3 r3 q3 o3 l3
            obtain ⟨e1, e2, hgr, hgb, hgl, n1, n2, n3, hs3⟩ := rpush_mid HX.out.1 q3
            have m1b : w3.cell? ⟨gr, 1, none⟩ = some (.slice (some ⟨gb, 0, none⟩) q cb) := (cell_congr e1).trans m1
            have m0b : w3.cell? ⟨gr, 0, none⟩ = some (.slice (some ⟨gl, 0, none⟩) q cl) := (cell_congr e1).trans m0
            have fr0b : w3.frozen? ⟨gr, 0, none⟩ = false := (World.frozen?_of_block e1).trans fr0
            have fr1b : w3.frozen? ⟨gr, 1, none⟩ = false := (World.frozen?_of_block e1).trans fr1
            have HOb2 := Lib.hid (show ((w3.setCell ⟨gr, 0, none⟩ (.slice (some ⟨g3, 0, none⟩) (q + 1) c3)).alloc (.cells #[.int .i64 (i : Int)] 3)).ownsRow w.heap.size 3 1 (.slice (some ⟨gb, 0, none⟩) q cb) q (st.map (fun q => Value.int .i64 (q.2.2 : Int))).reverse from (ownsRow_same HOb.out fun m hm => by
              obtain rfl : gb = m := by injection hm
              exact (Below.heap_setCell _ _ _ _ n3).trans e2).alloc _)
            have hsz : (w3.setCell ⟨gr, 0, none⟩ (.slice (some ⟨g3, 0, none⟩) (q + 1) c3)).heap.size = w3.heap.size := by simp
            have HBw2 := Lib.hid (show w.heap.size ≤ ((w3.setCell ⟨gr, 0, none⟩ (.slice (some ⟨g3, 0, none⟩) (q + 1) c3)).alloc (.cells #[.int .i64 (i : Int)] 3)).heap.size by rw [World.size_alloc, hsz]; have := HBw.out; omega)
            have m1c : ((w3.setCell ⟨gr, 0, none⟩ (.slice (some ⟨g3, 0, none⟩) (q + 1) c3)).alloc (.cells #[.int .i64 (i : Int)] 3)).cell? ⟨gr, 1, none⟩ = some (.slice (some ⟨gb, 0, none⟩) q cb) := (cell_congr (Below.heap_alloc _ _ _ (show gr < _ by rw [hsz]; omega))).trans (by rw [show (w3.setCell ⟨gr, 0, none⟩ (.slice (some ⟨g3, 0, none⟩) (q + 1) c3)).cell? ⟨gr, 1, none⟩ = w3.cell? ⟨gr, 1, none⟩ by simp [go_sem]]; exact m1b)
            have HE3 := Lib.hid (fun g5 c5 w5 hr5 hg5 (ho5 : some gb = some g5 ∨ g5 = w3.heap.size + 1) => rpush_end (a := i) (g5 := g5) (c5 := c5) (w5 := w5) (o2 := .cells #[.int .i64 (i : Int)] 3) HX.out.1 HX.out.2.2.2.2.2 r3 q3 (by rw [World.size_alloc]; exact o3) hr5 hg5 (by rw [World.size_alloc, hsz]; exact ho5))
            have HF5 := Lib.hid (show ∀ w5, ((w3.setCell ⟨gr, 0, none⟩ (.slice (some ⟨g3, 0, none⟩) (q + 1) c3)).alloc (.cells #[.int .i64 (i : Int)] 3)).grownBy w5 (some gb) → w5.frozen? ⟨gr, 1, none⟩ = false ∧ w5.cell? ⟨gr, 1, none⟩ = some (.slice (some ⟨gb, 0, none⟩) q cb) from fun w5 h5 => by
              have x1 : w5.heap[gr]? = (w3.setCell ⟨gr, 0, none⟩ (.slice (some ⟨g3, 0, none⟩) (q + 1) c3)).heap[gr]? := (h5.block gr (by rw [World.size_alloc, hsz]; omega) fun e => n3 (by injection e with e; exact e.symm)).trans (Below.heap_alloc _ _ _ (by rw [hsz]; omega))
              have x2 : (w3.setCell ⟨gr, 0, none⟩ (.slice (some ⟨g3, 0, none⟩) (q + 1) c3)).heap[gr]? = some _ := pair_set0 (e1.trans HX.out.1.rd)
              exact ⟨by simp [World.frozen?, x1, x2], (cell_of_row _ _ 1 _ _ _ (x1.trans x2)).trans rfl⟩)
            clear r3 q3 o3 l3 e1 e2 hgr hgb hgl n1 n2 n3 hs3 hsz m0a m1 m0 fr0 fr1
            go_wp2_with (at_builtin; refine wpList_append_lies _ rfl _ _ 73 rfl w.heap.size 3 i2 _ 1 8 Tryd.underlying73 hin2 hz20 hz21 hz22 rfl (by decide) (.slice (some ⟨gb, 0, none⟩) q cb) q (st.map (fun q => Value.int .i64 (q.2.2 : Int))).reverse rfl HOb2.out ⟨w3.heap.size, 0, none⟩ 1 1 [.int .i64 (i : Int)] rfl rfl ?d1 ?d2 (by decide) ?d3 ?d4 HBw2.out _ rfl ?_)
            case d1 =>
              intro j u hu
              rw [add_eq0]
              exact (cell_of_row _ _ j _ _ _ (by rw [show w3.heap.size = (w3.setCell ⟨gr, 0, none⟩ (.slice (some ⟨g3, 0, none⟩) (q + 1) c3)).heap.size by simp]; exact heap_alloc_new _ _)).trans (by simpa using hu)
            case d2 => intro u hu; simp at hu; subst hu; rfl
            case d3 => unfold maxLen; omega
            case d4 => omega
            intro g5 c5 w5 r5 q5 o5 l5
            obtain ⟨fr5, mm5⟩ := HF5.out w5 q5
            obtain ⟨hbe, hre⟩ := HE3.out g5 c5 w5 r5 q5 o5
            have HE := Lib.hid (show RAhead S gr w (w5.setCell ⟨gr, 1, none⟩ (.slice (some ⟨g5, 0, none⟩) (q + 1) c5)) (i + 1) from ⟨_, _, _, (i, ks) :: up, .nil, N, hre, by rw [List.map_cons, HX.out.2.1]; rfl, HGo.out, by have := HM.out.1; omega, hlt, by have := HU.out; simp; omega, HX.out.2.2.2.2.1.trans hbe⟩)
            clear r5 q5 o5 l5 hbe hre HE3 HF5
            go_wp2
            go_roundw
            case rel => exact ⟨i + 1, hlt, by go_num, HE⟩
            case measure => simp [intOf]; omega
          · have bq : decide ((400 : Int) < (q : Int)) = true := decide_eq_true (by have := HM.out.2; omega)
            have HT := Lib.hid (show fin S.size (go S.data.toList 0 [] .nil) = (.nil, i, 3) by rw [← HG.out, hcb, go_deep _ _ _ _ hu]; rfl)
            clear hcb h40 e40 e41 hu hnb
            go_wp2_with rw [hcn]
            go_returns
            exact ⟨HX.out.2.2.2.2.1, .nil, i, 3, none, 0, HP.out.trans HT.out, rfl, ⟨Nat.le_refl _, Nat.zero_le _, Nat.zero_le _⟩, trivial⟩
        have b40 : ((n : Int) == 40) = false := nat_bne h40
        have hn40 : c ≠ 40 := fun h => h40 (e40.2 h)
        clear e40 h40
        by_cases h41 : n = 41
        · have hcb : c = 41 := e41.1 h41
          have b41 : ((n : Int) == 41) = true := nat_beq h41
          obtain ⟨v, a, st', rfl, hfr'⟩ := frames_cons HX.out.2.1
          cases up with
          | nil =>
            obtain ⟨rfl, rfl⟩ := hfr'
            have bq : ((q : Int) == 1) = true := nat_beq (k := 1) (by have := HM.out.2; simpa using this)
            have HT := Lib.hid (show fin S.size (go S.data.toList 0 [] .nil) = (.nil, i, 20) by rw [← HG.out, hcb, go_none]; rfl)
            clear hcb h41 e41 hnb hn40
            go_wp2_with rw [hcn]
            go_returns
            exact ⟨HX.out.2.2.2.2.1, .nil, i, 20, none, 0, HP.out.trans HT.out, rfl, ⟨Nat.le_refl _, Nat.zero_le _, Nat.zero_le _⟩, trivial⟩
          | cons x u =>
            obtain ⟨b, js⟩ := x
            obtain ⟨rfl, hfr2⟩ := hfr'
            obtain ⟨v2, a2, st2, rfl, hfr3⟩ := frames_cons hfr2
            have hql : q = st2.length + 2 := by rw [HX.out.2.2.2.2.2]; rfl
            have bq : ((q : Int) == 1) = false := nat_bne (k := 1) (by omega)
            have HBg := Lib.hid (rclose_ok (show RfS w.heap.size gr N wr (.slice (some ⟨gl, 0, none⟩) q cl) (.slice (some ⟨gb, 0, none⟩) q cb) _ from HX.out.1) (by have := HM.out.1; have := HS.out; omega) (by omega))
            have HGo := Lib.hid (show go (S.data.toList.drop (i + 1)) (i + 1) u (js.app (.one ⟨#[]⟩ ks true a)) = go S.data.toList 0 [] .nil by rw [← HG.out, hcb, go_close])
            have HL := Lib.hid (frames_top (js' := js.app (.one ⟨#[]⟩ ks true a)) hfr2)
            have HU := Lib.hid (show u.length ≤ 400 by have := HX.out.2.2.2.1; simp at this; omega)
            clear hcb h41 e41 hnb hn40 hfr2 hfr3 hql
            go_wp2_with first | rw [hcn] | fail
            refine HBg.out.mono ?_
            rintro e w4 ⟨rfl, hb4, lv4, bv4, v4, hr4⟩
            have HE := Lib.hid (show RAhead S gr w w4 (i + 1) from ⟨lv4, bv4, _, u, _, N + 1, hr4, HL.out, HGo.out, by have := HM.out.1; omega, hlt, HU.out, HX.out.2.2.2.2.1.trans hb4⟩)
            clear hb4 hr4
            go_wp2
            go_roundw
            case rel => exact ⟨i + 1, hlt, by go_num, HE⟩
            case measure => simp [intOf]; omega
        have b41 : ((n : Int) == 41) = false := nat_bne h41
        have hn41 : c ≠ 41 := fun h => h41 (e41.2 h)
        clear e41 h41
        have HSg := Lib.hid (rsign_ok c wr)
        rw [← HC.out.2] at HSg
        cases hsg : signB c with
        | true =>
          rw [hsg] at HSg
          have hs : signB S[i] = true := by rw [← HC.out.1]; exact hsg
          have HW0 := Lib.hid (WordM.start hlt hs)
          obtain ⟨v, a, st', rfl, hfr'⟩ := frames_cons HX.out.2.1
          have hql : q = st'.length + 1 := by rw [HX.out.2.2.2.2.2]; rfl
          obtain ⟨hw1, hw2, hw3⟩ := word_next hlt hs
          have HGw := Lib.hid (show go (S.data.toList.drop (i + (wordAt S i).length)) (i + (wordAt S i).length) up (ks.app (.one ⟨(wordAt S i).toArray⟩ .nil false i)) = go S.data.toList 0 [] .nil by rw [← HG.out, HC.out.1, go_word hs, hw1, hw2, wordAt_cons hlt hs])
          have HF := Lib.hid (frames_top (js' := ks.app (.one ⟨(wordAt S i).toArray⟩ .nil false i)) HX.out.2.1)
          have hgr : gr < wr.heap.size := blk_lt HX.out.1.rd
          have HPt := Lib.hid (fun (s : ByteArray) (hsz : s.size ≤ 140737488355328) => rput_ok (s := s) (b := false) (p := (i : Int)) (K := none) (c := 0) (k := .nil) HX.out.1 ⟨hsz, Nat.le_refl _, Nat.zero_le _, Nat.zero_le _⟩ (DepF.nil _ _ _) (by have := HM.out.1; have := HS.out; omega) rfl (by omega))
          have HQ := Lib.hid (show _ ∧ _ from ⟨hql, hgr⟩)
          clear hw1 hw2 hw3 hs hsg hnb hn40 hn41 hfr' hql hgr
          go_wp2_with first | rw [hcn] | fail
          refine HSg.out.mono ?_
          rintro e w4 ⟨rfl, hw4⟩
          rw [hw4]
          clear hw4 w4
          rename World => wo
          go_wp2
          go_loopw [6] (fun iv wx => ∃ m : Nat, iv = .int .i64 ((i + m : Nat) : Int) ∧ Hid (wx = wo ∧ WordM S i m)) (fun iv _ => S.size - (intOf iv).toNat)
          case atStart => exact ⟨0, rfl, Lib.hid ⟨rfl, HW0.out⟩⟩
          case round =>
            obtain ⟨m, rfl, HR⟩ := hrel
            obtain ⟨hwx, hm⟩ := HR.out
            rw [hwx]
            clear HR hwx
            have hjl := hm.1
            obtain ⟨j, hj⟩ : ∃ j, j = i + m := ⟨_, rfl⟩
            rw [← hj]
            rw [← hj] at hjl
            have HJ := Lib.hid (show _ ∧ _ from ⟨hj, hm⟩)
            have hj5 : j ≤ 262144 := by have := HS.out; omega
            have hij : i ≤ j := by omega
            clear hj hm
            by_cases hl2 : j + 1 < S.size
            · have l1 : decide (j + 1 < S.size) = true := decide_eq_true hl2
              have l2 : decide ((j : Int) + 1 < (S.size : Int)) = true := decide_eq_true (by omega)
              have HS2 := Lib.hid (rsign_ok S[j + 1] wo)
              obtain ⟨d, hd⟩ : ∃ d : Nat, S[j + 1].toNat = d := ⟨_, rfl⟩
              rw [hd] at HS2
              cases hsg2 : signB S[j + 1] with
              | true =>
                rw [hsg2] at HS2
                have HE := Lib.hid (show WordM S i (m + 1) from HJ.out.2.more (by rw [← HJ.out.1]; exact hl2) (by rw [← hsg2]; congr 1; simp only [HJ.out.1]))
                clear hsg2 HX HGw HF HPt HQ HSg HC HG HM HW0
                go_wp2_with fail
                refine HS2.out.mono ?_
                rintro e w5 ⟨rfl, hw5⟩
                rw [hw5]
                clear hw5 w5 HS2
                go_wp2
                go_roundw
                case rel => exact ⟨m + 1, by have := HJ.out.1; rw [show (j : Int) + 1 = ((i + (m + 1) : Nat) : Int) by omega], Lib.hid ⟨trivial, HE.out⟩⟩
                case measure => have := HJ.out.1; simp [intOf]; omega
              | false =>
                rw [hsg2] at HS2
                have hend := HJ.out.2.end (.inr ⟨by rw [← HJ.out.1]; exact hl2, by rw [← hsg2]; congr 1; simp only [HJ.out.1]⟩)
                clear hsg2 HQ HSg HC HW0
                go_wp2_with fail
                refine HS2.out.mono ?_
                rintro e w5 ⟨rfl, hw5⟩
                rw [hw5]
                clear hw5 w5 HS2
                obtain ⟨p, hp⟩ : ∃ p, p = j + 1 := ⟨_, rfl⟩
                have HEnd := Lib.hid (show S.extract i p = ⟨(wordAt S i).toArray⟩ by rw [hp, HJ.out.1]; exact piece_is (m := m + 1) hend.1.symm)
                have HLen := Lib.hid (show i + (wordAt S i).length = p by rw [hend.2, hp, HJ.out.1]; omega)
                have hle : i ≤ p := by omega
                have hip : i < p := by omega
                have hle2 : p ≤ S.size := by omega
                have hp5 : p ≤ 262144 := by have := HS.out; omega
                have hpi : (j : Int) + 1 = (p : Int) := by omega
                clear hd hend hl2 l1 l2 hp
                have hPp := HPt.out (S.extract i p) (by rw [ByteArray.size_extract]; omega)
                have HPp := Lib.hid hPp
                clear hPp
                go_wp2_with fail
                refine HPp.out.mono ?_
                rintro e w5 ⟨rfl, hb5, v5, hr5⟩
                have HE := Lib.hid (show RAhead S gr w w5 p from ⟨_, _, _, up, _, N + 1, hr5, by have := HF.out; rw [← HEnd.out] at this; exact this, by have := HGw.out; rw [HLen.out, ← HEnd.out] at this; exact this, by have := HM.out.1; omega, hle2, HX.out.2.2.2.1, HX.out.2.2.2.2.1.trans hb5⟩)
                clear hb5 hr5 HPp HPt HX HEnd HLen HGw HF HM HG HJ
                go_wp2
                go_roundw
                case rel => exact ⟨p, hle2, by go_num, HE⟩
                case measure => simp [intOf]; omega
            · have l1 : decide (j + 1 < S.size) = false := decide_eq_false hl2
              have hend := HJ.out.2.end (.inl (by have := HJ.out.1; omega))
              obtain ⟨p, hp⟩ : ∃ p, p = j + 1 := ⟨_, rfl⟩
              have HEnd := Lib.hid (show S.extract i p = ⟨(wordAt S i).toArray⟩ by rw [hp, HJ.out.1]; exact piece_is (m := m + 1) hend.1.symm)
              have HLen := Lib.hid (show i + (wordAt S i).length = p by rw [hend.2, hp, HJ.out.1]; omega)
              have hle : i ≤ p := by omega
              have hip : i < p := by omega
              have hle2 : p ≤ S.size := by omega
              have hp5 : p ≤ 262144 := by have := HS.out; omega
              have hpi : (j : Int) + 1 = (p : Int) := by omega
              have l3 : decide (p < S.size) = false := decide_eq_false (by omega)
              have l4 : decide ((p : Int) < (S.size : Int)) = false := decide_eq_false (by omega)
              clear hend hl2 HQ HSg HC HW0 hp
              have hPp := HPt.out (S.extract i p) (by rw [ByteArray.size_extract]; omega)
              have HPp := Lib.hid hPp
              clear hPp
              go_wp2_with fail
              refine HPp.out.mono ?_
              rintro e w5 ⟨rfl, hb5, v5, hr5⟩
              have HE := Lib.hid (show RAhead S gr w w5 p from ⟨_, _, _, up, _, N + 1, hr5, by have := HF.out; rw [← HEnd.out] at this; exact this, by have := HGw.out; rw [HLen.out, ← HEnd.out] at this; exact this, by have := HM.out.1; omega, hle2, HX.out.2.2.2.1, HX.out.2.2.2.2.1.trans hb5⟩)
              clear hb5 hr5 HPp HPt HX HEnd HLen HGw HF HM HG HJ
              go_wp2
              go_roundw
              case rel => exact ⟨p, hle2, by go_num, HE⟩
              case measure => simp [intOf]; omega
        | false =>
          rw [hsg] at HSg
          have HT := Lib.hid (show fin S.size (go S.data.toList 0 [] .nil) = (.nil, i, 20) by rw [← HG.out, go_not hnb hn40 hn41 hsg]; rfl)
          clear hsg hnb hn40 hn41
          go_wp2_with first | rw [hcn] | fail
          refine HSg.out.mono ?_
          rintro e w4 ⟨rfl, rfl⟩
          go_wp2
          go_returns
          exact ⟨HX.out.2.2.2.2.1, .nil, i, 20, none, 0, HP.out.trans HT.out, rfl, ⟨Nat.le_refl _, Nat.zero_le _, Nat.zero_le _⟩, trivial⟩
      · have hltd : decide (i < S.size) = false := decide_eq_false hlt
        have hie : i = S.size := by omega
        rw [drop_over (by omega), go_nil] at hgo
        obtain ⟨v, a, st', rfl, hfr'⟩ := frames_cons HX.out.2.1
        cases up with
        | nil =>
          obtain ⟨rfl, rfl⟩ := hfr'
          obtain rfl : q = 1 := HX.out.2.2.2.2.2
          obtain ⟨hc, K, c, hv, hc1, hc2, hd⟩ := HX.out.1.core.pop
          have hv : v = .slice K ks.len c := hv
          subst hv
          have hkl : ks.len ≤ N := HX.out.1.core.few _ (List.mem_cons_self ..)
          have mc : wr.cell? ⟨gl, 0, none⟩ = some (.slice K ks.len c) := (World.ownsRow.cellAt HX.out.1.ownl 0 (by decide)).trans rfl
          have HE := Lib.hid (show ParseE S w (.returned (.tuple #[.slice K ks.len c, .int .i64 ((0 : Nat) : Int), .int .i64 0])) wr from ⟨HX.out.2.2.2.2.1, ks, 0, 0, K, c, by rw [HP.out, ← hgo]; rfl, rfl, ⟨hc1, hc2, by have := HS.out; omega⟩, hd.at⟩)
          clear hgo hie hc hc1 hc2 hd hkl HX hst hNi
          go_wp2
          go_returns
          exact HE.out
        | cons x u =>
          obtain ⟨b, js⟩ := x
          obtain ⟨rfl, hfr2⟩ := hfr'
          obtain ⟨v2, a2, st2, rfl, hfr3⟩ := frames_cons hfr2
          have hql : q = st2.length + 2 := by rw [HX.out.2.2.2.2.2]; rfl
          have bq : decide ((1 : Int) < (q : Int)) = true := decide_eq_true (by omega)
          have HE := Lib.hid (show ParseE S w (.returned (.tuple #[.slice none 0 0, .int .i64 (S.size : Int), .int .i64 20])) wr from ⟨HX.out.2.2.2.2.1, .nil, S.size, 20, none, 0, by rw [HP.out, ← hgo]; rfl, rfl, ⟨Nat.le_refl _, Nat.zero_le _, Nat.zero_le _⟩, trivial⟩)
          clear hgo hie hfr2 hfr3 hql HX hst hNi
          go_wp2
          go_returns
          exact HE.out
end Go.Proofs.YtbccknhinmgibaaDoor

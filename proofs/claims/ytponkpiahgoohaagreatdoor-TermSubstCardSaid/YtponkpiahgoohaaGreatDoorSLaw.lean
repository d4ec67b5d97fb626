/- The law TermSubst: it holds. Conditions: what the rows say of what comes in. -/
import Derived.Test.YtponkpiahgoohaaGreatDoorSGreat
set_option linter.unusedVariables false
set_option linter.unusedSimpArgs false
namespace Go.Proofs.YtponkpiahgoohaaGreatDoor
open Go.RowKit Go.WideMaps Go.Maps

/-- What a part weighs, its term weighs at least. -/
theorem wt_part : ∀ (M : Nat) (l : List Tm), wtL l ≤ M → ∀ p ∈ preL l, wtT p ≤ wtL l := by
  intro M
  induction M with
  | zero =>
    intro l hl p hp
    have h1 := preL_wt _ (l := l) (Nat.le_refl _)
    have : (preL l).length = 0 := by omega
    rw [List.length_eq_zero_iff.1 this] at hp
    cases hp
  | succ M ih =>
    intro l
    induction l with
    | nil => intro _ p hp; rw [preL_nil] at hp; cases hp
    | cons t l ihl =>
      intro hl p hp
      rw [wtL_cons] at hl ⊢
      rw [preL_cons] at hp
      have hw := wtT_eq t
      rcases List.mem_cons.1 hp with rfl | hp
      · omega
      · rcases List.mem_append.1 hp with hp | hp
        · have := ih t.kids (by omega) p hp
          omega
        · have := ihl (by omega) p hp
          omega
theorem few_t {t : Tm} (h : wtT t ≤ 3000) : okD t ∧ (preT t).length ≤ 3000 ∧ ∀ p ∈ preT t, p.name.size ≤ 30000 := by
  have hp := wt_part 3000 [t] (by rw [wtL_cons, wtL_nil]; omega)
  have hl := preL_wt _ (l := [t]) (Nat.le_refl _)
  rw [wtL_cons, wtL_nil] at hl
  rw [preL_one] at hp hl
  refine ⟨fun p h1 => ?_, by omega, fun p h1 => ?_⟩
  all_goals
    have h2 := hp p h1
    rw [wtL_cons, wtL_nil] at h2
    have h3 := wtT_eq p
    omega
theorem datas_none (W : World) : DatasV W (.slice none 0 0) [] := ⟨none, 0, rfl, fun j x h => by simp at h⟩
/-- What comes in. -/
structure LawIn (w : World) (D : List DtT) (S : List (ByteArray × ByteArray)) (vD vS vt : Value) (t : Tm) (kn Kt : Option Addr) (nn cn : Nat) (names : List ByteArray) (ts : List Tm) : Prop where
  d : DatasV w vD D
  dz : DSz D
  s : ScopeV w vS S
  sl : S.length ≤ 140737488355328
  tv : TmV w vt t
  nr : Row w kn (names.map Value.string)
  nk : kn = none → nn = 0 ∧ cn = 0
  ncap : nn ≤ cn
  nl : names.length ≤ 140737488355328
  nsz : ∀ x ∈ names, x.size ≤ 140737488355328
  tr : TmsAt w Kt ts
  tl : ts.length ≤ 140737488355328
theorem tm_turn {W : World} {v : Value} {a t : Tm} (e : a = t) (h : TmV W v a) : TmV W v t := e ▸ h
set_option maxRecDepth 100000 in
set_option maxHeartbeats 6400000 in
theorem law_ok {w : World} {D : List DtT} {S : List (ByteArray × ByteArray)} {vD vS : Value} {t0 t1 t2 t3 t4 : Value} {t : Tm} {kn Kt : Option Addr} {nn cn nt ct : Nat} {names : List ByteArray} {ts : List Tm} (hnn : nn = names.length) (hnt : nt = ts.length) (h : LawIn w D S vD vS (.agg #[t0, t1, t2, t3, t4]) t kn Kt nn cn names ts) (htab : TabM w.heap.size w) :
    Calls Tryz.prog 3 #[vD, vS, .agg #[t0, t1, t2, t3, t4], .slice kn nn cn, .slice Kt nt ct] w (SaysB w true) := by
  have hmm : ∀ w, (Instr.makeMap 39 none).run Tryz.prog w = .ok (.map (some w.heap.size)) (w.alloc (.map #[] 0)) := fun w => by
    simp [Instr.makeMap, go_sem]
  obtain ⟨AS, cS, rfl⟩ : ∃ A c, vS = .slice A S.length c := by obtain ⟨A, c, e, _⟩ := h.s; exact ⟨A, c, e⟩
  obtain ⟨ls, hls⟩ : ∃ ls, ls = S.length := ⟨_, rfl⟩
  have hls1 : ls ≤ 140737488355328 := by have := h.sl; omega
  have hnn1 : nn ≤ 140737488355328 := by have := h.nl; omega
  have hnt1 : nt ≤ 140737488355328 := by have := h.tl; omega
  have HH := Lib.hid (show _ ∧ _ ∧ _ ∧ _ from ⟨h, hnn, hnt, hls⟩)
  rw [← hls]
  obtain ⟨W1, hW1⟩ : ∃ W1, W1 = w.alloc (.cells #[t0, t1, t2, t3, t4] 30) := ⟨_, rfl⟩
  have hb1 : Below w.heap.size w W1 := by rw [hW1]; exact bal (Below.refl _ _) _
  have hz1 : W1.heap[w.heap.size]? = some (.cells #[t0, t1, t2, t3, t4] 30 (0, 0)) := by rw [hW1]; exact heap_alloc_new w _
  have HA := Lib.hid (awake4_ok (w := W1) (htab.on hb1 hb1.size))
  have H1 := Lib.hid (show _ ∧ _ from ⟨hb1, hz1⟩)
  clear h hnn hnt hls hb1 hz1 htab
  go_enter Tryz.func3, Tryz.ntmps3
  go_wp2_with fail
  rw [← hW1]
  clear hW1
  refine HA.out.mono ?_
  rintro e w2 ⟨rfl, hb2⟩
  have H2 := Lib.hid (show Below w.heap.size w w2 ∧ w2.heap[w.heap.size]? = some (.cells #[t0, t1, t2, t3, t4] 30 (0, 0)) from ⟨H1.out.1.trans (hb2.mono H1.out.1.size), (hb2.block _ (Own.lt.cell_lt' H1.out.2)).trans H1.out.2⟩)
  have y0 : w2.cell? ⟨w.heap.size, 0, none⟩ = some t0 := cell_blk H2.out.2
  have y1 : w2.cell? ⟨w.heap.size, 1, none⟩ = some t1 := cell_blk H2.out.2
  have y2 : w2.cell? ⟨w.heap.size, 2, none⟩ = some t2 := cell_blk H2.out.2
  have y3 : w2.cell? ⟨w.heap.size, 3, none⟩ = some t3 := cell_blk H2.out.2
  have y4 : w2.cell? ⟨w.heap.size, 4, none⟩ = some t4 := cell_blk H2.out.2
  clear hb2 H1 HA
  go_wp2_with fail
  have hb3 : Below w.heap.size w (w2.alloc (.cells #[t0, t1, t2, t3, t4] 30)) := bal H2.out.1 _
  have HG := Lib.hid (great_full (c := 1) (n := 1) (HH.out.1.d.sub (sub_below hb3)) HH.out.1.dz (l := [t]) rfl (tms_one (HH.out.1.tv.bel H2.out.1)) (by simp))
  have H3 := Lib.hid (show Below w.heap.size w (w2.alloc (.cells #[t0, t1, t2, t3, t4] 30)) ∧ (w2.alloc (.cells #[t0, t1, t2, t3, t4] 30)).heap[w.heap.size]? = some (.cells #[t0, t1, t2, t3, t4] 30 (0, 0)) from ⟨hb3, (Below.heap_alloc _ _ _ (Own.lt.cell_lt' H2.out.2)).trans H2.out.2⟩)
  clear hb3 y0 y1 y2 y3 y4 H2
  refine HG.out.mono ?_
  rintro e w4 ⟨g1, rfl, hg1, hb4⟩
  have H4 := Lib.hid (show Below w.heap.size w w4 ∧ w4.heap[w.heap.size]? = some (.cells #[t0, t1, t2, t3, t4] 30 (0, 0)) from ⟨H3.out.1.trans (hb4.mono H3.out.1.size), (hb4.block _ (Own.lt.cell_lt' H3.out.2)).trans H3.out.2⟩)
  have HG1 := Lib.hid hg1
  clear hg1 hb4 H3 HG
  cases g1 with
  | true =>
    have HE := Lib.hid H4.out.1
    go_wp2
    go_returns
    exact ⟨rfl, HE.out⟩
  | false =>
  obtain ⟨hfew, hwt⟩ := HG1.out rfl
  have HWT := Lib.hid (show wtT t ≤ 100000 from by have h1 := hwt; rw [wtL_cons, wtL_nil] at h1; omega)
  have HF := Lib.hid (show _ ∧ _ from ⟨hfew, few_t (by rw [wtL_cons, wtL_nil] at hwt; omega)⟩)
  have HG := Lib.hid (great_full (c := ct) (datas_none w4) ⟨by simp, (fun d hd => by cases hd), (fun d hd => by cases hd), (fun d hd => by cases hd)⟩ HH.out.2.2.1 (HH.out.1.tr.below H4.out.1) HH.out.1.tl)
  clear hfew hwt HG1
  go_wp2_with fail
  refine HG.out.mono ?_
  rintro e w5 ⟨g2, rfl, hg2, hb5⟩
  have H5 := Lib.hid (show Below w.heap.size w w5 ∧ w5.heap[w.heap.size]? = some (.cells #[t0, t1, t2, t3, t4] 30 (0, 0)) from ⟨H4.out.1.trans (hb5.mono H4.out.1.size), (hb5.block _ (Own.lt.cell_lt' H4.out.2)).trans H4.out.2⟩)
  have HG2 := Lib.hid hg2
  clear hg2 hb5 H4 HG
  cases g2 with
  | true =>
    have HE := Lib.hid H5.out.1
    go_wp2
    go_returns
    exact ⟨rfl, HE.out⟩
  | false =>
  obtain ⟨-, hwl⟩ := HG2.out rfl
  have HW := Lib.hid hwl
  clear hwl HG2
  by_cases hs : ls ≤ 300
  rotate_left
  · have c1 : decide ((ls : Int) > 300) = true := decide_eq_true (by omega)
    have c2 : decide ((300 : Int) < (ls : Int)) = true := decide_eq_true (by omega)
    have HE := Lib.hid H5.out.1
    clear hs HF HW H5
    go_wp2
    go_returns
    exact ⟨rfl, HE.out⟩
  have c1 : decide ((ls : Int) > 300) = false := decide_eq_false (by omega)
  have c2 : decide ((300 : Int) < (ls : Int)) = false := decide_eq_false (by omega)
  by_cases hn : nn ≤ 300
  rotate_left
  · have c3 : decide ((nn : Int) > 300) = true := decide_eq_true (by omega)
    have c4 : decide ((300 : Int) < (nn : Int)) = true := decide_eq_true (by omega)
    have HE := Lib.hid H5.out.1
    clear hs hn HF HW H5
    go_wp2
    go_returns
    exact ⟨rfl, HE.out⟩
  have c3 : decide ((nn : Int) > 300) = false := decide_eq_false (by omega)
  have c4 : decide ((300 : Int) < (nn : Int)) = false := decide_eq_false (by omega)
  by_cases hnt : nn ≤ nt
  rotate_left
  · have c5 : decide ((nn : Int) > (nt : Int)) = true := decide_eq_true (by omega)
    have c6 : decide ((nt : Int) < (nn : Int)) = true := decide_eq_true (by omega)
    have c7 : decide (nt < nn) = true := decide_eq_true (by omega)
    have c8 : nt < nn := by omega
    have HE := Lib.hid H5.out.1
    clear hs hn hnt HF HW H5
    go_wp2
    go_returns
    exact ⟨rfl, HE.out⟩
  have c5 : decide ((nn : Int) > (nt : Int)) = false := decide_eq_false (by omega)
  have c6 : decide ((nt : Int) < (nn : Int)) = false := decide_eq_false (by omega)
  have c7 : decide (nt < nn) = false := decide_eq_false (by omega)
  have c8 : ¬ nt < nn := by omega
  have y0 : w5.cell? ⟨w.heap.size, 0, none⟩ = some t0 := cell_blk H5.out.2
  have y1 : w5.cell? ⟨w.heap.size, 1, none⟩ = some t1 := cell_blk H5.out.2
  have y2 : w5.cell? ⟨w.heap.size, 2, none⟩ = some t2 := cell_blk H5.out.2
  have y3 : w5.cell? ⟨w.heap.size, 3, none⟩ = some t3 := cell_blk H5.out.2
  have y4 : w5.cell? ⟨w.heap.size, 4, none⟩ = some t4 := cell_blk H5.out.2
  have hts : ∀ u ∈ ts, okD u ∧ (preT u).length ≤ 3000 ∧ ∀ p ∈ preT u, p.name.size ≤ 30000 := fun u hu => few_t (Nat.le_trans (wtL_mem hu) HW.out)
  have htl : ts.length ≤ 3000 := Nat.le_trans (preL_len ts) (Nat.le_trans (preL_wt _ (Nat.le_refl _)) HW.out)
  have hfs : ∀ x u, subFn names ts x = some u → u ∈ ts := fun x u h => by
    obtain ⟨i, _, h2⟩ := subFn_some h
    exact List.mem_of_getElem? h2
  obtain ⟨a, ha⟩ : ∃ a, a = subT (subFn names ts) t := ⟨_, rfl⟩
  have hsize : (preT a).length ≤ 20000000 := by
    have h1 := size_subT (f := subFn names ts) (M := 3000) (by decide) (fun x u h => (hts u (hfs x u h)).2.1) t
    have h2 := HF.out.2.2.1
    rw [ha]
    have h3 : 3000 * (preT t).length ≤ 3000 * 3000 := Nat.mul_le_mul_left _ h2
    omega
  have HT := Lib.hid (show _ ∧ _ ∧ _ ∧ _ from ⟨hts, htl, hfs, ha⟩)
  have HC := Lib.hid (subst_any (ct2 := ct) (HH.out.1.tv.bel H5.out.1) (HH.out.1.tr.below H5.out.1) (HH.out.1.nr.sub (sub_below H5.out.1)) HH.out.1.nk HH.out.2.1 HH.out.1.ncap (show names = names.take (min nn ts.length) from by rw [List.take_of_length_le]; have := HH.out.2.1; have := HH.out.2.2.1; omega) (by omega) (fun x hx => Nat.le_trans (HH.out.1.nsz x hx) (by unfold maxLen; decide)) (by rw [← ha]; exact hsize) ⟨HF.out.2.1, fun u hu => (hts u hu).1⟩)
  rw [← ha, ← HH.out.2.2.1] at HC
  clear hts htl hfs ha hsize HW
  go_wp2_with fail
  refine HC.out.mono ?_
  rintro e w6 ⟨hb6, hcase⟩
  have H6 := Lib.hid (show Below w.heap.size w w6 ∧ w6.heap[w.heap.size]? = some (.cells #[t0, t1, t2, t3, t4] 30 (0, 0)) from ⟨H5.out.1.trans (hb6.mono H5.out.1.size), (hb6.block _ (Own.lt.cell_lt' H5.out.2)).trans H5.out.2⟩)
  clear hb6 HC H5 y0 y1 y2 y3 y4
  rcases hcase with ⟨hbig, rfl⟩ | ⟨v0, v1, v2, v3, v4, rfl, hta, hfit⟩
  · clear hbig c1 c2 c3 c4 c5 c6 c7 c8 hs hn hnt
    obtain ⟨r, hr, hsame⟩ := sameTm 1 (.mk 0 ⟨#[]⟩ false [] []) (.mk 0 ⟨#[]⟩ false [] []) (by rw [wtT_eq]; decide) (by decide)
    obtain rfl : r = true := hr.2 rfl
    have hzero : ∀ W : World, TmV W (.agg #[.int .u8 0, .string ⟨#[]⟩, .bool false, .slice none 0 0, .slice none 0 0]) (.mk 0 ⟨#[]⟩ false [] []) := fun W => TmV.of (ds := []) (kids := []) rfl (by decide) (row_no_digs _) (by intro d hd; simp at hd) (by simp) (by simp) (tms_none _ _)
    have HS := Lib.hid (fun W => hsame W _ _ (hzero W) (hzero W))
    clear hsame hr hzero
    go_wp2_with fail
    refine (HS.out _).mono ?_
    rintro e w7 ⟨rfl, hb7⟩
    have HE := Lib.hid (show Below w.heap.size w w7 from (bal H6.out.1 _).trans (hb7.mono (bal H6.out.1 _).size))
    clear hb7 HS H6 HF HT
    go_wp2
    go_returns
    exact ⟨rfl, HE.out⟩
  obtain ⟨i0, hi, hz0, hz1, hz2⟩ := info_parts info_term
  obtain ⟨A6, K6, c6', d6, e6⟩ := hta.five
  simp only [Value.agg.injEq, Array.mk.injEq, List.cons.injEq, and_true] at e6
  obtain ⟨rfl, rfl, rfl, rfl, rfl⟩ := e6
  obtain ⟨W7, hW7⟩ : ∃ W7, W7 = w6.alloc (.cells #[.int .u8 a.kind, .string a.name, .bool a.neg, .slice A6 a.ds.length c6', .slice K6 a.kids.length d6] 30) := ⟨_, rfl⟩
  have hb7 : Below w6.heap.size w6 W7 := by rw [hW7]; exact bal (Below.refl _ _) _
  have H7 := Lib.hid (show Below w.heap.size w W7 ∧ W7.heap[w.heap.size]? = some (.cells #[t0, t1, t2, t3, t4] 30 (0, 0)) ∧ W7.heap[w6.heap.size]? = some (.cells #[.int .u8 a.kind, .string a.name, .bool a.neg, .slice A6 a.ds.length c6', .slice K6 a.kids.length d6] 30 (0, 0)) ∧ TmV W7 (.agg #[.int .u8 a.kind, .string a.name, .bool a.neg, .slice A6 a.ds.length c6', .slice K6 a.kids.length d6]) a ∧ w6.heap.size < W7.heap.size ∧ w.heap.size ≤ w6.heap.size from ⟨H6.out.1.trans (hb7.mono H6.out.1.size), (hb7.block _ (Own.lt.cell_lt' H6.out.2)).trans H6.out.2, by rw [hW7]; exact heap_alloc_new w6 _, hta.bel hb7, by rw [hW7]; simp, H6.out.1.size⟩)
  have HSI := Lib.hid (fun (W : World) (hW : Below w.heap.size w W) (h1 : TmV W (.agg #[t0, t1, t2, t3, t4]) t) (h2 : TmV W (.agg #[.int .u8 a.kind, .string a.name, .bool a.neg, .slice A6 a.ds.length c6', .slice K6 a.kids.length d6]) a) => (show SortsIn W D S vD (.slice AS ls cS) (.agg #[t0, t1, t2, t3, t4]) (.agg #[.int .u8 a.kind, .string a.name, .bool a.neg, .slice A6 a.ds.length c6', .slice K6 a.kids.length d6]) t a kn Kt names ts from by
    obtain ⟨h, hnn, hntt, hls⟩ := HH.out
    obtain ⟨hts, htl, hfs, ha⟩ := HT.out
    refine ⟨h.d.sub (sub_below hW), by rw [hls]; exact h.s.sub (sub_below hW), HF.out.1, by omega, h1, h2, ⟨HF.out.2.1, by have := HF.out.2.2.1; omega⟩, ⟨by rw [ha]; exact okD_subT (fun x u hu => (hts u (hfs x u hu)).1) t HF.out.2.1, by omega⟩, h.nr.sub (sub_below hW), h.tr.below hW, h.nsz, fun u hu => ⟨(hts u hu).1, by have := (hts u hu).2.1; omega⟩, ⟨by omega, by omega⟩, fun s hs hall => ?_⟩
    rw [ha]
    refine sort_subT (fun x u hu => ?_) t s hs
    obtain ⟨j, e1, e2⟩ := subFn_some hu
    exact (hall j x u e1 e2).1))
  have HMI := Lib.hid (fun (W : World) (hW : Below w.heap.size w W) (h1 : TmV W (.agg #[t0, t1, t2, t3, t4]) t) (h2 : TmV W (.agg #[.int .u8 a.kind, .string a.name, .bool a.neg, .slice A6 a.ds.length c6', .slice K6 a.kids.length d6]) a) => (show MetIn W (.agg #[t0, t1, t2, t3, t4]) (.agg #[.int .u8 a.kind, .string a.name, .bool a.neg, .slice A6 a.ds.length c6', .slice K6 a.kids.length d6]) t a kn Kt names ts from by
    obtain ⟨h, hnn, hntt, hls⟩ := HH.out
    obtain ⟨hts, htl, hfs, ha⟩ := HT.out
    have hsz : ∀ x u, (∀ p ∈ preT u, p.name.size ≤ 30000) → Stands x [u] → x.size ≤ maxLen := fun x u hu hx => by
      obtain ⟨p, hp, -, he⟩ := hx
      rw [preL_one] at hp
      have := hu p hp
      rw [he] at this
      unfold maxLen
      omega
    refine ⟨h1, h2, by have := HF.out.2.2.1; omega, by omega, h.nr.sub (sub_below hW), h.tr.below hW, fun u hu => by have := (hts u hu).2.1; omega, ⟨by omega, by omega⟩, fun x hx => Nat.le_trans (h.nsz x hx) (by unfold maxLen; decide), fun x hx => hsz x t HF.out.2.2.2 hx, fun u hu x hx => hsz x u (hts u hu).2.2 hx, fun x hx => ?_⟩
    rw [ha] at hx
    rcases stands_subT t hx with ⟨e1, e2⟩ | ⟨y, u, e1, e2⟩
    · exact .inl ⟨e1, (subFn_none (by omega)).1 e2⟩
    · obtain ⟨j, e3, e4⟩ := subFn_some e1
      exact .inr ⟨j, u, (List.getElem?_eq_some_iff.1 e3).1, e4, e2⟩))
  clear hta hb7 H6 hfit
  go_wp2_with fail
  rw [← hW7]
  clear hW7
  go_loopw [13, 14] (fun u b wr => ∃ i : Nat, i ≤ nn ∧ b = .int .i64 (i : Int) ∧ Hid ((∃ xs, wr.ownsRow W7.heap.size 30 5 u i xs ∧ TmCells xs (names.take i)) ∧ Below W7.heap.size W7 wr)) (fun _ b _ => nn - (intOf b).toNat)
  case atStart => exact ⟨0, Nat.zero_le _, rfl, Lib.hid ⟨⟨[], World.ownsRow_nil _ _ _ _, TmCells.nil⟩, Below.refl _ _⟩⟩
  case round =>
    obtain ⟨i, hin, rfl, HI⟩ := hrel
    rcases Nat.lt_or_ge i nn with hlt | hge
    · have hi1 : (i : Int) < nn := by omega
      have hi0 : 0 ≤ (i : Int) := by omega
      obtain ⟨⟨xs, hown, hcs⟩, hbr⟩ := HI.out
      obtain ⟨h, hnn, hntt, -⟩ := HH.out
      have hbw : Below w.heap.size w wr := H7.out.1.trans (hbr.mono H7.out.1.size)
      obtain ⟨x, hx⟩ : ∃ x, names[i]? = some x := ⟨_, List.getElem?_eq_getElem (by omega)⟩
      obtain ⟨an, rfl, hc⟩ := h.nr i (.string x) (by rw [List.getElem?_map, hx]; rfl)
      have hcx : wr.cell? (an.add i) = some (.string x) := (hbw.cell (cell_lt hc)).trans hc
      have HV := Lib.hid (vv_ok (w := wr) (h.nsz x (List.mem_of_getElem? hx)))
      have HO := Lib.hid (show _ ∧ _ ∧ _ ∧ _ from ⟨hown, hcs, hbr, hx⟩)
      clear h hnn hntt hbw hx hc hown hcs hbr HI
      go_wp2_with fail
      refine HV.out.mono ?_
      rintro e w8 ⟨A8, K8, c8', d8, rfl, -, hb8⟩
      have hown8 : w8.ownsRow W7.heap.size 30 5 _ i xs := own_keep HO.out.1 fun k _ _ hk => hb8.block k hk
      have hs8 : W7.heap.size ≤ w8.heap.size := Nat.le_trans HO.out.2.2.1.size hb8.size
      have HB8 := Lib.hid (show Below W7.heap.size W7 w8 from HO.out.2.2.1.trans (hb8.mono HO.out.2.2.1.size))
      clear hb8 HV hcx
      go_wp2_with (at_builtin; refine wpList_append_own_at _ rfl _ _ 28 rfl W7.heap.size 30 i0 _ 5 80 Tryz.underlying28 hi hz0 hz1 hz2 rfl (by decide) _ _ _ rfl (World.ownsRow.alloc hown8 _) ⟨w8.heap.size, 0, none⟩ 1 1 [.int .u8 1, .string x, .bool false, .slice A8 0 c8', .slice K8 0 d8] rfl rfl ?c1 ?c2 ?c3 ?c4 ?c5 ?_)
      case c1 => exact World.news_of_block (heap_alloc_new w8 _)
      case c2 =>
        intro u hu
        simp at hu
        rcases hu with rfl | rfl | rfl | rfl | rfl <;> rfl
      case c3 => unfold maxLen; omega
      case c4 => omega
      case c5 => rw [World.size_alloc]; omega
      intro v' w9 hown' hgrow' _ hwhere
      have HE := Lib.hid (show (∃ ys, w9.ownsRow W7.heap.size 30 5 v' (i + 1) ys ∧ TmCells ys (names.take (i + 1))) ∧ Below W7.heap.size W7 w9 from ⟨⟨_, hown', by
        rw [List.take_add_one, HO.out.2.2.2]
        exact HO.out.2.1.snoc⟩, (HB8.out.alloc HB8.out.size _).grown hgrow' (by rw [World.size_alloc]; omega) (fun k hk => (World.ownsRow.lt hown8 k hk).1)⟩)
      clear hown' hgrow' hwhere hown8 HB8 HO
      go_wp2
      go_roundw
      case rel => exact ⟨i + 1, by omega, by go_num, HE⟩
      case measure => first | (simp [intOf]; done) | (simp [intOf]; omega)
    · have e0 : i = nn := by omega
      subst e0
      obtain ⟨⟨xs, hown, hcs⟩, hbr⟩ := HI.out
      have hnames : names.take i = names := List.take_of_length_le (by have := HH.out.2.1; omega)
      rw [hnames] at hcs
      obtain ⟨Ko, co, rfl, hto⟩ := own_tms hown hcs HH.out.1.nsz
      obtain ⟨w9, hw9⟩ : ∃ w9, w9 = wr := ⟨_, rfl⟩
      rw [← hw9] at hto hbr ⊢
      have H9 := Lib.hid (show Below w.heap.size w w9 ∧ w9.heap[w.heap.size]? = some (.cells #[t0, t1, t2, t3, t4] 30 (0, 0)) ∧ w9.heap[w6.heap.size]? = some (.cells #[.int .u8 a.kind, .string a.name, .bool a.neg, .slice A6 a.ds.length c6', .slice K6 a.kids.length d6] 30 (0, 0)) ∧ TmV w9 (.agg #[.int .u8 a.kind, .string a.name, .bool a.neg, .slice A6 a.ds.length c6', .slice K6 a.kids.length d6]) a ∧ w6.heap.size < w9.heap.size ∧ w.heap.size ≤ w6.heap.size from ⟨H7.out.1.trans (hbr.mono H7.out.1.size), (hbr.block _ (Own.lt.cell_lt' H7.out.2.1)).trans H7.out.2.1, (hbr.block _ (Own.lt.cell_lt' H7.out.2.2.1)).trans H7.out.2.2.1, H7.out.2.2.2.1.bel hbr, Nat.lt_of_lt_of_le H7.out.2.2.2.2.1 hbr.size, H7.out.2.2.2.2.2⟩)
      have HTO := Lib.hid hto
      clear hown hcs hbr hnames hto hw9 HI H7 hge hin
      have hS2 : (preT (subT (subFn names (names.map varT)) t)).length ≤ 3000 := by
        have h1 := size_subT (f := subFn names (names.map varT)) (M := 1) (by decide) (fun x u h => by
          rw [subFn_own h]
          have := (okD_var x).2
          have e : preT (varT x) = [varT x] := by rw [preT_eq]; show varT x :: preL [] = _; rw [preL_nil]
          rw [e]; exact Nat.le_refl _) t
        have h2 := HF.out.2.2.1
        omega
      obtain ⟨b, hbb⟩ : ∃ b, b = subT (subFn names (names.map varT)) t := ⟨_, rfl⟩
      have hnn2 := HH.out.2.1
      have HC := Lib.hid (subst_any (ct2 := co) (HH.out.1.tv.bel H9.out.1) HTO.out (HH.out.1.nr.sub (sub_below H9.out.1)) HH.out.1.nk HH.out.2.1 HH.out.1.ncap (show names = names.take (min i (names.map varT).length) from by rw [List.length_map, List.take_of_length_le]; omega) (by rw [List.length_map]; omega) (fun x hx => Nat.le_trans (HH.out.1.nsz x hx) (by unfold maxLen; decide)) (by omega) ⟨HF.out.2.1, fun u hu => by
        obtain ⟨x, _, rfl⟩ := List.mem_map.1 hu
        exact (okD_var x).1⟩)
      rw [List.length_map, ← hnn2, ← hbb] at HC
      have HBB := Lib.hid (show _ ∧ _ from ⟨hbb, hS2⟩)
      clear hS2 hbb hnn2
      have y0 : w9.cell? ⟨w.heap.size, 0, none⟩ = some t0 := cell_blk H9.out.2.1
      have y1 : w9.cell? ⟨w.heap.size, 1, none⟩ = some t1 := cell_blk H9.out.2.1
      have y2 : w9.cell? ⟨w.heap.size, 2, none⟩ = some t2 := cell_blk H9.out.2.1
      have y3 : w9.cell? ⟨w.heap.size, 3, none⟩ = some t3 := cell_blk H9.out.2.1
      have y4 : w9.cell? ⟨w.heap.size, 4, none⟩ = some t4 := cell_blk H9.out.2.1
      go_wp2_with fail
      refine HC.out.mono ?_
      rintro e w10 ⟨hb10, hcase⟩
      clear HC y0 y1 y2 y3 y4
      rcases hcase with ⟨hbig, rfl⟩ | ⟨v0, v1, v2, v3, v4, rfl, htb, -⟩
      · exfalso
        have h1 := HBB.out.1
        have h2 := HBB.out.2
        rw [← h1] at h2
        omega
      obtain ⟨A10, K10, c10, d10, e10⟩ := htb.five
      simp only [Value.agg.injEq, Array.mk.injEq, List.cons.injEq, and_true] at e10
      obtain ⟨rfl, rfl, rfl, rfl, rfl⟩ := e10
      obtain ⟨W11, hW11⟩ : ∃ W11, W11 = w10.alloc (.cells #[.int .u8 b.kind, .string b.name, .bool b.neg, .slice A10 b.ds.length c10, .slice K10 b.kids.length d10] 30) := ⟨_, rfl⟩
      have hb11 : Below w10.heap.size w10 W11 := by rw [hW11]; exact bal (Below.refl _ _) _
      have hb911 : Below w9.heap.size w9 W11 := hb10.trans (hb11.mono hb10.size)
      have s11 : W11.heap.size = w10.heap.size + 1 := by rw [hW11]; exact World.size_alloc ..
      have H11 := Lib.hid (show (Below w.heap.size w W11 ∧ w.heap.size < w6.heap.size + 1 ∧ w6.heap.size < W11.heap.size ∧ W11.heap.size = w10.heap.size + 1) ∧ (W11.heap[w.heap.size]? = some (.cells #[t0, t1, t2, t3, t4] 30 (0, 0)) ∧ W11.heap[w6.heap.size]? = some (.cells #[.int .u8 a.kind, .string a.name, .bool a.neg, .slice A6 a.ds.length c6', .slice K6 a.kids.length d6] 30 (0, 0)) ∧ W11.heap[w10.heap.size]? = some (.cells #[.int .u8 b.kind, .string b.name, .bool b.neg, .slice A10 b.ds.length c10, .slice K10 b.kids.length d10] 30 (0, 0))) ∧ TmV W11 (.agg #[.int .u8 a.kind, .string a.name, .bool a.neg, .slice A6 a.ds.length c6', .slice K6 a.kids.length d6]) a ∧ TmV W11 (.agg #[.int .u8 b.kind, .string b.name, .bool b.neg, .slice A10 b.ds.length c10, .slice K10 b.kids.length d10]) b from
        ⟨⟨H9.out.1.trans (hb911.mono H9.out.1.size), by have := H9.out.2.2.2.2.2; omega, Nat.lt_of_lt_of_le H9.out.2.2.2.2.1 hb911.size, s11⟩, ⟨(hb911.block _ (Own.lt.cell_lt' H9.out.2.1)).trans H9.out.2.1, (hb911.block _ (Own.lt.cell_lt' H9.out.2.2.1)).trans H9.out.2.2.1, by rw [hW11]; exact heap_alloc_new w10 _⟩, H9.out.2.2.2.1.bel hb911, htb.bel hb11⟩)
      clear htb hb10 hb11 hb911 s11 H9 HTO
      have hz := (Below.heap_alloc W11 (.map #[] 0) _ (Own.lt.cell_lt' H11.out.2.1.1)).trans H11.out.2.1.1
      rw [hW11] at hz
      have y0 : World.cell? _ ⟨w.heap.size, 0, none⟩ = some t0 := cell_blk hz
      have y1 : World.cell? _ ⟨w.heap.size, 1, none⟩ = some t1 := cell_blk hz
      have y2 : World.cell? _ ⟨w.heap.size, 2, none⟩ = some t2 := cell_blk hz
      have y3 : World.cell? _ ⟨w.heap.size, 3, none⟩ = some t3 := cell_blk hz
      have y4 : World.cell? _ ⟨w.heap.size, 4, none⟩ = some t4 := cell_blk hz
      have hmap : MapAt W11 (w10.heap.size + 1) 0 (fun _ => False) (W11.alloc (.map #[] 0)) := by
        rw [← H11.out.1.2.2.2]
        exact ⟨.map [], World.ownsMap_made _ _ _ _, fun s hs => hs.elim, bal (Below.refl _ _) _, Nat.le_refl _⟩
      have hb12 : Below w.heap.size w (W11.alloc (.map #[] 0)) := bal H11.out.1.1 _
      have HC := Lib.hid (free_any (HH.out.1.tv.bel hb12) (by have := HF.out.2.2.1; omega))
      have HM0 := Lib.hid hmap
      have s11 : True := trivial
      clear hz hmap hb12
      go_wp2_with fail
      rw [← hW11] at y0 y1 y2 y3 y4 ⊢
      clear hW11 s11
      go_wp2_with fail
      clear y0 y1 y2 y3 y4
      refine HC.out.mono ?_
      rintro e w13 ⟨A, c, rfl, hsA, hb13⟩
      obtain ⟨L, hL⟩ : ∃ L, L = (freeK t).length := ⟨_, rfl⟩
      rw [← hL]
      have hL1 : L ≤ 100000 := by have := freeK_len t; have := HF.out.2.2.1; omega
      have HM1 := Lib.hid (show MapAt W11 (w10.heap.size + 1) 0 (fun _ => False) w13 ∧ StrsAt w13 A (freeK t) ∧ L = (freeK t).length from ⟨HM0.out.below hb13, hsA, hL⟩)
      clear hsA hb13 HM0 HC hL
      go_wp2
      go_loopw [19] (fun iv wr => ∃ (j : Nat), j ≤ L ∧ iv = .int .i64 (j : Int) ∧ Hid (MapAt W11 (w10.heap.size + 1) j (fun x => x.data.toList ∈ (freeK t).take j) wr ∧ Bar (w10.heap.size + 1) w13 wr)) (fun iv _ => L - (intOf iv).toNat)
      case atStart => exact ⟨0, Nat.zero_le _, rfl, Lib.hid ⟨HM1.out.1.mono (Nat.le_refl _) (fun s hs => by simp at hs), Bar.refl _ _⟩⟩
      case round =>
        obtain ⟨j, hjL, rfl, HI⟩ := hrel
        rcases Nat.lt_or_ge j L with hlt | hge
        · have hi1 : (j : Int) < L := by omega
          have hi0 : 0 ≤ (j : Int) := by omega
          obtain ⟨hm, hbar⟩ := HI.out
          obtain ⟨hm3, hsA, hL⟩ := HM1.out
          obtain ⟨y, hy⟩ : ∃ y, (freeK t)[j]? = some y := ⟨_, List.getElem?_eq_getElem (by omega)⟩
          obtain ⟨g, rfl, hc⟩ := hsA j y hy
          have hcx : wr.cell? ⟨g, j, none⟩ = some (.string ⟨y.toArray⟩) := hbar.cell hc (hm3.none hc)
          obtain ⟨x, hx⟩ : ∃ x : ByteArray, x = ⟨y.toArray⟩ := ⟨_, rfl⟩
          rw [← hx] at hcx
          have hxs : x.data.toList = y := by rw [hx]
          have hkey : keyOf Tryz.prog 9 (.string x) = some (.string x.data.toList) := key_str (by
            obtain ⟨p, hp, -, he⟩ : Stands x [t] := by rw [hx]; exact freeK_stands (List.mem_of_getElem? hy)
            rw [preL_one] at hp
            have := HF.out.2.2.2 p hp
            rw [he] at this
            unfold maxLen
            omega)
          obtain ⟨D', hown, hg, hb, hmb⟩ := hm
          have HP := Lib.hid (show _ ∧ _ ∧ _ ∧ _ ∧ _ ∧ _ from ⟨hg, hb, hmb, hbar, hy, hxs⟩)
          clear hbar hm3 hsA hL hc hy hx hxs hg hb hmb HI
          obtain ⟨w14, hrun, hown1, hgrow1⟩ := hown.update (val := .bool true) (d := .lit (.bool true)) (ps := []) str_law Tryz.underlying39 (by unfold maxLen; omega) hkey rfl
          have HE := Lib.hid (show MapAt W11 (w10.heap.size + 1) (j + 1) (fun x => x.data.toList ∈ (freeK t).take (j + 1)) w14 ∧ Bar (w10.heap.size + 1) w13 w14 from by
            obtain ⟨hg, hb, hmb, hbar, hy, hxs⟩ := HP.out
            refine ⟨(MapAt.put hown hg hb hmb hown1 hgrow1).mono (Nat.le_refl _) fun s hs => ?_, hbar.trans (Bar.grown hgrow1)⟩
            show s.data.toList ∈ _ ∨ s = x
            rw [List.take_add_one, hy] at hs
            rcases List.mem_append.1 hs with h | h
            · exact .inl h
            · simp at h
              exact .inr (bytes_eq.1 (h.trans hxs.symm)))
          clear hown hown1 hgrow1 HP hkey
          go_wp2
          go_roundw
          case rel => exact ⟨j + 1, by omega, by go_num, HE⟩
          case measure => first | (simp [intOf]; done) | (simp [intOf]; omega)
        · have e0 : j = L := by omega
          subst e0
          have HK := Lib.hid (show MapAt W11 (w10.heap.size + 1) j (fun x => Stands x [t]) wr from HI.out.1.mono (Nat.le_refl _) fun s hs => by
            show s.data.toList ∈ (freeK t).take j
            rw [HM1.out.2.2, List.take_length]
            exact freeK_iff.2 hs)
          obtain ⟨w15, hw15⟩ : ∃ w15, w15 = wr := ⟨_, rfl⟩
          rw [← hw15] at HK ⊢
          clear HI hw15 hge hjL HM1
          go_wp2
          go_loopw [20, 21] (fun u v wr => ∃ (k : Nat) (tb : Bool), k ≤ i ∧ u = .bool tb ∧ v = .int .i64 (k : Int) ∧ wr = w15 ∧ Hid (tb = false → ∀ x ∈ names.take k, ¬ Stands x [t])) (fun _ v _ => i - (intOf v).toNat)
          case atStart => exact ⟨0, false, Nat.zero_le _, rfl, rfl, rfl, Lib.hid fun _ x hx => by simp at hx⟩
          case round =>
            obtain ⟨k, tb, hki, rfl, rfl, rfl, HB⟩ := hrel
            rcases Nat.lt_or_ge k i with hlt | hge
            · have hk1 : (k : Int) < i := by omega
              have hk0 : 0 ≤ (k : Int) := by omega
              obtain ⟨h, hnn, hntt, -⟩ := HH.out
              obtain ⟨D', hown, hg, hb, hmb⟩ := HK.out
              have hbw : Below w.heap.size w wr := H11.out.1.1.trans (hb.mono H11.out.1.1.size)
              obtain ⟨x, hx⟩ : ∃ x, names[k]? = some x := ⟨_, List.getElem?_eq_getElem (by omega)⟩
              obtain ⟨an, rfl, hc⟩ := h.nr k (.string x) (by rw [List.getElem?_map, hx]; rfl)
              have hcx : wr.cell? (an.add k) = some (.string x) := (hbw.cell (cell_lt hc)).trans hc
              obtain ⟨c, hrun, hat⟩ := look_bool hown (key_str (x := x) (Nat.le_trans (h.nsz x (List.mem_of_getElem? hx)) (by unfold maxLen; decide)))
              have HN := Lib.hid (show c = false → ¬ Stands x [t] from fun hcf hst => by
                rw [hg x hst, hcf] at hat
                cases hat)
              have HX := Lib.hid hx
              clear h hnn hntt hown hg hb hmb hbw hx hc hat
              have HE := Lib.hid (show ∀ tb' : Bool, (tb' = false → tb = false ∧ c = false) → tb' = false → ∀ y ∈ names.take (k + 1), ¬ Stands y [t] from fun tb' h1 h2 y hy => by
                rw [List.take_add_one, HX.out] at hy
                rcases List.mem_append.1 hy with hy | hy
                · exact HB.out (h1 h2).1 y hy
                · simp at hy
                  rw [hy]
                  exact HN.out (h1 h2).2)
              clear HB HN HX
              cases tb with
              | true =>
                go_wp2
                go_roundw
                case rel => exact ⟨k + 1, true, by omega, rfl, by go_num, by first | rfl | trivial, Lib.hid (HE.out true (fun h => by cases h))⟩
                case measure => first | (simp [intOf]; done) | (simp [intOf]; omega)
              | false =>
                go_wp2
                go_roundw
                case rel => exact ⟨k + 1, c, by omega, rfl, by go_num, by first | rfl | trivial, Lib.hid (HE.out c (fun h => ⟨rfl, h⟩))⟩
                case measure => first | (simp [intOf]; done) | (simp [intOf]; omega)
            · have e0 : k = i := by omega
              subst e0
              have htch : tb = false → a = t := fun h => by
                rw [HT.out.2.2.2]
                refine untouchedT t fun x hx => (subFn_none (by have := HH.out.2.1; have := HH.out.2.2.1; omega)).2 fun hm => ?_
                refine HB.out h x ?_ hx
                rw [List.take_of_length_le (by have := HH.out.2.1; omega)]
                exact hm
              have hpl : plainT t = true → b = t := fun h => by
                rw [HBB.out.1]
                exact plain_subT (fun x u hu => subFn_own hu) t h
              have HBX := Lib.hid (fun (W : World) (hW : Below W11.heap.size W11 W) => (show W.heap[w.heap.size]? = some (.cells #[t0, t1, t2, t3, t4] 30 (0, 0)) ∧ W.heap[w6.heap.size]? = some (.cells #[.int .u8 a.kind, .string a.name, .bool a.neg, .slice A6 a.ds.length c6', .slice K6 a.kids.length d6] 30 (0, 0)) ∧ W.heap[w10.heap.size]? = some (.cells #[.int .u8 b.kind, .string b.name, .bool b.neg, .slice A10 b.ds.length c10, .slice K10 b.kids.length d10] 30 (0, 0)) from ⟨(hW.block _ (Own.lt.cell_lt' H11.out.2.1.1)).trans H11.out.2.1.1, (hW.block _ (Own.lt.cell_lt' H11.out.2.1.2.1)).trans H11.out.2.1.2.1, (hW.block _ (Own.lt.cell_lt' H11.out.2.1.2.2)).trans H11.out.2.1.2.2⟩))
              have HV := Lib.hid (fun (W : World) (hW : Below W11.heap.size W11 W) => (show TmV W (.agg #[t0, t1, t2, t3, t4]) t ∧ TmV W (.agg #[.int .u8 a.kind, .string a.name, .bool a.neg, .slice A6 a.ds.length c6', .slice K6 a.kids.length d6]) a ∧ TmV W (.agg #[.int .u8 b.kind, .string b.name, .bool b.neg, .slice A10 b.ds.length c10, .slice K10 b.kids.length d10]) b from ⟨HH.out.1.tv.bel (H11.out.1.1.trans (hW.mono H11.out.1.1.size)), H11.out.2.2.1.bel hW, H11.out.2.2.2.bel hW⟩))
              have h15 : Below W11.heap.size W11 wr := by obtain ⟨_, _, _, hb, _⟩ := HK.out; exact hb
              have N15 := Lib.hid (show Below w.heap.size w wr ∧ Below W11.heap.size W11 wr from ⟨H11.out.1.1.trans (h15.mono H11.out.1.1.size), h15⟩)
              have HPL := Lib.hid (plain_ok 3000 t HF.out.2.2.1 (by decide) wr _ (HV.out wr N15.out.2).1)
              obtain ⟨pb, hpb⟩ : ∃ pb, pb = plainT t := ⟨_, rfl⟩
              rw [← hpb] at HPL hpl
              obtain ⟨ra, hra, hsa⟩ := sameTm 100000 t t (by have := HF.out.2.1; exact HWT.out) (by decide)
              obtain rfl : ra = true := hra.2 rfl
              have HSA := Lib.hid hsa
              have HTP := Lib.hid (show _ ∧ _ from ⟨htch, hpl⟩)
              clear htch hpl hpb h15 hsa hra HK HB
              have y0 : wr.cell? ⟨w.heap.size, 0, none⟩ = some t0 := cell_blk (HBX.out wr N15.out.2).1
              have y1 : wr.cell? ⟨w.heap.size, 1, none⟩ = some t1 := cell_blk (HBX.out wr N15.out.2).1
              have y2 : wr.cell? ⟨w.heap.size, 2, none⟩ = some t2 := cell_blk (HBX.out wr N15.out.2).1
              have y3 : wr.cell? ⟨w.heap.size, 3, none⟩ = some t3 := cell_blk (HBX.out wr N15.out.2).1
              have y4 : wr.cell? ⟨w.heap.size, 4, none⟩ = some t4 := cell_blk (HBX.out wr N15.out.2).1
              go_wp2_with fail
              refine HPL.out.mono ?_
              rintro e w16 ⟨rfl, hb16⟩
              have N16 := Lib.hid (show Below w.heap.size w w16 ∧ Below W11.heap.size W11 w16 from ⟨N15.out.1.trans (hb16.mono N15.out.1.size), N15.out.2.trans (hb16.mono N15.out.2.size)⟩)
              clear y0 y1 y2 y3 y4 hb16 HPL N15
              cases pb with
              | true =>
                have y0 : w16.cell? ⟨w.heap.size, 0, none⟩ = some t0 := cell_blk (HBX.out w16 N16.out.2).1
                have y1 : w16.cell? ⟨w.heap.size, 1, none⟩ = some t1 := cell_blk (HBX.out w16 N16.out.2).1
                have y2 : w16.cell? ⟨w.heap.size, 2, none⟩ = some t2 := cell_blk (HBX.out w16 N16.out.2).1
                have y3 : w16.cell? ⟨w.heap.size, 3, none⟩ = some t3 := cell_blk (HBX.out w16 N16.out.2).1
                have y4 : w16.cell? ⟨w.heap.size, 4, none⟩ = some t4 := cell_blk (HBX.out w16 N16.out.2).1
                have z0 : w16.cell? ⟨w10.heap.size, 0, none⟩ = some (.int .u8 b.kind) := cell_blk (HBX.out w16 N16.out.2).2.2
                have z1 : w16.cell? ⟨w10.heap.size, 1, none⟩ = some (.string b.name) := cell_blk (HBX.out w16 N16.out.2).2.2
                have z2 : w16.cell? ⟨w10.heap.size, 2, none⟩ = some (.bool b.neg) := cell_blk (HBX.out w16 N16.out.2).2.2
                have z3 : w16.cell? ⟨w10.heap.size, 3, none⟩ = some (.slice A10 b.ds.length c10) := cell_blk (HBX.out w16 N16.out.2).2.2
                have z4 : w16.cell? ⟨w10.heap.size, 4, none⟩ = some (.slice K10 b.kids.length d10) := cell_blk (HBX.out w16 N16.out.2).2.2
                have hv : TmV w16 (.agg #[.int .u8 b.kind, .string b.name, .bool b.neg, .slice A10 b.ds.length c10, .slice K10 b.kids.length d10]) t := by
                  have h1 := (HV.out w16 N16.out.2).2.2
                  have h2 := HTP.out.2 rfl
                  exact tm_turn h2 h1
                have HS := Lib.hid (HSA.out w16 _ _ hv (HV.out w16 N16.out.2).1)
                clear hv
                go_wp2_with fail
                refine HS.out.mono ?_
                rintro e w17 ⟨rfl, hb17⟩
                have N17 := Lib.hid (show Below w.heap.size w w17 ∧ Below W11.heap.size W11 w17 from ⟨N16.out.1.trans (hb17.mono N16.out.1.size), N16.out.2.trans (hb17.mono N16.out.2.size)⟩)
                clear z0 z1 z2 z3 z4 y0 y1 y2 y3 y4 hb17 HS N16
                cases tb with
                | true =>
                  have y0 : w17.cell? ⟨w.heap.size, 0, none⟩ = some t0 := cell_blk (HBX.out w17 N17.out.2).1
                  have y1 : w17.cell? ⟨w.heap.size, 1, none⟩ = some t1 := cell_blk (HBX.out w17 N17.out.2).1
                  have y2 : w17.cell? ⟨w.heap.size, 2, none⟩ = some t2 := cell_blk (HBX.out w17 N17.out.2).1
                  have y3 : w17.cell? ⟨w.heap.size, 3, none⟩ = some t3 := cell_blk (HBX.out w17 N17.out.2).1
                  have y4 : w17.cell? ⟨w.heap.size, 4, none⟩ = some t4 := cell_blk (HBX.out w17 N17.out.2).1
                  have x0 : w17.cell? ⟨w6.heap.size, 0, none⟩ = some (.int .u8 a.kind) := cell_blk (HBX.out w17 N17.out.2).2.1
                  have x1 : w17.cell? ⟨w6.heap.size, 1, none⟩ = some (.string a.name) := cell_blk (HBX.out w17 N17.out.2).2.1
                  have x2 : w17.cell? ⟨w6.heap.size, 2, none⟩ = some (.bool a.neg) := cell_blk (HBX.out w17 N17.out.2).2.1
                  have x3 : w17.cell? ⟨w6.heap.size, 3, none⟩ = some (.slice A6 a.ds.length c6') := cell_blk (HBX.out w17 N17.out.2).2.1
                  have x4 : w17.cell? ⟨w6.heap.size, 4, none⟩ = some (.slice K6 a.kids.length d6) := cell_blk (HBX.out w17 N17.out.2).2.1
                  have HS := Lib.hid (sorts_ok (cn := cn) (ct := ct) (kn := kn) (Kt := Kt) (names := names) (ts := ts) HH.out.2.1 HH.out.2.2.1 (HSI.out w17 N17.out.1 (HV.out w17 N17.out.2).1 (HV.out w17 N17.out.2).2.1))
                  go_wp2_with fail
                  refine HS.out.mono ?_
                  rintro e w18 ⟨rfl, hb18⟩
                  have N18 := Lib.hid (show Below w.heap.size w w18 ∧ Below W11.heap.size W11 w18 from ⟨N17.out.1.trans (hb18.mono N17.out.1.size), N17.out.2.trans (hb18.mono N17.out.2.size)⟩)
                  clear x0 x1 x2 x3 x4 y0 y1 y2 y3 y4 hb18 HS N17
                  have y0 : w18.cell? ⟨w.heap.size, 0, none⟩ = some t0 := cell_blk (HBX.out w18 N18.out.2).1
                  have y1 : w18.cell? ⟨w.heap.size, 1, none⟩ = some t1 := cell_blk (HBX.out w18 N18.out.2).1
                  have y2 : w18.cell? ⟨w.heap.size, 2, none⟩ = some t2 := cell_blk (HBX.out w18 N18.out.2).1
                  have y3 : w18.cell? ⟨w.heap.size, 3, none⟩ = some t3 := cell_blk (HBX.out w18 N18.out.2).1
                  have y4 : w18.cell? ⟨w.heap.size, 4, none⟩ = some t4 := cell_blk (HBX.out w18 N18.out.2).1
                  have x0 : w18.cell? ⟨w6.heap.size, 0, none⟩ = some (.int .u8 a.kind) := cell_blk (HBX.out w18 N18.out.2).2.1
                  have x1 : w18.cell? ⟨w6.heap.size, 1, none⟩ = some (.string a.name) := cell_blk (HBX.out w18 N18.out.2).2.1
                  have x2 : w18.cell? ⟨w6.heap.size, 2, none⟩ = some (.bool a.neg) := cell_blk (HBX.out w18 N18.out.2).2.1
                  have x3 : w18.cell? ⟨w6.heap.size, 3, none⟩ = some (.slice A6 a.ds.length c6') := cell_blk (HBX.out w18 N18.out.2).2.1
                  have x4 : w18.cell? ⟨w6.heap.size, 4, none⟩ = some (.slice K6 a.kids.length d6) := cell_blk (HBX.out w18 N18.out.2).2.1
                  have HS := Lib.hid (met_ok (cn := cn) (ct := ct) (kn := kn) (Kt := Kt) (names := names) (ts := ts) HH.out.2.1 HH.out.2.2.1 (HMI.out w18 N18.out.1 (HV.out w18 N18.out.2).1 (HV.out w18 N18.out.2).2.1))
                  go_wp2_with fail
                  refine HS.out.mono ?_
                  rintro e w19 ⟨rfl, hb19⟩
                  have HE := Lib.hid (show Below w.heap.size w w19 from N18.out.1.trans (hb19.mono N18.out.1.size))
                  clear x0 x1 x2 x3 x4 y0 y1 y2 y3 y4 hb19 HS N18
                  go_wp2
                  go_returns
                  exact ⟨rfl, HE.out⟩
                | false =>
                  have y0 : w17.cell? ⟨w.heap.size, 0, none⟩ = some t0 := cell_blk (HBX.out w17 N17.out.2).1
                  have y1 : w17.cell? ⟨w.heap.size, 1, none⟩ = some t1 := cell_blk (HBX.out w17 N17.out.2).1
                  have y2 : w17.cell? ⟨w.heap.size, 2, none⟩ = some t2 := cell_blk (HBX.out w17 N17.out.2).1
                  have y3 : w17.cell? ⟨w.heap.size, 3, none⟩ = some t3 := cell_blk (HBX.out w17 N17.out.2).1
                  have y4 : w17.cell? ⟨w.heap.size, 4, none⟩ = some t4 := cell_blk (HBX.out w17 N17.out.2).1
                  have x0 : w17.cell? ⟨w6.heap.size, 0, none⟩ = some (.int .u8 a.kind) := cell_blk (HBX.out w17 N17.out.2).2.1
                  have x1 : w17.cell? ⟨w6.heap.size, 1, none⟩ = some (.string a.name) := cell_blk (HBX.out w17 N17.out.2).2.1
                  have x2 : w17.cell? ⟨w6.heap.size, 2, none⟩ = some (.bool a.neg) := cell_blk (HBX.out w17 N17.out.2).2.1
                  have x3 : w17.cell? ⟨w6.heap.size, 3, none⟩ = some (.slice A6 a.ds.length c6') := cell_blk (HBX.out w17 N17.out.2).2.1
                  have x4 : w17.cell? ⟨w6.heap.size, 4, none⟩ = some (.slice K6 a.kids.length d6) := cell_blk (HBX.out w17 N17.out.2).2.1
                  have hv : TmV w17 (.agg #[.int .u8 a.kind, .string a.name, .bool a.neg, .slice A6 a.ds.length c6', .slice K6 a.kids.length d6]) t := by
                    have h1 := (HV.out w17 N17.out.2).2.1
                    have h2 := HTP.out.1 rfl
                    exact tm_turn h2 h1
                  have HS := Lib.hid (HSA.out w17 _ _ hv (HV.out w17 N17.out.2).1)
                  clear hv
                  go_wp2_with fail
                  refine HS.out.mono ?_
                  rintro e w20 ⟨rfl, hb20⟩
                  have N20 := Lib.hid (show Below w.heap.size w w20 ∧ Below W11.heap.size W11 w20 from ⟨N17.out.1.trans (hb20.mono N17.out.1.size), N17.out.2.trans (hb20.mono N17.out.2.size)⟩)
                  clear x0 x1 x2 x3 x4 y0 y1 y2 y3 y4 hb20 HS N17
                  have y0 : w20.cell? ⟨w.heap.size, 0, none⟩ = some t0 := cell_blk (HBX.out w20 N20.out.2).1
                  have y1 : w20.cell? ⟨w.heap.size, 1, none⟩ = some t1 := cell_blk (HBX.out w20 N20.out.2).1
                  have y2 : w20.cell? ⟨w.heap.size, 2, none⟩ = some t2 := cell_blk (HBX.out w20 N20.out.2).1
                  have y3 : w20.cell? ⟨w.heap.size, 3, none⟩ = some t3 := cell_blk (HBX.out w20 N20.out.2).1
                  have y4 : w20.cell? ⟨w.heap.size, 4, none⟩ = some t4 := cell_blk (HBX.out w20 N20.out.2).1
                  have x0 : w20.cell? ⟨w6.heap.size, 0, none⟩ = some (.int .u8 a.kind) := cell_blk (HBX.out w20 N20.out.2).2.1
                  have x1 : w20.cell? ⟨w6.heap.size, 1, none⟩ = some (.string a.name) := cell_blk (HBX.out w20 N20.out.2).2.1
                  have x2 : w20.cell? ⟨w6.heap.size, 2, none⟩ = some (.bool a.neg) := cell_blk (HBX.out w20 N20.out.2).2.1
                  have x3 : w20.cell? ⟨w6.heap.size, 3, none⟩ = some (.slice A6 a.ds.length c6') := cell_blk (HBX.out w20 N20.out.2).2.1
                  have x4 : w20.cell? ⟨w6.heap.size, 4, none⟩ = some (.slice K6 a.kids.length d6) := cell_blk (HBX.out w20 N20.out.2).2.1
                  have HS := Lib.hid (sorts_ok (cn := cn) (ct := ct) (kn := kn) (Kt := Kt) (names := names) (ts := ts) HH.out.2.1 HH.out.2.2.1 (HSI.out w20 N20.out.1 (HV.out w20 N20.out.2).1 (HV.out w20 N20.out.2).2.1))
                  go_wp2_with fail
                  refine HS.out.mono ?_
                  rintro e w18 ⟨rfl, hb18⟩
                  have N18 := Lib.hid (show Below w.heap.size w w18 ∧ Below W11.heap.size W11 w18 from ⟨N20.out.1.trans (hb18.mono N20.out.1.size), N20.out.2.trans (hb18.mono N20.out.2.size)⟩)
                  clear x0 x1 x2 x3 x4 y0 y1 y2 y3 y4 hb18 HS N20
                  have y0 : w18.cell? ⟨w.heap.size, 0, none⟩ = some t0 := cell_blk (HBX.out w18 N18.out.2).1
                  have y1 : w18.cell? ⟨w.heap.size, 1, none⟩ = some t1 := cell_blk (HBX.out w18 N18.out.2).1
                  have y2 : w18.cell? ⟨w.heap.size, 2, none⟩ = some t2 := cell_blk (HBX.out w18 N18.out.2).1
                  have y3 : w18.cell? ⟨w.heap.size, 3, none⟩ = some t3 := cell_blk (HBX.out w18 N18.out.2).1
                  have y4 : w18.cell? ⟨w.heap.size, 4, none⟩ = some t4 := cell_blk (HBX.out w18 N18.out.2).1
                  have x0 : w18.cell? ⟨w6.heap.size, 0, none⟩ = some (.int .u8 a.kind) := cell_blk (HBX.out w18 N18.out.2).2.1
                  have x1 : w18.cell? ⟨w6.heap.size, 1, none⟩ = some (.string a.name) := cell_blk (HBX.out w18 N18.out.2).2.1
                  have x2 : w18.cell? ⟨w6.heap.size, 2, none⟩ = some (.bool a.neg) := cell_blk (HBX.out w18 N18.out.2).2.1
                  have x3 : w18.cell? ⟨w6.heap.size, 3, none⟩ = some (.slice A6 a.ds.length c6') := cell_blk (HBX.out w18 N18.out.2).2.1
                  have x4 : w18.cell? ⟨w6.heap.size, 4, none⟩ = some (.slice K6 a.kids.length d6) := cell_blk (HBX.out w18 N18.out.2).2.1
                  have HS := Lib.hid (met_ok (cn := cn) (ct := ct) (kn := kn) (Kt := Kt) (names := names) (ts := ts) HH.out.2.1 HH.out.2.2.1 (HMI.out w18 N18.out.1 (HV.out w18 N18.out.2).1 (HV.out w18 N18.out.2).2.1))
                  go_wp2_with fail
                  refine HS.out.mono ?_
                  rintro e w19 ⟨rfl, hb19⟩
                  have HE := Lib.hid (show Below w.heap.size w w19 from N18.out.1.trans (hb19.mono N18.out.1.size))
                  clear x0 x1 x2 x3 x4 y0 y1 y2 y3 y4 hb19 HS N18
                  go_wp2
                  go_returns
                  exact ⟨rfl, HE.out⟩
              | false =>
                cases tb with
                | true =>
                  have y0 : w16.cell? ⟨w.heap.size, 0, none⟩ = some t0 := cell_blk (HBX.out w16 N16.out.2).1
                  have y1 : w16.cell? ⟨w.heap.size, 1, none⟩ = some t1 := cell_blk (HBX.out w16 N16.out.2).1
                  have y2 : w16.cell? ⟨w.heap.size, 2, none⟩ = some t2 := cell_blk (HBX.out w16 N16.out.2).1
                  have y3 : w16.cell? ⟨w.heap.size, 3, none⟩ = some t3 := cell_blk (HBX.out w16 N16.out.2).1
                  have y4 : w16.cell? ⟨w.heap.size, 4, none⟩ = some t4 := cell_blk (HBX.out w16 N16.out.2).1
                  have x0 : w16.cell? ⟨w6.heap.size, 0, none⟩ = some (.int .u8 a.kind) := cell_blk (HBX.out w16 N16.out.2).2.1
                  have x1 : w16.cell? ⟨w6.heap.size, 1, none⟩ = some (.string a.name) := cell_blk (HBX.out w16 N16.out.2).2.1
                  have x2 : w16.cell? ⟨w6.heap.size, 2, none⟩ = some (.bool a.neg) := cell_blk (HBX.out w16 N16.out.2).2.1
                  have x3 : w16.cell? ⟨w6.heap.size, 3, none⟩ = some (.slice A6 a.ds.length c6') := cell_blk (HBX.out w16 N16.out.2).2.1
                  have x4 : w16.cell? ⟨w6.heap.size, 4, none⟩ = some (.slice K6 a.kids.length d6) := cell_blk (HBX.out w16 N16.out.2).2.1
                  have HS := Lib.hid (sorts_ok (cn := cn) (ct := ct) (kn := kn) (Kt := Kt) (names := names) (ts := ts) HH.out.2.1 HH.out.2.2.1 (HSI.out w16 N16.out.1 (HV.out w16 N16.out.2).1 (HV.out w16 N16.out.2).2.1))
                  go_wp2_with fail
                  refine HS.out.mono ?_
                  rintro e w18 ⟨rfl, hb18⟩
                  have N18 := Lib.hid (show Below w.heap.size w w18 ∧ Below W11.heap.size W11 w18 from ⟨N16.out.1.trans (hb18.mono N16.out.1.size), N16.out.2.trans (hb18.mono N16.out.2.size)⟩)
                  clear x0 x1 x2 x3 x4 y0 y1 y2 y3 y4 hb18 HS N16
                  have y0 : w18.cell? ⟨w.heap.size, 0, none⟩ = some t0 := cell_blk (HBX.out w18 N18.out.2).1
                  have y1 : w18.cell? ⟨w.heap.size, 1, none⟩ = some t1 := cell_blk (HBX.out w18 N18.out.2).1
                  have y2 : w18.cell? ⟨w.heap.size, 2, none⟩ = some t2 := cell_blk (HBX.out w18 N18.out.2).1
                  have y3 : w18.cell? ⟨w.heap.size, 3, none⟩ = some t3 := cell_blk (HBX.out w18 N18.out.2).1
                  have y4 : w18.cell? ⟨w.heap.size, 4, none⟩ = some t4 := cell_blk (HBX.out w18 N18.out.2).1
                  have x0 : w18.cell? ⟨w6.heap.size, 0, none⟩ = some (.int .u8 a.kind) := cell_blk (HBX.out w18 N18.out.2).2.1
                  have x1 : w18.cell? ⟨w6.heap.size, 1, none⟩ = some (.string a.name) := cell_blk (HBX.out w18 N18.out.2).2.1
                  have x2 : w18.cell? ⟨w6.heap.size, 2, none⟩ = some (.bool a.neg) := cell_blk (HBX.out w18 N18.out.2).2.1
                  have x3 : w18.cell? ⟨w6.heap.size, 3, none⟩ = some (.slice A6 a.ds.length c6') := cell_blk (HBX.out w18 N18.out.2).2.1
                  have x4 : w18.cell? ⟨w6.heap.size, 4, none⟩ = some (.slice K6 a.kids.length d6) := cell_blk (HBX.out w18 N18.out.2).2.1
                  have HS := Lib.hid (met_ok (cn := cn) (ct := ct) (kn := kn) (Kt := Kt) (names := names) (ts := ts) HH.out.2.1 HH.out.2.2.1 (HMI.out w18 N18.out.1 (HV.out w18 N18.out.2).1 (HV.out w18 N18.out.2).2.1))
                  go_wp2_with fail
                  refine HS.out.mono ?_
                  rintro e w19 ⟨rfl, hb19⟩
                  have HE := Lib.hid (show Below w.heap.size w w19 from N18.out.1.trans (hb19.mono N18.out.1.size))
                  clear x0 x1 x2 x3 x4 y0 y1 y2 y3 y4 hb19 HS N18
                  go_wp2
                  go_returns
                  exact ⟨rfl, HE.out⟩
                | false =>
                  have y0 : w16.cell? ⟨w.heap.size, 0, none⟩ = some t0 := cell_blk (HBX.out w16 N16.out.2).1
                  have y1 : w16.cell? ⟨w.heap.size, 1, none⟩ = some t1 := cell_blk (HBX.out w16 N16.out.2).1
                  have y2 : w16.cell? ⟨w.heap.size, 2, none⟩ = some t2 := cell_blk (HBX.out w16 N16.out.2).1
                  have y3 : w16.cell? ⟨w.heap.size, 3, none⟩ = some t3 := cell_blk (HBX.out w16 N16.out.2).1
                  have y4 : w16.cell? ⟨w.heap.size, 4, none⟩ = some t4 := cell_blk (HBX.out w16 N16.out.2).1
                  have x0 : w16.cell? ⟨w6.heap.size, 0, none⟩ = some (.int .u8 a.kind) := cell_blk (HBX.out w16 N16.out.2).2.1
                  have x1 : w16.cell? ⟨w6.heap.size, 1, none⟩ = some (.string a.name) := cell_blk (HBX.out w16 N16.out.2).2.1
                  have x2 : w16.cell? ⟨w6.heap.size, 2, none⟩ = some (.bool a.neg) := cell_blk (HBX.out w16 N16.out.2).2.1
                  have x3 : w16.cell? ⟨w6.heap.size, 3, none⟩ = some (.slice A6 a.ds.length c6') := cell_blk (HBX.out w16 N16.out.2).2.1
                  have x4 : w16.cell? ⟨w6.heap.size, 4, none⟩ = some (.slice K6 a.kids.length d6) := cell_blk (HBX.out w16 N16.out.2).2.1
                  have hv : TmV w16 (.agg #[.int .u8 a.kind, .string a.name, .bool a.neg, .slice A6 a.ds.length c6', .slice K6 a.kids.length d6]) t := by
                    have h1 := (HV.out w16 N16.out.2).2.1
                    have h2 := HTP.out.1 rfl
                    exact tm_turn h2 h1
                  have HS := Lib.hid (HSA.out w16 _ _ hv (HV.out w16 N16.out.2).1)
                  clear hv
                  go_wp2_with fail
                  refine HS.out.mono ?_
                  rintro e w20 ⟨rfl, hb20⟩
                  have N20 := Lib.hid (show Below w.heap.size w w20 ∧ Below W11.heap.size W11 w20 from ⟨N16.out.1.trans (hb20.mono N16.out.1.size), N16.out.2.trans (hb20.mono N16.out.2.size)⟩)
                  clear x0 x1 x2 x3 x4 y0 y1 y2 y3 y4 hb20 HS N16
                  have y0 : w20.cell? ⟨w.heap.size, 0, none⟩ = some t0 := cell_blk (HBX.out w20 N20.out.2).1
                  have y1 : w20.cell? ⟨w.heap.size, 1, none⟩ = some t1 := cell_blk (HBX.out w20 N20.out.2).1
                  have y2 : w20.cell? ⟨w.heap.size, 2, none⟩ = some t2 := cell_blk (HBX.out w20 N20.out.2).1
                  have y3 : w20.cell? ⟨w.heap.size, 3, none⟩ = some t3 := cell_blk (HBX.out w20 N20.out.2).1
                  have y4 : w20.cell? ⟨w.heap.size, 4, none⟩ = some t4 := cell_blk (HBX.out w20 N20.out.2).1
                  have x0 : w20.cell? ⟨w6.heap.size, 0, none⟩ = some (.int .u8 a.kind) := cell_blk (HBX.out w20 N20.out.2).2.1
                  have x1 : w20.cell? ⟨w6.heap.size, 1, none⟩ = some (.string a.name) := cell_blk (HBX.out w20 N20.out.2).2.1
                  have x2 : w20.cell? ⟨w6.heap.size, 2, none⟩ = some (.bool a.neg) := cell_blk (HBX.out w20 N20.out.2).2.1
                  have x3 : w20.cell? ⟨w6.heap.size, 3, none⟩ = some (.slice A6 a.ds.length c6') := cell_blk (HBX.out w20 N20.out.2).2.1
                  have x4 : w20.cell? ⟨w6.heap.size, 4, none⟩ = some (.slice K6 a.kids.length d6) := cell_blk (HBX.out w20 N20.out.2).2.1
                  have HS := Lib.hid (sorts_ok (cn := cn) (ct := ct) (kn := kn) (Kt := Kt) (names := names) (ts := ts) HH.out.2.1 HH.out.2.2.1 (HSI.out w20 N20.out.1 (HV.out w20 N20.out.2).1 (HV.out w20 N20.out.2).2.1))
                  go_wp2_with fail
                  refine HS.out.mono ?_
                  rintro e w18 ⟨rfl, hb18⟩
                  have N18 := Lib.hid (show Below w.heap.size w w18 ∧ Below W11.heap.size W11 w18 from ⟨N20.out.1.trans (hb18.mono N20.out.1.size), N20.out.2.trans (hb18.mono N20.out.2.size)⟩)
                  clear x0 x1 x2 x3 x4 y0 y1 y2 y3 y4 hb18 HS N20
                  have y0 : w18.cell? ⟨w.heap.size, 0, none⟩ = some t0 := cell_blk (HBX.out w18 N18.out.2).1
                  have y1 : w18.cell? ⟨w.heap.size, 1, none⟩ = some t1 := cell_blk (HBX.out w18 N18.out.2).1
                  have y2 : w18.cell? ⟨w.heap.size, 2, none⟩ = some t2 := cell_blk (HBX.out w18 N18.out.2).1
                  have y3 : w18.cell? ⟨w.heap.size, 3, none⟩ = some t3 := cell_blk (HBX.out w18 N18.out.2).1
                  have y4 : w18.cell? ⟨w.heap.size, 4, none⟩ = some t4 := cell_blk (HBX.out w18 N18.out.2).1
                  have x0 : w18.cell? ⟨w6.heap.size, 0, none⟩ = some (.int .u8 a.kind) := cell_blk (HBX.out w18 N18.out.2).2.1
                  have x1 : w18.cell? ⟨w6.heap.size, 1, none⟩ = some (.string a.name) := cell_blk (HBX.out w18 N18.out.2).2.1
                  have x2 : w18.cell? ⟨w6.heap.size, 2, none⟩ = some (.bool a.neg) := cell_blk (HBX.out w18 N18.out.2).2.1
                  have x3 : w18.cell? ⟨w6.heap.size, 3, none⟩ = some (.slice A6 a.ds.length c6') := cell_blk (HBX.out w18 N18.out.2).2.1
                  have x4 : w18.cell? ⟨w6.heap.size, 4, none⟩ = some (.slice K6 a.kids.length d6) := cell_blk (HBX.out w18 N18.out.2).2.1
                  have HS := Lib.hid (met_ok (cn := cn) (ct := ct) (kn := kn) (Kt := Kt) (names := names) (ts := ts) HH.out.2.1 HH.out.2.2.1 (HMI.out w18 N18.out.1 (HV.out w18 N18.out.2).1 (HV.out w18 N18.out.2).2.1))
                  go_wp2_with fail
                  refine HS.out.mono ?_
                  rintro e w19 ⟨rfl, hb19⟩
                  have HE := Lib.hid (show Below w.heap.size w w19 from N18.out.1.trans (hb19.mono N18.out.1.size))
                  clear x0 x1 x2 x3 x4 y0 y1 y2 y3 y4 hb19 HS N18
                  go_wp2
                  go_returns
                  exact ⟨rfl, HE.out⟩
end Go.Proofs.YtponkpiahgoohaaGreatDoor

/- Package term's reader: read: what a part's Key has ahead of those of its kids is read into the part. -/
import Derived.Test.YtlikpnaffpngiaaGreatDoorTDigs
import Derived.OwnWalk
set_option linter.unusedVariables false
set_option linter.unusedSimpArgs false
namespace Go.Proofs.YtlikpnaffpngiaaGreatDoor
open Go.RowKit Go.Lib

theorem blk_set {w : World} {b j : Nat} {cs : Array Value} {v : Value} {T : TypeId} {fz : Nat × Nat} (h : w.heap[b]? = some (.cells cs T fz)) : (w.setCell ⟨b, j, none⟩ v).heap[b]? = some (.cells (cs.setIfInBounds j v) T fz) := by
  simp [World.setCell, Array.getElem?_modify, h]
/-- Five cells written, from place o on. -/
def put5 (cs : Array Value) (o : Nat) (u0 u1 u2 u3 u4 : Value) : Array Value := ((((cs.setIfInBounds o u0).setIfInBounds (o + 1) u1).setIfInBounds (o + 2) u2).setIfInBounds (o + 3) u3).setIfInBounds (o + 4) u4
theorem put5_size (cs : Array Value) (o : Nat) (u0 u1 u2 u3 u4 : Value) : (put5 cs o u0 u1 u2 u3 u4).size = cs.size := by simp [put5]
theorem put5_at (cs : Array Value) (o : Nat) (u0 u1 u2 u3 u4 : Value) (h : o + 5 ≤ cs.size) : (put5 cs o u0 u1 u2 u3 u4)[o]? = some u0 ∧ (put5 cs o u0 u1 u2 u3 u4)[o + 1]? = some u1 ∧ (put5 cs o u0 u1 u2 u3 u4)[o + 2]? = some u2 ∧ (put5 cs o u0 u1 u2 u3 u4)[o + 3]? = some u3 ∧ (put5 cs o u0 u1 u2 u3 u4)[o + 4]? = some u4 := by
  unfold put5
  simp only [Array.getElem?_setIfInBounds, Array.size_setIfInBounds]
  refine ⟨?_, ?_, ?_, ?_, ?_⟩ <;> simp <;> omega
theorem put5_off (cs : Array Value) (o : Nat) (u0 u1 u2 u3 u4 : Value) {j : Nat} (h : j < o ∨ o + 5 ≤ j) : (put5 cs o u0 u1 u2 u3 u4)[j]? = cs[j]? := by
  unfold put5
  simp only [Array.getElem?_setIfInBounds]
  rw [if_neg (by omega), if_neg (by omega), if_neg (by omega), if_neg (by omega), if_neg (by omega)]
/-- Of the old blocks only g and p have changed. -/
structure Only2 (g p : Nat) (W W' : World) : Prop where
  os : W'.os = W.os
  tape : W'.tape = W.tape
  output : W'.output = W.output
  size : W.heap.size ≤ W'.heap.size
  block : ∀ k, k < W.heap.size → k ≠ g → k ≠ p → W'.heap[k]? = W.heap[k]?
theorem Only2.refl (g p : Nat) (W : World) : Only2 g p W W := ⟨rfl, rfl, rfl, Nat.le_refl _, fun _ _ _ _ => rfl⟩
theorem Only2.one {g p : Nat} {a b c : World} (h : Only2 g p a b) (k : Only g b c) : Only2 g p a c := ⟨k.os.trans h.os, k.tape.trans h.tape, k.output.trans h.output, Nat.le_trans h.size k.size, fun i hi hg hp => (k.block i (Nat.lt_of_lt_of_le hi h.size) hg).trans (h.block i hi hg hp)⟩
theorem Only2.setP {g p : Nat} {a b : World} (h : Only2 g p a b) (j : Nat) (v : Value) : Only2 g p a (b.setCell ⟨p, j, none⟩ v) := ⟨h.os, h.tape, h.output, by simpa using h.size, fun k hk hg hp => (Below.heap_setCell _ _ _ _ hp).trans (h.block k hk hg hp)⟩
theorem Only2.setG {g p : Nat} {a b : World} (h : Only2 g p a b) (j : Nat) (v : Value) : Only2 g p a (b.setCell ⟨g, j, none⟩ v) := ⟨h.os, h.tape, h.output, by simpa using h.size, fun k hk hg hp => (Below.heap_setCell _ _ _ _ hg).trans (h.block k hk hg hp)⟩
theorem Only2.below {g p M : Nat} {a b : World} (h : Only2 g p a b) (hg : M ≤ g) (hp : M ≤ p) (hs : M ≤ a.heap.size) : Below M a b := ⟨h.os, h.tape, h.output, h.size, fun k hk => h.block k (by omega) (by omega) (by omega)⟩
theorem RdC.ne {W W' : World} {g : Nat} {l : List UInt8} {due : Int} (h : RdC W g l due) (e : W'.heap[g]? = W.heap[g]?) : RdC W' g l due := e.trans h
/-- The state of a reading: what is left, the part's block. -/
structure RS (W : World) (g p : Nat) (w : World) (l : List UInt8) (due : Int) (cs : Array Value) : Prop where
  left : RdC w g l due
  blk : w.heap[p]? = some (.cells cs 28 (0, 0))
  only : Only2 g p W w
theorem RS.cell {W w : World} {g p : Nat} {l : List UInt8} {due : Int} {cs : Array Value} (h : RS W g p w l due cs) {j : Nat} (hj : j < cs.size) : ∃ v, w.cell? ⟨p, j, none⟩ = some v := ⟨cs[j], by rw [cell_of_row w p j _ _ _ h.blk]; exact Array.getElem?_eq_getElem hj⟩
theorem RS.fz {W w : World} {g p : Nat} {l : List UInt8} {due : Int} {cs : Array Value} (h : RS W g p w l due cs) (j : Nat) : w.frozen? ⟨p, j, none⟩ = false := by
  have := h.blk
  simp [World.frozen?, this]
theorem RS.call {W w w' : World} {g p : Nat} {l l' : List UInt8} {due : Int} {cs : Array Value} (h : RS W g p w l due cs) (hp : p ≠ g) (r : RdC w' g l' due) (o : Only g w w') : RS W g p w' l' due cs := ⟨r, (o.block p (Own.lt.cell_lt' h.blk) hp).trans h.blk, h.only.one o⟩
theorem RS.put {W w : World} {g p : Nat} {l : List UInt8} {due : Int} {cs : Array Value} (h : RS W g p w l due cs) (hp : p ≠ g) (j : Nat) (v : Value) : RS W g p (w.setCell ⟨p, j, none⟩ v) l due (cs.setIfInBounds j v) := ⟨h.left.ne (Below.heap_setCell _ _ _ _ (Ne.symm hp)), blk_set h.blk, h.only.setP j v⟩
theorem RS.lib {W w : World} {g p M : Nat} {l : List UInt8} {due : Int} {cs : Array Value} (h : RS W g p w l due cs) (hM : LibM M W) (hg : M ≤ g) (hp : M ≤ p) (hs : M ≤ W.heap.size) : LibM M w := hM.on (h.only.below hg hp hs) (Nat.le_refl _)
/-- A row of n terms that are to come. -/
def ZeroKids (zs : Array Value) (n : Nat) : Prop := n * 5 ≤ zs.size ∧ ∀ i, i < n → zs[i * 5 + 4]? = some (.slice none 0 0)
theorem info_term : (Tryz.prog.info? 28).map (fun i => (i.zero, i.size, i.bytes)) = some (some (.agg #[.int .u8 0, .string ⟨#[]⟩, .bool false, .slice none 0 0, .slice none 0 0]), 5, 80) := by kernel_rfl
theorem zero_kids {w : World} {B g n cap : Nat} (h : w.ownsRow B 28 5 (.slice (some ⟨g, 0, none⟩) n cap) n (madeCells #[.int .u8 0, .string ⟨#[]⟩, .bool false, .slice none 0 0, .slice none 0 0] (n * 5)).toList) (hn : 0 < n) : ∃ zs, w.heap[g]? = some (.cells zs 28 (0, 0)) ∧ ZeroKids zs n := by
  rcases h.2 with ⟨_, h0⟩ | ⟨g', cap', cur, e, _, hg, _, _, hsz, htk⟩
  · omega
  · simp only [Value.slice.injEq, Option.some.injEq, Addr.mk.injEq, and_true, true_and] at e
    obtain ⟨rfl, rfl⟩ := e
    refine ⟨cur, hg, ?_, fun i hi => ?_⟩
    · have := congrArg List.length htk
      rw [List.length_take, Array.length_toList, Array.length_toList, size_madeCells] at this
      omega
    · have h1 : (cur.toList.take (n * 5))[i * 5 + 4]? = cur[i * 5 + 4]? := by
        rw [List.getElem?_take, if_pos (by omega), Array.getElem?_toList]
      rw [← h1, htk, Array.getElem?_toList]
      unfold madeCells
      rw [Array.getElem?_map, Array.getElem?_eq_getElem (by simp; omega)]
      simp only [Array.getElem_range, Option.map_some]
      have e5 : (#[Value.int .u8 0, .string ⟨#[]⟩, .bool false, .slice none 0 0, .slice none 0 0] : Array Value).size = 5 := rfl
      rw [e5, show (i * 5 + 4) % 5 = 4 by omega]
      rfl
theorem set_same {cs : Array Value} {j : Nat} {u : Value} (h : cs[j]? = some u) : cs.setIfInBounds j u = cs := by
  apply Array.ext'
  rw [Array.toList_setIfInBounds]
  apply List.ext_getElem?
  intro i
  rw [List.getElem?_set]
  split
  · next e =>
    subst e
    split
    · rw [Array.getElem?_toList, h]
    · next h2 =>
      have := (Array.getElem?_eq_some_iff.1 h).1
      exact absurd (by simpa using this) h2
  · rfl
theorem RS.drew {W w : World} {g p : Nat} {l : List UInt8} {due : Int} {cs : Array Value} (h : RS W g p w l due cs) (n : Nat) : RS W g p (w.drewN n) l due cs := ⟨h.left, h.blk, h.only.one (Only.drewN _ _)⟩
theorem RS.grown {W w w' : World} {g p : Nat} {l : List UInt8} {due : Int} {cs : Array Value} (h : RS W g p w l due cs) (hg : w.grownBy w' none) : RS W g p w' l due cs := ⟨h.left.ne (hg.block g (cell_lt h.left.c0) (fun e => by cases e)), (hg.block p (Own.lt.cell_lt' h.blk) (fun e => by cases e)).trans h.blk, h.only.one ⟨hg.os, hg.tape, hg.output, hg.size, fun k hk _ => hg.block k hk (fun e => by cases e)⟩⟩
/-- What read leaves behind. -/
def ReadPost (W : World) (g p o : Nat) (cs : Array Value) (t : Tm) (rest : List UInt8) (due : Int) (w' : World) : Prop := ∃ A c K c', RS W g p w' rest (due + t.kids.length - 1) (put5 cs o (.int .u8 t.kind) (.string t.name) (.bool t.neg) (.slice A t.ds.length c) (.slice K t.kids.length c')) ∧
      Row w' A (u32s t.ds) ∧ (∀ a, A = some a → W.heap.size ≤ a.block) ∧ ((t.kids = [] ∧ K = none) ∨ ∃ b zs, K = some ⟨b, 0, none⟩ ∧ W.heap.size ≤ b ∧ w'.heap[b]? = some (.cells zs 28 (0, 0)) ∧ ZeroKids zs t.kids.length ∧ ∀ a, A = some a → t.ds ≠ [] → a.block ≠ b)
set_option maxRecDepth 100000 in
set_option maxHeartbeats 6400000 in
theorem read_ok {W : World} {g p o M : Nat} {cs : Array Value} {t : Tm} {rest : List UInt8} {due : Int} (hr : RdC W g (headK t ++ rest) due) (hb : W.heap[p]? = some (.cells cs 28 (0, 0))) (ho : o + 5 ≤ cs.size) (hp : p ≠ g) (h4 : cs[o + 4]? = some (.slice none 0 0)) (hg : Good t) (hl : (headK t ++ rest).length ≤ 100000000) (hds : t.ds.length ≤ 1000000) (hkl : t.kids.length ≤ 1000000)
    (hdue : 0 ≤ due ∧ due ≤ 100000000) (hd8 : due + t.kids.length - 1 ≤ ((rest.length / 8 : Nat) : Int)) (hM : LibM M W) (hMg : M ≤ g) (hMp : M ≤ p) (hMs : M ≤ W.heap.size) :
    Calls Tryz.prog 45 #[.pointer (some ⟨g, 0, none⟩), .pointer (some ⟨p, o, none⟩)] W fun e w' => (∃ u, e = .returned u) ∧ ReadPost W g p o cs t rest due w' := by
  obtain ⟨kn, hkn⟩ : ∃ kn : Nat, (kn : Int) = t.kind := ⟨t.kind.toNat, by have := hg.kind; omega⟩
  have hk2 : t.kind.toNat = kn := by omega
  have R0 := hid (show RS W g p W (decDigits kn ++ 32 :: (decDigits t.name.size ++ 58 :: (t.name.data.toList ++ 32 :: ((if t.neg then [45] else []) ++ (digsK t.ds ++ 32 :: (decDigits t.kids.length ++ 59 :: rest)))))) due cs from ⟨by
    unfold headK at hr
    rw [hk2] at hr
    simpa using hr, hb, Only2.refl _ _ _⟩)
  have HL := hid (show (decDigits kn ++ 32 :: (decDigits t.name.size ++ 58 :: (t.name.data.toList ++ 32 :: ((if t.neg then [45] else []) ++ (digsK t.ds ++ 32 :: (decDigits t.kids.length ++ 59 :: rest)))))).length ≤ 100000000 from by
    unfold headK at hl
    rw [hk2] at hl
    simpa using hl)
  have HB := hid (show g < W.heap.size ∧ p < W.heap.size from ⟨cell_lt hr.c0, Own.lt.cell_lt' hb⟩)
  have HP := hid (show _ ∧ _ ∧ _ ∧ _ ∧ _ ∧ _ ∧ _ from ⟨hp, hM, hMg, hMp, hMs, ho, hg⟩)
  have HK := hid (show _ ∧ _ ∧ _ ∧ _ ∧ _ ∧ _ from ⟨hds, hkl, hdue, hd8, h4, hkn⟩)
  have hkn8 : kn < 256 := by have := hg.kind; omega
  have ek : IntKind.u8.wrap (kn : Int) = kn := by rw [IntKind.wrap_u8]; omega
  clear hr hb ho hp h4 hg hl hds hkl hdue hd8 hM hMg hMp hMs hk2 hkn
  simp only [List.length_append, List.length_cons] at HL
  have HC := hid (show Calls Tryz.prog 55 #[.pointer (some ⟨g, 0, none⟩), .string ⟨#[32]⟩, .int .i64 8] W _ from number_ok (bits := 8) (n := kn) (s := 32) (M := M) (.inl rfl) hkn8 (by unfold isDig; decide) R0.out.left (by simp only [List.length_append, List.length_cons]; exact HL.out) HP.out.2.1 HP.out.2.2.1)
  go_enter Tryz.func45, Tryz.ntmps45
  go_wp2_with fail
  refine HC.out.mono ?_
  rintro e w1 ⟨rfl, r1, o1⟩
  have R1 := hid (R0.out.call HP.out.1 r1 o1)
  obtain ⟨y1, k1⟩ := R1.out.cell (j := o) (by have := HP.out; omega)
  have z1 := R1.out.fz o
  have S1 := hid (R1.out.put HP.out.1 o (.int .u8 kn))
  have HC := hid (show Calls Tryz.prog 55 #[.pointer (some ⟨g, 0, none⟩), .string ⟨#[58]⟩, .int .i64 62] (w1.setCell ⟨p, o, none⟩ (.int .u8 kn)) _ from number_ok (bits := 62) (n := t.name.size) (s := 58) (M := M) (.inr (.inr rfl)) (Nat.lt_of_le_of_lt HP.out.2.2.2.2.2.2.name (by decide)) (by unfold isDig; decide) S1.out.left (by simp only [List.length_append, List.length_cons]; have := HL.out; omega) (S1.out.lib HP.out.2.1 HP.out.2.2.1 HP.out.2.2.2.1 HP.out.2.2.2.2.1) HP.out.2.2.1)
  clear r1 o1 R0 R1
  go_wp2_with fail
  refine HC.out.mono ?_
  rintro e w2 ⟨rfl, r2, o2⟩
  have R2 := hid (S1.out.call HP.out.1 r2 o2)
  have HC := hid (cut_ok (n := t.name.size) (a := t.name.data.toList) (by rw [Array.length_toList]; rfl) R2.out.left (by simp only [List.length_append, List.length_cons]; have := HL.out; omega))
  have en : (⟨t.name.data.toList.toArray⟩ : ByteArray) = t.name := by cases t.name; simp
  rw [en] at HC
  clear r2 o2 S1 k1 z1 en
  go_wp2_with fail
  refine HC.out.mono ?_
  rintro e w3 ⟨rfl, r3, o3⟩
  have R3 := hid (R2.out.call HP.out.1 r3 o3)
  obtain ⟨y3, k3⟩ := R3.out.cell (j := o + 1) (by simp; have := HP.out; omega)
  have z3 := R3.out.fz (o + 1)
  have S3 := hid (R3.out.put HP.out.1 (o + 1) (.string t.name))
  have HC := hid (skip_ok (c := 32) S3.out.left)
  clear r3 o3 R2 R3
  go_wp2_with fail
  refine HC.out.mono ?_
  rintro e w4 ⟨⟨u4, rfl⟩, r4, o4⟩
  have R4 := hid (S3.out.call HP.out.1 r4 o4)
  have HC := hid (digits_ok (M := M) R4.out.left HP.out.2.2.2.2.2.2.ds (by simp only [List.length_append, List.length_cons]; have := HL.out; omega) HK.out.1 (R4.out.lib HP.out.2.1 HP.out.2.2.1 HP.out.2.2.2.1 HP.out.2.2.2.2.1) HP.out.2.2.1)
  clear r4 o4 S3 k3 z3
  go_wp2_with fail
  refine HC.out.mono ?_
  rintro e w5 ⟨A, cA, rfl, hrow, hAb, r5, o5⟩
  have R5 := hid (R4.out.call HP.out.1 r5 o5)
  obtain ⟨y5, k5⟩ := R5.out.cell (j := o + 2) (by simp; have := HP.out; omega)
  obtain ⟨y6, k6⟩ := R5.out.cell (j := o + 3) (by simp; have := HP.out; omega)
  have z5 := R5.out.fz (o + 2)
  have z6 := R5.out.fz (o + 3)
  have S5 := hid ((R5.out.put HP.out.1 (o + 2) (.bool t.neg)).put HP.out.1 (o + 3) (.slice A t.ds.length cA))
  have HA := hid (show _ ∧ _ ∧ _ from ⟨hrow, hAb, R4.out.only.size⟩)
  have HC := hid (show Calls Tryz.prog 55 #[.pointer (some ⟨g, 0, none⟩), .string ⟨#[59]⟩, .int .i64 62] ((w5.setCell ⟨p, o + 2, none⟩ (.bool t.neg)).setCell ⟨p, o + 2 + 1, none⟩ (.slice A t.ds.length cA)) _ from number_ok (bits := 62) (n := t.kids.length) (s := 59) (M := M) (.inr (.inr rfl)) (Nat.lt_of_le_of_lt HP.out.2.2.2.2.2.2.kl (by decide)) (by unfold isDig; decide) S5.out.left (by simp only [List.length_append, List.length_cons]; have := HL.out; omega) (S5.out.lib HP.out.2.1 HP.out.2.2.1 HP.out.2.2.2.1 HP.out.2.2.2.2.1) HP.out.2.2.1)
  clear r5 o5 R5 hrow hAb R4
  go_wp2_with fail
  refine HC.out.mono ?_
  rintro e w6 ⟨rfl, r6, o6⟩
  have R6 := hid (S5.out.call HP.out.1 r6 o6)
  have HA6 := hid (show Row w6 A (u32s t.ds) ∧ (∀ a, A = some a → W.heap.size ≤ a.block) from ⟨fun j v hj => by
    obtain ⟨a, ha, hc⟩ := HA.out.1 j v hj
    have h1 := HA.out.2.1 a ha
    have h2 := HA.out.2.2
    refine ⟨a, ha, (cell_congr ((o6.block _ (by have := cell_lt hc; simpa using this) ?_).trans ((Below.heap_setCell _ _ _ _ ?_).trans (Below.heap_setCell _ _ _ _ ?_)))).trans hc⟩ <;> (rw [add_block]; have h3 := HB.out; first | (show a.block ≠ g; omega) | (show a.block ≠ p; omega)), fun a ha => Nat.le_trans HA.out.2.2 (HA.out.2.1 a ha)⟩)
  have q0 := R6.out.left.c0
  have q1 := R6.out.left.c1
  have qf : w6.frozen? ⟨g, 1, none⟩ = false := R6.out.left.f
  obtain ⟨n, hn⟩ : ∃ n, n = t.kids.length := ⟨_, rfl⟩
  have hn1 : n ≤ 1000000 := by rw [hn]; exact HK.out.2.1
  obtain ⟨rl, hrl⟩ : ∃ rl : ByteArray, rl = ⟨rest.toArray⟩ := ⟨_, rfl⟩
  have hrs : rl.size = rest.length := by rw [hrl]; exact List.size_toArray
  rw [← hrl] at q0
  have hdu := HK.out.2.2.1
  have e8 : due + ((n : Int) - 1) ≤ (rl.size : Int) / 8 := by have := HK.out.2.2.2.1; rw [← hn] at this; rw [hrs]; omega
  have hrb : rl.size ≤ 100000000 := by rw [hrs]; have := HL.out; omega
  have ew0 : IntKind.i64.wrap (n : Int) = n := by rw [IntKind.wrap_i64]; omega
  have ew1 : IntKind.i64.wrap ((n : Int) - 1) = (n : Int) - 1 := by rw [IntKind.wrap_i64]; omega
  have ew2 : IntKind.i64.wrap (due + ((n : Int) - 1)) = due + ((n : Int) - 1) := by rw [IntKind.wrap_i64]; omega
  have e9 : ¬ (rl.size : Int) / 8 < due + ((n : Int) - 1) := by omega
  have R7 := hid (show RS W g p (w6.setCell ⟨g, 1, none⟩ (.int .i64 (due + ((n : Int) - 1)))) rest (due + ((n : Int) - 1)) _ from ⟨R6.out.left.set1 _, (Below.heap_setCell _ _ _ _ HP.out.1).trans R6.out.blk, R6.out.only.setG 1 _⟩)
  rw [← hn]
  have HN := hid hn
  clear hn r6 o6 S5 k5 k6 z5 z6 HA hrl hrs hdu e8 HC
  go_wp2
  go_quiet (fail)
  have R8 := hid (R7.out.drew nq)
  have HA8 := hid (show Row ((w6.setCell ⟨g, 1, none⟩ (.int .i64 (due + ((n : Int) - 1)))).drewN nq) A (u32s t.ds) from fun j v hj => by
    obtain ⟨a, ha, hc⟩ := HA6.out.1 j v hj
    refine ⟨a, ha, (cell_congr (Below.heap_setCell _ _ _ _ ?_)).trans hc⟩
    rw [add_block]
    have h1 := HA6.out.2 a ha
    have h2 := HB.out
    show a.block ≠ g
    omega)
  obtain ⟨w8, hw8⟩ : ∃ w8, w8 = (w6.setCell ⟨g, 1, none⟩ (.int .i64 (due + ((n : Int) - 1)))).drewN nq := ⟨_, rfl⟩
  rw [← hw8] at R8 HA8 ⊢
  clear hw8 R7 q0 q1 qf
  have hcs : ∀ (u4 : Value), ((((cs.setIfInBounds o (.int .u8 (kn : Int))).setIfInBounds (o + 1) (.string t.name)).setIfInBounds (o + 2) (.bool t.neg)).setIfInBounds (o + 3) (.slice A t.ds.length cA)).setIfInBounds (o + 4) u4 = put5 cs o (.int .u8 t.kind) (.string t.name) (.bool t.neg) (.slice A t.ds.length cA) u4 := fun u4 => by rw [HK.out.2.2.2.2.2]; rfl
  rcases Nat.eq_zero_or_pos n with hn0 | hn0
  · have hn2 : ¬ (0 : Int) < (n : Int) := by omega
    have HE := hid (show RS W g p w8 rest (due + t.kids.length - 1) (put5 cs o (.int .u8 t.kind) (.string t.name) (.bool t.neg) (.slice A t.ds.length cA) (.slice none t.kids.length 0)) from by
      have h4 : ((((cs.setIfInBounds o (.int .u8 (kn : Int))).setIfInBounds (o + 1) (.string t.name)).setIfInBounds (o + 2) (.bool t.neg)).setIfInBounds (o + 3) (.slice A t.ds.length cA))[o + 4]? = some (.slice none 0 0) := by
        simp only [Array.getElem?_setIfInBounds]
        rw [if_neg (by omega), if_neg (by omega), if_neg (by omega), if_neg (by omega)]
        exact HK.out.2.2.2.2.1
      rw [← HN.out, hn0, ← hcs, set_same h4]
      have := R8.out
      rw [hn0] at this
      have e0 : due + ((0 : Nat) : Int) - 1 = due + (((0 : Nat) : Int) - 1) := by omega
      rw [e0]
      exact this)
    have HE2 := hid (show t.kids = [] from List.length_eq_zero_iff.1 (by rw [← HN.out]; exact hn0))
    clear hn0 HK
    go_wp2
    go_returns
    exact ⟨⟨_, rfl⟩, A, cA, none, 0, HE.out, HA8.out, HA6.out.2, .inl ⟨HE2.out, rfl⟩⟩
  · have hn2 : (0 : Int) < (n : Int) := by omega
    have hn3 : (0 : Int) ≤ (n : Int) := by omega
    obtain ⟨i0, hi, hz0, hz1, hz2⟩ := info_parts info_term
    have hw8 : W.heap.size ≤ w8.heap.size := R8.out.only.size
    have H8 := hid hw8
    clear hw8 hn0
    go_wp2_with (at_make; refine wpList_make_full _ rfl _ _ 22 rfl W.heap.size 28 i0 (.agg #[.int .u8 0, .string ⟨#[]⟩, .bool false, .slice none 0 0, .slice none 0 0]) 5 Tryz.underlying22 hi hz0 hz1 .i64 .i64 (n : Int) (n : Int) n rfl rfl rfl rfl ?b2 ?b3 ?b4 ?_)
    case b2 => rw [hz2]; omega
    case b3 => unfold maxLen; omega
    case b4 => exact H8.out
    intro w9 hown hgrow
    have R9 := hid (R8.out.grown hgrow)
    obtain ⟨zs, hz, hzk⟩ := zero_kids hown (by omega)
    obtain ⟨y9, k9⟩ := R9.out.cell (j := o + 4) (by simp; have := HP.out; omega)
    have z9 := R9.out.fz (o + 4)
    have hpb : w8.heap.size ≠ p := by have := HB.out; have := H8.out; omega
    have HE := hid (show RS W g p (w9.setCell ⟨p, o + 4, none⟩ (.slice (some ⟨w8.heap.size, 0, none⟩) n n)) rest (due + t.kids.length - 1) (put5 cs o (.int .u8 t.kind) (.string t.name) (.bool t.neg) (.slice A t.ds.length cA) (.slice (some ⟨w8.heap.size, 0, none⟩) t.kids.length n)) ∧ Row (w9.setCell ⟨p, o + 4, none⟩ (.slice (some ⟨w8.heap.size, 0, none⟩) n n)) A (u32s t.ds) ∧ (w9.setCell ⟨p, o + 4, none⟩ (.slice (some ⟨w8.heap.size, 0, none⟩) n n)).heap[w8.heap.size]? = some (.cells zs 28 (0, 0)) ∧ ZeroKids zs t.kids.length from by
      refine ⟨?_, fun j v hj => ?_, (Below.heap_setCell _ _ _ _ hpb).trans hz, by rw [← HN.out]; exact hzk⟩
      · rw [← HN.out, ← hcs, show due + (n : Int) - 1 = due + ((n : Int) - 1) by omega]
        exact R9.out.put HP.out.1 (o + 4) _
      · obtain ⟨a, ha, hc⟩ := HA8.out j v hj
        have h1 := HA6.out.2 a ha
        have h2 := HB.out
        refine ⟨a, ha, (cell_congr ((Below.heap_setCell _ _ _ _ ?_).trans (hgrow.block _ (cell_lt hc) (fun e => by cases e)))).trans hc⟩
        rw [add_block]
        show a.block ≠ p
        omega)
    have HW := hid (show W.heap.size ≤ w8.heap.size ∧ ∀ a, A = some a → t.ds ≠ [] → a.block ≠ w8.heap.size from ⟨H8.out, fun a ha hne => by
      have hra := HA8.out
      cases hdd : t.ds with
      | nil => exact absurd hdd hne
      | cons x ds =>
        rw [hdd] at hra
        obtain ⟨a', ha', hc⟩ := hra 0 _ rfl
        rw [ha] at ha'
        cases ha'
        have := cell_lt hc
        rw [add_block] at this
        omega⟩)
    clear hown hgrow hz hzk R8 R9 HA8 hcs HK hpb
    go_wp2
    go_returns
    exact ⟨⟨_, rfl⟩, A, cA, some ⟨w8.heap.size, 0, none⟩, n, HE.out.1, HE.out.2.1, HA6.out.2, .inr ⟨w8.heap.size, zs, rfl, HW.out.1, HE.out.2.2.1, HE.out.2.2.2, HW.out.2⟩⟩
end Go.Proofs.YtlikpnaffpngiaaGreatDoor

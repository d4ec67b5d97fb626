/- The Keys of terms as rows of bytes (plain lists), and that these are cut in one way alone. No program, no condition. -/
import Derived.Test.YtlikpnaffpngiaaGreatDoorTPre
import Derived.Lib.ItoaLen
import Derived.Lib.ItoaMem
set_option linter.unusedVariables false
set_option linter.unusedSimpArgs false
namespace Go.Proofs.YtlikpnaffpngiaaGreatDoor
open Go.Lib
/-- A decimal digit. -/
def isDig (b : UInt8) : Prop := 48 ≤ b.toNat ∧ b.toNat ≤ 57
theorem dig_toNat {d : Nat} (h : d < 10) : (UInt8.ofNat (48 + d)).toNat = 48 + d := by
  rw [UInt8.toNat_ofNat']; omega
theorem decDigits_dig (u : Nat) : ∀ b ∈ decDigits u, isDig b := by
  induction u using Nat.strongRecOn with
  | _ u ih =>
    intro b hb
    rw [decDigits] at hb
    split at hb
    · next h =>
      rw [List.mem_singleton.1 hb]
      have := dig_toNat h
      exact ⟨by omega, by omega⟩
    · next h =>
      rcases List.mem_append.1 hb with hb | hb
      · exact ih (u / 10) (by omega) b hb
      · rw [List.mem_singleton.1 hb]
        have := dig_toNat (d := u % 10) (by omega)
        exact ⟨by omega, by omega⟩
/-- What a row of digits is worth. -/
def worth (l : List UInt8) : Nat := l.foldl (fun a b => a * 10 + (b.toNat - 48)) 0
theorem worth_snoc (l : List UInt8) (b : UInt8) : worth (l ++ [b]) = worth l * 10 + (b.toNat - 48) := by
  unfold worth; rw [List.foldl_append]; rfl
theorem worth_dec (u : Nat) : worth (decDigits u) = u := by
  induction u using Nat.strongRecOn with
  | _ u ih =>
    rw [decDigits]
    split
    · next h =>
      have := dig_toNat h
      show 0 * 10 + ((UInt8.ofNat (48 + u)).toNat - 48) = u
      omega
    · next h =>
      rw [worth_snoc, ih (u / 10) (by omega), dig_toNat (by omega)]
      omega
theorem dec_inj {a b : Nat} (h : decDigits a = decDigits b) : a = b := by rw [← worth_dec a, ← worth_dec b, h]
theorem dec_ne (u : Nat) : decDigits u ≠ [] := by
  rw [decDigits]; split <;> simp
/-- Two texts that begin with bytes of one kind, then one that is not of it. -/
theorem cut_same {p : UInt8 → Prop} {s : UInt8} (hs : ¬ p s) : ∀ {a b r r' : List UInt8}, (∀ x ∈ a, p x) → (∀ x ∈ b, p x) → a ++ s :: r = b ++ s :: r' → a = b ∧ r = r'
  | [], [], _, _, _, _, h => ⟨rfl, by simpa using h⟩
  | [], y :: b, _, _, _, hb, h => by
    simp at h
    exact absurd (h.1 ▸ hb y (List.mem_cons_self ..)) hs
  | x :: a, [], _, _, ha, _, h => by
    simp at h
    exact absurd (h.1 ▸ ha x (List.mem_cons_self ..)) hs
  | x :: a, y :: b, r, r', ha, hb, h => by
    rw [List.cons_append, List.cons_append] at h
    injection h with h1 h2
    obtain ⟨e1, e2⟩ := cut_same hs (fun z hz => ha z (List.mem_cons_of_mem _ hz)) (fun z hz => hb z (List.mem_cons_of_mem _ hz)) h2
    exact ⟨by rw [h1, e1], e2⟩
theorem dec_cut {s : UInt8} (hs : ¬ isDig s) {a b : Nat} {r r' : List UInt8} (h : decDigits a ++ s :: r = decDigits b ++ s :: r') : a = b ∧ r = r' := by
  obtain ⟨e1, e2⟩ := cut_same hs (decDigits_dig a) (decDigits_dig b) h
  exact ⟨dec_inj e1, e2⟩
/-- A number's digits in a Key. -/
def digsK : List Nat → List UInt8
  | [] => []
  | d :: ds => decDigits d ++ 46 :: digsK ds
theorem digsK_append : ∀ (a b : List Nat), digsK (a ++ b) = digsK a ++ digsK b
  | [], b => rfl
  | d :: a, b => by show _ ++ 46 :: digsK (a ++ b) = (_ ++ 46 :: _) ++ _; rw [digsK_append a b, List.append_assoc]; rfl
/-- What a part's Key has ahead of those of its kids. -/
def headK (t : Tm) : List UInt8 := decDigits t.kind.toNat ++ 32 :: (decDigits t.name.size ++ 58 :: (t.name.data.toList ++ 32 :: ((if t.neg then [45] else []) ++ (digsK t.ds ++ 32 :: (decDigits t.kids.length ++ [59])))))
def keyK (l : List Tm) : List UInt8 := l.flatMap headK
theorem dec_head (u : Nat) : ∃ c l, decDigits u = c :: l ∧ isDig c := by
  cases h : decDigits u with
  | nil => exact absurd h (dec_ne u)
  | cons c l => exact ⟨c, l, rfl, decDigits_dig u c (by rw [h]; exact List.mem_cons_self ..)⟩
theorem digs_cut : ∀ {a b : List Nat} {r r' : List UInt8}, digsK a ++ 32 :: r = digsK b ++ 32 :: r' → a = b ∧ r = r'
  | [], [], _, _, h => ⟨rfl, by simpa [digsK] using h⟩
  | [], y :: b, r, r', h => by
    obtain ⟨c, l, e, hc⟩ := dec_head y
    unfold digsK at h
    rw [e] at h
    simp at h
    rw [← h.1] at hc
    exact absurd hc (by unfold isDig; decide)
  | x :: a, [], r, r', h => by
    obtain ⟨c, l, e, hc⟩ := dec_head x
    unfold digsK at h
    rw [e] at h
    simp at h
    rw [h.1] at hc
    exact absurd hc (by unfold isDig; decide)
  | x :: a, y :: b, r, r', h => by
    unfold digsK at h
    rw [List.append_assoc, List.append_assoc] at h
    obtain ⟨e1, e2⟩ := dec_cut (s := 46) (by unfold isDig; decide) h
    obtain ⟨e3, e4⟩ := digs_cut e2
    exact ⟨by rw [e1, e3], e4⟩
theorem head_cut {a b : Tm} {r r' : List UInt8} (ha : 0 ≤ a.kind) (hb : 0 ≤ b.kind) (h : headK a ++ r = headK b ++ r') : a.kind = b.kind ∧ a.name = b.name ∧ a.neg = b.neg ∧ a.ds = b.ds ∧ a.kids.length = b.kids.length ∧ r = r' := by
  unfold headK at h
  simp only [List.append_assoc, List.cons_append, List.nil_append] at h
  obtain ⟨e1, h⟩ := dec_cut (s := 32) (by unfold isDig; decide) h
  obtain ⟨e2, h⟩ := dec_cut (s := 58) (by unfold isDig; decide) h
  have hl : a.name.data.toList.length = b.name.data.toList.length := by rw [Array.length_toList, Array.length_toList]; exact e2
  obtain ⟨e3, h⟩ := List.append_inj h hl
  have e3 : a.name = b.name := by
    have := Array.ext' e3
    cases ha : a.name; cases hb : b.name
    rw [ha, hb] at this
    simpa using this
  injection h with _ h
  have key : ∀ (ds : List Nat) (q : List UInt8), ∃ c l, digsK ds ++ 32 :: q = c :: l ∧ c ≠ 45 := fun ds q => by
    cases ds with
    | nil => exact ⟨32, q, rfl, by decide⟩
    | cons d ds =>
      obtain ⟨c, l, e, hc⟩ := dec_head d
      unfold digsK
      rw [e]
      exact ⟨c, _, rfl, fun e => by rw [e] at hc; exact absurd hc (by unfold isDig; decide)⟩
  have e4 : a.neg = b.neg ∧ digsK a.ds ++ 32 :: (decDigits a.kids.length ++ 59 :: r) = digsK b.ds ++ 32 :: (decDigits b.kids.length ++ 59 :: r') := by
    cases ea : a.neg <;> cases eb : b.neg <;> rw [ea, eb] at h
    · exact ⟨rfl, by simpa using h⟩
    · obtain ⟨c, l, e, hc⟩ := key a.ds (decDigits a.kids.length ++ 59 :: r)
      simp at h e
      rw [e] at h
      injection h with h _
      exact absurd h hc
    · obtain ⟨c, l, e, hc⟩ := key b.ds (decDigits b.kids.length ++ 59 :: r')
      simp at h e
      rw [e] at h
      injection h with h _
      exact absurd h.symm hc
    · exact ⟨rfl, by simpa using h⟩
  obtain ⟨e4, h⟩ := e4
  obtain ⟨e5, h⟩ := digs_cut h
  obtain ⟨e6, h⟩ := dec_cut (s := 59) (by unfold isDig; decide) h
  exact ⟨by omega, e3, e4, e5, e6, h⟩
theorem Tm.eta (t : Tm) : t = .mk t.kind t.name t.neg t.ds t.kids := by cases t; rfl
/-- The Keys of two rows of terms, as many, are the same just if these are. -/
theorem keys_cut : ∀ (n : Nat) {a b : List Tm} {r r' : List UInt8}, (preL a).length ≤ n → a.length = b.length → (∀ t ∈ preL a, 0 ≤ t.kind) → (∀ t ∈ preL b, 0 ≤ t.kind) → keyK (preL a) ++ r = keyK (preL b) ++ r' → a = b ∧ r = r'
  | _, [], [], _, _, _, _, _, _, h => ⟨rfl, by simpa [keyK, preL_nil] using h⟩
  | _, [], _ :: _, _, _, _, hl, _, _, _ => by simp at hl
  | _, _ :: _, [], _, _, _, hl, _, _, _ => by simp at hl
  | 0, x :: a, _, _, _, hn, _, _, _, _ => by rw [preL_cons] at hn; simp at hn
  | n + 1, x :: a, y :: b, r, r', hn, hl, ha, hb, h => by
    rw [preL_cons] at hn ha h
    rw [preL_cons] at hb h
    simp at hn hl
    rw [keyK, keyK, List.flatMap_cons, List.flatMap_cons, List.append_assoc, List.append_assoc] at h
    obtain ⟨e1, e2, e3, e4, e5, h⟩ := head_cut (ha x (List.mem_cons_self ..)) (hb y (List.mem_cons_self ..)) h
    rw [← preL_append, ← preL_append] at h
    obtain ⟨e6, e7⟩ := keys_cut n (a := x.kids ++ a) (b := y.kids ++ b) (by rw [preL_append]; simp; omega) (by simp; omega) (by rw [preL_append]; exact fun t ht => ha t (List.mem_cons_of_mem _ ht)) (by rw [preL_append]; exact fun t ht => hb t (List.mem_cons_of_mem _ ht)) h
    obtain ⟨e8, e9⟩ := List.append_inj e6 e5
    refine ⟨?_, e7⟩
    rw [Tm.eta x, Tm.eta y, e1, e2, e3, e4, e8, e9]
theorem mem_preL {p : Tm} : ∀ {l : List Tm}, p ∈ preL l ↔ ∃ t ∈ l, p ∈ preT t
  | [] => by rw [preL_nil]; simp
  | t :: l => by
    rw [preL_cons]
    have := mem_preL (p := p) (l := l)
    simp [preT_eq, this]
    constructor
    · rintro (h | h | h)
      · exact .inl (.inl h)
      · exact .inl (.inr h)
      · exact .inr h
    · rintro ((h | h) | h)
      · exact .inl h
      · exact .inr (.inl h)
      · exact .inr (.inr h)
/-- What the parts of a term in memory are. -/
structure Good (t : Tm) : Prop where
  kind : 0 ≤ t.kind ∧ t.kind < 256
  name : t.name.size ≤ 140737488355328
  ds : small 4294967296 t.ds
  dl : t.ds.length ≤ 140737488355328
  kl : t.kids.length ≤ 140737488355328
theorem TmV.good {W : World} {v : Value} {t : Tm} (h : TmV W v t) : ∀ p ∈ preT t, Good p := by
  induction h with
  | mk kind name neg ds kids A K c c' u hkd hnm hr hs hdl hkl hc hk ih =>
    intro p hp
    rw [preT_eq] at hp
    rcases List.mem_cons.1 hp with rfl | hp
    · have hw : 0 ≤ kind ∧ kind ≤ 255 := by
        have e1 : IntKind.u8.min = 0 := rfl
        have e2 : IntKind.u8.max = 255 := rfl
        simp only [Lit.wf, Bool.and_eq_true, decide_eq_true_eq, e1, e2] at hkd
        exact hkd
      exact ⟨⟨hw.1, by have := hw.2; show kind < 256; omega⟩, hnm, hs, hdl, hkl⟩
    · obtain ⟨t, ht, hp⟩ := mem_preL.1 hp
      obtain ⟨j, hj⟩ := List.getElem?_of_mem ht
      exact ih j t hj p hp
theorem TmsAt.good {W : World} {K : Option Addr} {l : List Tm} (h : TmsAt W K l) : ∀ p ∈ preL l, Good p := fun p hp => by
  obtain ⟨t, ht, hp⟩ := mem_preL.1 hp
  obtain ⟨j, hj⟩ := List.getElem?_of_mem ht
  obtain ⟨_, _, _, _, _, _, _, _, hv⟩ := h j t hj
  exact hv.good p hp
theorem PtrTm.good {W : World} {a : Addr} {t : Tm} (h : PtrTm W a t) : Good t := by
  obtain ⟨u0, u1, u2, u3, u4, _, ht⟩ := h
  exact ht.good t (by rw [preT_eq]; exact List.mem_cons_self ..)
theorem dec_len {u : Nat} (h : u < 18446744073709551616) : (decDigits u).length ≤ 20 := by rw [decDigits_length]; exact nDigits_le20 u h
theorem digsK_len : ∀ {ds : List Nat}, small 4294967296 ds → (digsK ds).length ≤ 21 * ds.length
  | [], _ => Nat.le_refl _
  | d :: ds, h => by
    have h1 := digsK_len (ds := ds) fun x hx => h x (List.mem_cons_of_mem _ hx)
    have h2 := dec_len (u := d) (by have := h d (List.mem_cons_self ..); omega)
    unfold digsK
    simp
    omega
theorem headK_len {t : Tm} (h : Good t) : (headK t).length ≤ 73 + 8 * (t.name.size / 8) + 21 * t.ds.length := by
  have h1 := dec_len (u := t.kind.toNat) (by have := h.kind; omega)
  have h2 := dec_len (u := t.name.size) (by have := h.name; omega)
  have h3 := dec_len (u := t.kids.length) (by have := h.kl; omega)
  have h4 := digsK_len h.ds
  have h5 : (if t.neg then [(45 : UInt8)] else []).length ≤ 1 := by split <;> decide
  have h6 : t.name.data.toList.length = t.name.size := Array.length_toList
  unfold headK
  simp only [List.length_append, List.length_cons, List.length_nil, h6]
  omega
theorem keyK_len : ∀ (n : Nat) {l : List Tm}, (preL l).length ≤ n → (∀ p ∈ preL l, Good p) → (keyK (preL l)).length ≤ 73 * wtL l
  | _, [], _, _ => by rw [preL_nil]; exact Nat.zero_le _
  | 0, t :: l, hn, _ => by rw [preL_cons] at hn; simp at hn
  | n + 1, t :: l, hn, h => by
    rw [preL_cons] at hn h ⊢
    simp at hn
    have h1 := headK_len (h t (List.mem_cons_self ..))
    have h2 := keyK_len n (l := t.kids ++ l) (by rw [preL_append]; simp; omega) (by rw [preL_append]; exact fun p hp => h p (List.mem_cons_of_mem _ hp))
    rw [keyK, List.flatMap_cons, List.length_append, ← preL_append]
    rw [wtL_append] at h2
    rw [wtL_cons, wtT_eq]
    unfold keyK at h2
    omega
theorem preL_wt : ∀ (n : Nat) {l : List Tm}, (preL l).length ≤ n → (preL l).length ≤ wtL l
  | _, [], _ => by rw [preL_nil]; exact Nat.zero_le _
  | 0, t :: l, hn => by rw [preL_cons] at hn; simp at hn
  | n + 1, t :: l, hn => by
    rw [preL_cons] at hn ⊢
    simp at hn ⊢
    have h2 := preL_wt n (l := t.kids ++ l) (by rw [preL_append]; simp; omega)
    rw [wtL_append, preL_append, List.length_append] at h2
    rw [wtL_cons, wtT_eq]
    omega
end Go.Proofs.YtlikpnaffpngiaaGreatDoor

/- Texts at their ends, plain: brackets within each other, a long word, a text too long; how long what is replaced and repeated is. No program, no condition. -/
import Derived.Test.YtbccknhinmgibaaDoorLRowP
import Derived.Lib.Replace
import Derived.Lib.Repeat
set_option linter.unusedVariables false
set_option linter.unusedSimpArgs false
namespace Go.Proofs.YtbccknhinmgibaaDoor

theorem replaceK_len (old new : List UInt8) : ∀ (k : Nat) (s : List UInt8), (Lib.replaceK old new k s).length ≤ s.length + k * new.length
  | 0, s => by simp [Lib.replaceK]
  | k + 1, s => by
    rw [Lib.replaceK]
    split
    · omega
    · have h := replaceK_len old new k (s.drop ((Lib.index s old).toNat + old.length))
      have h2 : (s.take (Lib.index s old).toNat).length + (s.drop ((Lib.index s old).toNat + old.length)).length ≤ s.length := by
        rw [List.length_take, List.length_drop]; omega
      simp only [List.length_append]
      rw [Nat.succ_mul]
      omega
theorem replace_len (s old new : List UInt8) : (Lib.replace s old new 1).length ≤ s.length + new.length := by
  rw [Lib.replace]
  split
  · omega
  · have hk : Lib.replaceNum s old 1 ≤ 1 := by
      rw [Lib.replaceNum]
      split
      · omega
      · exact Nat.le_refl 1
    have h := replaceK_len old new (Lib.replaceNum s old 1) s
    have h2 : Lib.replaceNum s old 1 * new.length ≤ 1 * new.length := Nat.mul_le_mul_right _ hk
    omega
theorem repeat_one (c : UInt8) : ∀ n, Lib.repeatL [c] n = List.replicate n c
  | 0 => rfl
  | n + 1 => by rw [Lib.repeatL, repeat_one c n, List.replicate_succ]; rfl
theorem go_nest : ∀ (n : Nat) (rest : List UInt8) (i : Nat) (up : Up) (ks : Fo), up.length + n ≤ 400 → ∃ K : Fo, K.deep = n ∧ go (List.replicate n 40 ++ (List.replicate n 41 ++ rest)) i up ks = go rest (i + 2 * n) up (ks.app K)
  | 0, rest, i, up, ks, _ => ⟨.nil, rfl, by rw [Fo.app_nil]; rfl⟩
  | n + 1, rest, i, up, ks, h => by
    obtain ⟨K, hK, hg⟩ := go_nest n (41 :: rest) (i + 1) ((i, ks) :: up) .nil (by simp only [List.length_cons]; omega)
    refine ⟨.one ⟨#[]⟩ K true i, by simp only [Fo.one, Fo.deep, hK]; simp; omega, ?_⟩
    have e : List.replicate (n + 1) (41 : UInt8) ++ rest = List.replicate n 41 ++ (41 :: rest) := by
      rw [List.replicate_succ', List.append_assoc]; rfl
    rw [e, List.replicate_succ, List.cons_append, go_open _ _ _ _ (by omega), hg, Fo.app, go_close]
    congr 1
    omega
theorem parse_nest (n : Nat) (h : n ≤ 400) : ∃ K : Fo, K.deep = n ∧ parseP (List.replicate n 40 ++ List.replicate n 41) = (K, 0, 0) := by
  obtain ⟨K, hK, hg⟩ := go_nest n [] 0 [] .nil (by simpa using h)
  refine ⟨K, hK, ?_⟩
  rw [List.append_nil] at hg
  rw [parse_short (by simp; omega), hg, go_nil, Fo.app]
  rfl
theorem parse_word (n : Nat) (c : UInt8) (hc : signB c = true) (h0 : 0 < n) (h : n ≤ 262144) : parseP (List.replicate n c) = (.one ⟨(List.replicate n c).toArray⟩ .nil false 0, 0, 0) := by
  obtain ⟨m, rfl⟩ : ∃ m, n = m + 1 := ⟨n - 1, by omega⟩
  have ht : (List.replicate m c).takeWhile signB = List.replicate m c := by
    rw [List.takeWhile_replicate, if_pos hc]
  have hd : (List.replicate m c).dropWhile signB = [] := by
    rw [List.dropWhile_replicate, if_pos hc]
  rw [parse_short (by simpa using h), List.replicate_succ, go_word hc, ht, hd, go_nil, Fo.app]
  rfl
theorem parse_over {l : List UInt8} (h : 262144 < l.length) : parseP l = (.nil, 0, 3) := by rw [parseP, if_pos h]
end Go.Proofs.YtbccknhinmgibaaDoor

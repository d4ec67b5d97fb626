/- DivMod's one example that the law asks for: 1000000000 by 7. -/
import Derived.Test.YtpamcdfbcglflaaDoorAwake
import Derived.Test.YtpamcdfbcglflaaDoorDivMod
namespace Go.Proofs.YtpamcdfbcglflaaDoor
open Go.RowKit

theorem dm_ex : DmEx := fun w A1 A2 c1 c2 h1 h2 => by
  have h := divMod_yes (w := w) (c1 := c1) (c2 := c2) (xs := [0, 1]) (ys := [7]) h1 h2 (fun d hd => by
    rcases List.mem_cons.1 hd with rfl | hd
    · decide
    · rw [List.mem_singleton.1 hd]; decide) (fun d hd => by rw [List.mem_singleton.1 hd]; decide) (by simp) (by simp) (by simp [val]) (.inl (by simp [val]))
  refine h.mono fun e w' hh => ?_
  obtain ⟨v, u, he, hv, hu, hb⟩ := hh
  have e1 : val [0, 1] / val [7] = 142857142 := by simp [val]
  have e2 : val [0, 1] % val [7] = 6 := by simp [val]
  rw [e1] at hv
  rw [e2] at hu
  exact ⟨v, u, he, hv, hu, hb⟩
end Go.Proofs.YtpamcdfbcglflaaDoor

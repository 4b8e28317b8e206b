/- The table of signs, as the rows list it; a world that holds it. -/
import Derived.Test.YtgojjknbingfpaaDoorCards
import Derived.Test.YtgojjknbingfpaaDoorTie
import Derived.Test.YtgojjknbingfpaaDoorLexC
import Derived.Test.YtgojjknbingfpaaDoorLaid
namespace Go.Proofs.YtgojjknbingfpaaDoor
open Go.RowKit

theorem gSigns : Tryd.prog.globalNamed "emissary/lex.signs" = some 0 := by kernel_rfl
theorem gSignsType : (Tryd.prog.globals[0]?).map (·.type) = some 76 := by kernel_rfl
def signBytes : List (List UInt8) := [[58, 61], [58, 58], [45, 62], [40], [41], [91], [93], [44], [59], [61], [60], [43], [45], [42], [94], [33], [124]]
/-- The row's condition gives the walks' fact. -/
theorem signs_of_laid {W : World} (h : laidMetH Tryd.prog [("emissary/lex.signs", Rows.laid_emissary_lex_signs)] W) : IsSigns W := by
  have h1 : laidMet Tryd.prog [("emissary/lex.signs", Em.strTab signBytes)] W := h
  have h2 := Em.strTab_head gSigns gSignsType Tryd.underlying76 Tryd.underlying9 (by kernel_rfl) h1
  intro k hk
  have e : ∀ k, k < 17 → ∃ b, signBytes[k]? = some b ∧ (⟨b.toArray⟩ : ByteArray) = Em.str (Em4.signs[k]?.getD []) := by
    intro k hk
    rcases k with _ | _ | _ | _ | _ | _ | _ | _ | _ | _ | _ | _ | _ | _ | _ | _ | _ | k
    all_goals first | exact ⟨_, rfl, rfl⟩ | omega
  obtain ⟨b, hb, he⟩ := e k hk
  rw [h2 k b hb, he]
/-- A world for the witness: the settled one, the table holding what its initialiser lays. -/
noncomputable def laidWorld (os : Os) : World :=
  { World.holding Tryd.prog os ⟨#[], #[], []⟩ with heap := (World.holding Tryd.prog os ⟨#[], #[], []⟩).heap.modify 0 fun
      | .cells _ t frozen => .cells signsV t frozen
      | o => o }
end Go.Proofs.YtgojjknbingfpaaDoor

/- Several texts in one: Laid, LexL. -/
import Derived.Test.YtgojjknbingfpaaDoorPureA
import Derived.Lib.LaidTab
import Derived.OpenShut
import Derived.ProofKit
import Derived.ChangeOld
import Derived.Deep.DeepHandedRow
import Derived.Test.YtgojjknbingfpaaDoorCards
import Derived.Test.YtgojjknbingfpaaDoorTie
import Derived.Test.YtgojjknbingfpaaDoorLexC
namespace Go.Em
open Go.RowKit

/-- A table of texts, as a row lists it. -/
def strTab {H : Type} (bs : List (List UInt8)) : DataW H := .agg (bs.map fun b => .lit (.string b))
theorem cells_of_strs {H : Type} {enc : TypeId × Value → H} {P : Program} {w : World} {base : Nat} {sp : Nat → Bool} {held : Bool} {fuel : Nat} {t e : TypeId} {n : Nat} {cs : List Value} {bs : List (List UInt8)} {p : List MemPlace}
    (ht : P.underlying t = some (.array n e)) (he : P.underlying e = some .string) (hce : P.cellsOf e = 1)
    (h : DataW.trod enc P w base sp held fuel t cs = some (strTab bs, p)) : bs.length = n ∧ ∀ (i : Nat) (b : List UInt8), bs[i]? = some b → cs[i]? = some (.string ⟨b.toArray⟩) := by
  obtain ⟨xs, m, rfl, hx, -, hn, hel⟩ := DataW.trod_array ht h
  have hx1 : xs.map (·.1) = bs.map fun b => (DataW.lit (.string b) : DataW H) := by
    have := congrArg Prod.fst hx
    simpa [strTab] using this.symm
  have hl : bs.length = n := by
    have := congrArg List.length hx1
    simp at this; omega
  refine ⟨hl, fun i b hi => ?_⟩
  have hin : i < n := by rw [← hl]; exact (List.getElem?_eq_some_iff.1 hi).1
  have h1 := hel i hin
  obtain ⟨y, hy⟩ : ∃ y, xs[i]? = some y := ⟨_, List.getElem?_eq_getElem (by omega)⟩
  rw [hy, hce, Nat.mul_one] at h1
  obtain ⟨s, hc, rfl, -⟩ := DataW.trod_string he h1
  have h2 : (xs.map (·.1))[i]? = some (DataW.lit (.string s.data.toList) : DataW H) := by simp [hy]
  rw [hx1, List.getElem?_map, hi] at h2
  have h3 : b = s.data.toList := by simpa using h2
  have h4 : cs[i]? = some (.string s) := by
    have := congrArg (·[0]?) hc
    simpa [List.getElem?_take, List.getElem?_drop] using this
  rw [h4, h3]
/-- The table stands first on the list. -/
theorem strTab_head {P : Program} {W : World} {name : String} {bs : List (List UInt8)} {rest : List (String × DataW Unit)} {g : Nat} {t e : TypeId} {n : Nat}
    (hg : P.globalNamed name = some g) (hty : (P.globals[g]?).map (·.type) = some t) (ht : P.underlying t = some (.array n e)) (he : P.underlying e = some .string) (hce : P.cellsOf e = 1)
    (h : laidMet P ((name, strTab bs) :: rest) W) : ∀ (i : Nat) (b : List UInt8), bs[i]? = some b → W.cell? ⟨g, i, none⟩ = some (.string ⟨b.toArray⟩) := by
  obtain ⟨ps, ⟨g', t', cs, fuel, p, q, hg', ht', hvar, hd, _, _⟩, _⟩ := h
  obtain rfl := Option.some.inj (hg.symm.trans hg')
  obtain rfl := Option.some.inj (hty.symm.trans ht')
  intro i b hi
  have h1 := (cells_of_strs ht he hce hd).2 i b hi
  have h2 := World.var?_cell hg hvar i
  rw [h2]
  obtain ⟨cs⟩ := cs
  simpa using h1
end Go.Em

namespace Go.Proofs.YtgojjknbingfpaaDoor
open Go.RowKit

theorem gSigns : Tryd.prog.globalNamed "emissary/lex.signs" = some 0 := by kernel_rfl
theorem gSignsType : (Tryd.prog.globals[0]?).map (·.type) = some 76 := by kernel_rfl
def signBytes : List (List UInt8) := [[58, 61], [58, 58], [45, 62], [40], [41], [91], [93], [44], [59], [61], [60], [43], [45], [42], [94], [33], [124]]
/-- The row's condition gives the walks' fact. -/
theorem signs_of_laid {W : World} (h : laidMetH Tryd.prog [("emissary/lex.signs", Rows.laid_emissary_lex_signs)] W) : IsSigns W := by
  have h1 : laidMet Tryd.prog [("emissary/lex.signs", Em.strTab signBytes)] W := h
  have h2 := Em.strTab_head gSigns gSignsType Tryd.underlying76 Tryd.underlying9 (by kernel_rfl) h1
  intro k hk
  have e : ∀ k, k < 17 → ∃ b, signBytes[k]? = some b ∧ (⟨b.toArray⟩ : ByteArray) = Em.str (Em4.signs[k]?.getD []) := by
    intro k hk
    rcases k with _ | _ | _ | _ | _ | _ | _ | _ | _ | _ | _ | _ | _ | _ | _ | _ | _ | k
    all_goals first | exact ⟨_, rfl, rfl⟩ | omega
  obtain ⟨b, hb, he⟩ := e k hk
  rw [h2 k b hb, he]
/-- A world for the witness: the settled one, the table holding what its initialiser lays. -/
noncomputable def laidWorld (os : Os) : World :=
  { World.holding Tryd.prog os ⟨#[], #[], []⟩ with heap := (World.holding Tryd.prog os ⟨#[], #[], []⟩).heap.modify 0 fun
      | .cells _ t frozen => .cells signsV t frozen
      | o => o }
end Go.Proofs.YtgojjknbingfpaaDoor

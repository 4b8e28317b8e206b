/-
  DERIVED. GIVEN WITH THE SEED: THE CARDS: each row of YtcpimmapdhmoiaaDoorRows.lean that lists a variable, with what it lists TIED to the program's text (the seventh form; the later family's looks); each row that meets fmt, with fmt's text TOLD by the authors' own Lean function (tested against real Go, not proved from fmt's source: count such statements apart). THE CARD IS WHAT COUNTS. Prove the row's statement (the work); the ties are given (YtcpimmapdhmoiaaDoorTie.lean); close each card by the builder's one call (the guide's Derived/Test/ToyasCard.lean, 'card_holds'). Laid BY PROGRAM, IN A SANDBOX (cutbox-door.mjs). By AI agents, Wed Nov 11 2026. No macro, syntax, notation, axiom, sorry.
-/
import Derived.Test.YtcpimmapdhmoiaaDoorRows
import GoSem.ClaimSeven
namespace Go.Proofs.YtcpimmapdhmoiaaDoor
namespace Rows

/-- THE TIED CARD OF 'emissarylaw8.TypTells'. -/
def typTellsCard : Claim7 := { stood := { row := typTellsRow, standIns := [], harness := (true, "c812315512fe685645e537ea3f7762198ddf087940f966c43d0113b16f17b598"), looks := false }, kinds := [], alts := [], laidByText := true, laidKinds := [.data, .data, .data], laidTests := true, laidLooks := .later }
def TypTellsCardSaid : Prop := Claim7.holds Tryd.pinned (.plain (OpenSpec.ofChange typTellsSpec)) typTellsCard

/-- THE TIED CARD OF 'emissarylaw8.TypSame'. -/
def typSameCard : Claim7 := { stood := { row := typSameRow, standIns := [], harness := (true, "c812315512fe685645e537ea3f7762198ddf087940f966c43d0113b16f17b598"), looks := false }, kinds := [], alts := [], laidByText := true, laidKinds := [.data, .data, .data], laidTests := true, laidLooks := .later }
def TypSameCardSaid : Prop := Claim7.holds Tryd.pinned (.plain (OpenSpec.ofChange typSameSpec)) typSameCard

/-- THE TIED CARD OF 'emissarylaw8.TypNorm'. -/
def typNormCard : Claim7 := { stood := { row := typNormRow, standIns := [], harness := (true, "c812315512fe685645e537ea3f7762198ddf087940f966c43d0113b16f17b598"), looks := false }, kinds := [], alts := [], laidByText := true, laidKinds := [.data, .data, .data], laidTests := true, laidLooks := .later }
def TypNormCardSaid : Prop := Claim7.holds Tryd.pinned (.plain (OpenSpec.ofChange typNormSpec)) typNormCard

/-- THE TIED CARD OF 'emissarylaw8.TypOdd'. -/
def typOddCard : Claim7 := { stood := { row := typOddRow, standIns := [], harness := (true, "c812315512fe685645e537ea3f7762198ddf087940f966c43d0113b16f17b598"), looks := false }, kinds := [], alts := [], laidByText := true, laidKinds := [.data, .data, .data], laidTests := true, laidLooks := .later }
def TypOddCardSaid : Prop := Claim7.holds Tryd.pinned (.plain (OpenSpec.ofChange typOddSpec)) typOddCard

/-- THE TIED CARD OF 'emissarylaw8.TypSent'. -/
def typSentCard : Claim7 := { stood := { row := typSentRow, standIns := [], harness := (true, "c812315512fe685645e537ea3f7762198ddf087940f966c43d0113b16f17b598"), looks := false }, kinds := [], alts := [], laidByText := true, laidKinds := [.data, .data, .data], laidTests := true, laidLooks := .later }
def TypSentCardSaid : Prop := Claim7.holds Tryd.pinned (.plain (OpenSpec.ofChange typSentSpec)) typSentCard

/-- THE SECOND FORM's CARD OF 'emissarylaw8.TypTells'. -/
def typTellsUptoCard : Claim7 := { stood := { row := typTellsUptoRow, standIns := [], harness := (true, "c812315512fe685645e537ea3f7762198ddf087940f966c43d0113b16f17b598"), looks := false }, kinds := [], alts := [], laidByText := true, laidKinds := [.data, .data, .data], laidTests := true, laidLooks := .later }
def TypTellsUptoCardSaid : Prop := Claim7.holds Tryd.pinned (.plain (OpenSpec.upto typTellsSpec)) typTellsUptoCard

/-- THE SECOND FORM's CARD OF 'emissarylaw8.TypSame'. -/
def typSameUptoCard : Claim7 := { stood := { row := typSameUptoRow, standIns := [], harness := (true, "c812315512fe685645e537ea3f7762198ddf087940f966c43d0113b16f17b598"), looks := false }, kinds := [], alts := [], laidByText := true, laidKinds := [.data, .data, .data], laidTests := true, laidLooks := .later }
def TypSameUptoCardSaid : Prop := Claim7.holds Tryd.pinned (.plain (OpenSpec.upto typSameSpec)) typSameUptoCard

/-- THE SECOND FORM's CARD OF 'emissarylaw8.TypNorm'. -/
def typNormUptoCard : Claim7 := { stood := { row := typNormUptoRow, standIns := [], harness := (true, "c812315512fe685645e537ea3f7762198ddf087940f966c43d0113b16f17b598"), looks := false }, kinds := [], alts := [], laidByText := true, laidKinds := [.data, .data, .data], laidTests := true, laidLooks := .later }
def TypNormUptoCardSaid : Prop := Claim7.holds Tryd.pinned (.plain (OpenSpec.upto typNormSpec)) typNormUptoCard

/-- THE SECOND FORM's CARD OF 'emissarylaw8.TypOdd'. -/
def typOddUptoCard : Claim7 := { stood := { row := typOddUptoRow, standIns := [], harness := (true, "c812315512fe685645e537ea3f7762198ddf087940f966c43d0113b16f17b598"), looks := false }, kinds := [], alts := [], laidByText := true, laidKinds := [.data, .data, .data], laidTests := true, laidLooks := .later }
def TypOddUptoCardSaid : Prop := Claim7.holds Tryd.pinned (.plain (OpenSpec.upto typOddSpec)) typOddUptoCard

/-- THE SECOND FORM's CARD OF 'emissarylaw8.TypSent'. -/
def typSentUptoCard : Claim7 := { stood := { row := typSentUptoRow, standIns := [], harness := (true, "c812315512fe685645e537ea3f7762198ddf087940f966c43d0113b16f17b598"), looks := false }, kinds := [], alts := [], laidByText := true, laidKinds := [.data, .data, .data], laidTests := true, laidLooks := .later }
def TypSentUptoCardSaid : Prop := Claim7.holds Tryd.pinned (.plain (OpenSpec.upto typSentSpec)) typSentUptoCard
end Rows
end Go.Proofs.YtcpimmapdhmoiaaDoor

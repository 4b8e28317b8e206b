/-
  NARROWER THAN 'FOR EVERY INPUT', by the rows' own cells (each row's printed sentence says how): ParseTexts: laid · ParseShown: loops, laid · ParseOrder: laid · ParseDeep: laid.
  DERIVED. THE GIVEN ROWS OF THIS SEAT. 4 by the template 'for every input the law returns true; each argument reads behind the call as it read before'; 0 by the template 'total and deterministic' (their statements: YtgojjknbingfpaaDoorTotals.lean).
  GIVEN WITH THE SEED: the statements are not yours to turn. If you find one false, say at which input.
  Laid BY PROGRAM, IN A SANDBOX (cutbox-rows.mjs): the forced cells as the released guide's own fill.sh prints them over the translation 59cba0144b31f3d0… (all of the seat's roots in one cut). By AI agents, Wed Nov 11 2026. No macro, syntax, notation, axiom, sorry.
-/
import Derived.Test.YtgojjknbingfpaaDoorChecked
import GoSem.Claim
import GoSem.ClaimJoined
import GoSem.ClaimMapViews
import Derived.JoinedTies
import Derived.KernelRfl
namespace Go.Proofs.YtgojjknbingfpaaDoor
/- THE CELL 'sum', in the pinned program and in every row, IS THE sha256 OF THE DUMP (.gsa) THAT YtgojjknbingfpaaDoorProg.lean LOADS. Nothing in Lean hashes anything: it is a label: what it is worth is what the hold of that sum in a sandbox is worth. -/
noncomputable def Tryd.pinned : Pinned := { name := "ytgojjknbingfpaadoor", sum := "59cba0144b31f3d0bf0a727ce652ec179e8146309a09d6e317e3879cad2a5dac", checked := Tryd.checked }
namespace Rows
def none {H : Type} : Left H := { results := [], args := [] }

/- WHAT THE LISTED PACKAGE-LEVEL VARIABLES READ AS WHEN THE CALL BEGINS. Each datum BY PROGRAM (the guide's laid-datum.mjs) off the statement by which the dump's own 'gosem.cut.vars' lays the variable. In a bare row this is a premise. The card (YtgojjknbingfpaaDoorCards.lean) ties it to the program's text. -/
def laid_emissary_lex_signs {H : Type} : DataW H := .agg [.lit (.string [58, 61]), .lit (.string [58, 58]), .lit (.string [45, 62]), .lit (.string [40]), .lit (.string [41]), .lit (.string [91]), .lit (.string [93]), .lit (.string [44]), .lit (.string [59]), .lit (.string [61]), .lit (.string [60]), .lit (.string [43]), .lit (.string [45]), .lit (.string [42]), .lit (.string [94]), .lit (.string [33]), .lit (.string [124])]

/-- 'emissarylaw6.ParseTexts': WHATEVER THE INPUT: true; the input reads as it did. -/
def parseTextsSpec : ChangeSpec := { name := "parseTexts", fn := fun _ => fun
  | [d] => { results := [.lit (.bool true)], args := [d] }
  | _ => none }
def parseTextsRow : OpenClaim := { program := "ytgojjknbingfpaadoor", sum := "59cba0144b31f3d0bf0a727ce652ec179e8146309a09d6e317e3879cad2a5dac", func := "emissary/emissarylaw6.ParseTexts", spec := "parseTexts", unfollowed := true, recurses := true, named := ["emissary/lex.signs"], apart := false, laid := [("emissary/lex.signs", laid_emissary_lex_signs)] }
def ParseTextsSaid : Prop := parseTextsRow.holds Tryd.pinned (OpenSpec.ofChange parseTextsSpec)

/-- ITS FALSE NEIGHBOUR: 'it returns false'. Refute it at one input. -/
def parseTextsWrong : ChangeSpec := { name := "parseTexts", fn := fun _ => fun
  | [d] => { results := [.lit (.bool false)], args := [d] }
  | _ => none }
def ParseTextsWrongFalsely : Prop := parseTextsRow.holds Tryd.pinned (OpenSpec.ofChange parseTextsWrong)

/-- 'emissarylaw6.ParseShown': WHATEVER THE INPUT: true; the input reads as it did. -/
def parseShownSpec : ChangeSpec := { name := "parseShown", fn := fun _ => fun
  | [d] => { results := [.lit (.bool true)], args := [d] }
  | _ => none }
def parseShownRow : OpenClaim := { program := "ytgojjknbingfpaadoor", sum := "59cba0144b31f3d0bf0a727ce652ec179e8146309a09d6e317e3879cad2a5dac", func := "emissary/emissarylaw6.ParseShown", spec := "parseShown", unfollowed := true, recurses := true, named := ["emissary/lex.signs"], loops := true, apart := false, laid := [("emissary/lex.signs", laid_emissary_lex_signs)] }
def ParseShownSaid : Prop := parseShownRow.holds Tryd.pinned (OpenSpec.ofChange parseShownSpec)

/-- ITS FALSE NEIGHBOUR: 'it returns false'. Refute it at one input. -/
def parseShownWrong : ChangeSpec := { name := "parseShown", fn := fun _ => fun
  | [d] => { results := [.lit (.bool false)], args := [d] }
  | _ => none }
def ParseShownWrongFalsely : Prop := parseShownRow.holds Tryd.pinned (OpenSpec.ofChange parseShownWrong)

/-- 'emissarylaw6.ParseOrder': WHATEVER THE INPUT: true; the input reads as it did. -/
def parseOrderSpec : ChangeSpec := { name := "parseOrder", fn := fun _ => fun
  | [d] => { results := [.lit (.bool true)], args := [d] }
  | _ => none }
def parseOrderRow : OpenClaim := { program := "ytgojjknbingfpaadoor", sum := "59cba0144b31f3d0bf0a727ce652ec179e8146309a09d6e317e3879cad2a5dac", func := "emissary/emissarylaw6.ParseOrder", spec := "parseOrder", unfollowed := true, recurses := true, named := ["emissary/lex.signs"], apart := false, laid := [("emissary/lex.signs", laid_emissary_lex_signs)] }
def ParseOrderSaid : Prop := parseOrderRow.holds Tryd.pinned (OpenSpec.ofChange parseOrderSpec)

/-- ITS FALSE NEIGHBOUR: 'it returns false'. Refute it at one input. -/
def parseOrderWrong : ChangeSpec := { name := "parseOrder", fn := fun _ => fun
  | [d] => { results := [.lit (.bool false)], args := [d] }
  | _ => none }
def ParseOrderWrongFalsely : Prop := parseOrderRow.holds Tryd.pinned (OpenSpec.ofChange parseOrderWrong)

/-- 'emissarylaw6.ParseDeep': WHATEVER THE INPUT: true; the input reads as it did. -/
def parseDeepSpec : ChangeSpec := { name := "parseDeep", fn := fun _ => fun
  | [d1, d2] => { results := [.lit (.bool true)], args := [d1, d2] }
  | _ => none }
def parseDeepRow : OpenClaim := { program := "ytgojjknbingfpaadoor", sum := "59cba0144b31f3d0bf0a727ce652ec179e8146309a09d6e317e3879cad2a5dac", func := "emissary/emissarylaw6.ParseDeep", spec := "parseDeep", unfollowed := true, recurses := true, named := ["emissary/lex.signs"], apart := false, laid := [("emissary/lex.signs", laid_emissary_lex_signs)] }
def ParseDeepSaid : Prop := parseDeepRow.holds Tryd.pinned (OpenSpec.ofChange parseDeepSpec)

/-- ITS FALSE NEIGHBOUR: 'it returns false'. Refute it at one input. -/
def parseDeepWrong : ChangeSpec := { name := "parseDeep", fn := fun _ => fun
  | [d1, d2] => { results := [.lit (.bool false)], args := [d1, d2] }
  | _ => none }
def ParseDeepWrongFalsely : Prop := parseDeepRow.holds Tryd.pinned (OpenSpec.ofChange parseDeepWrong)

/- THE SECOND FORM. 'bulk': how many values and letters a reading holds, each counted each time it is reached (what is shared counts as often as it is met; a slice's spare places count too). A statement '..UptoSaid' is the law's where the arguments, and the package variables that the reading takes, are together of bulk at most 1048576: NARROWER than '..Said'. Prove '..Said' where nothing that the law and all that it calls make is longer than what came in: it says more and counts as full. Else prove '..UptoSaid'. A law counts once. -/
mutual
def uptoBulk {H : Type} : DataW H → Nat
  | .lit (.string bytes) => bytes.length + 1
  | .lit _ => 1
  | .nil => 1
  | .ptr d => uptoBulk d + 1
  | .slice elems spare => uptoBulkAll elems + uptoBulkAll spare + 1
  | .agg parts => uptoBulkAll parts + 1
  | .iface _ d => uptoBulk d + 1
  | .map entries => uptoBulkEntries entries + 1
  | .held _ => 1
def uptoBulkAll {H : Type} : List (DataW H) → Nat
  | [] => 0
  | d :: r => uptoBulk d + uptoBulkAll r
def uptoBulkEntries {H : Type} : List (Lit × DataW H) → Nat
  | [] => 0
  | x :: r => uptoBulkEntry x + uptoBulkEntries r
def uptoBulkEntry {H : Type} : Lit × DataW H → Nat
  | (.string bytes, d) => bytes.length + uptoBulk d + 1
  | (_, d) => uptoBulk d + 1
 end
def uptoSmall : (H : Type) → List (DataW H) → Bool := fun _ ds => decide (uptoBulkAll ds ≤ 1048576)
def OpenSpec.upto (s : _root_.Go.ChangeSpec) : _root_.Go.OpenSpec := { _root_.Go.OpenSpec.ofChange s with cond := some uptoSmall }

/-- 'emissarylaw6.ParseTexts', WHERE WHAT IT READS IS OF BULK AT MOST 1048576: true; the input reads as it did. -/
def parseTextsUptoRow : OpenClaim := { program := "ytgojjknbingfpaadoor", sum := "59cba0144b31f3d0bf0a727ce652ec179e8146309a09d6e317e3879cad2a5dac", func := "emissary/emissarylaw6.ParseTexts", spec := "parseTexts", unfollowed := true, recurses := true, named := ["emissary/lex.signs"], apart := false, laid := [("emissary/lex.signs", laid_emissary_lex_signs)], narrowed := true }
def ParseTextsUptoSaid : Prop := parseTextsUptoRow.holds Tryd.pinned (OpenSpec.upto parseTextsSpec)

/-- 'emissarylaw6.ParseShown', WHERE WHAT IT READS IS OF BULK AT MOST 1048576: true; the input reads as it did. -/
def parseShownUptoRow : OpenClaim := { program := "ytgojjknbingfpaadoor", sum := "59cba0144b31f3d0bf0a727ce652ec179e8146309a09d6e317e3879cad2a5dac", func := "emissary/emissarylaw6.ParseShown", spec := "parseShown", unfollowed := true, recurses := true, named := ["emissary/lex.signs"], loops := true, apart := false, laid := [("emissary/lex.signs", laid_emissary_lex_signs)], narrowed := true }
def ParseShownUptoSaid : Prop := parseShownUptoRow.holds Tryd.pinned (OpenSpec.upto parseShownSpec)

/-- 'emissarylaw6.ParseOrder', WHERE WHAT IT READS IS OF BULK AT MOST 1048576: true; the input reads as it did. -/
def parseOrderUptoRow : OpenClaim := { program := "ytgojjknbingfpaadoor", sum := "59cba0144b31f3d0bf0a727ce652ec179e8146309a09d6e317e3879cad2a5dac", func := "emissary/emissarylaw6.ParseOrder", spec := "parseOrder", unfollowed := true, recurses := true, named := ["emissary/lex.signs"], apart := false, laid := [("emissary/lex.signs", laid_emissary_lex_signs)], narrowed := true }
def ParseOrderUptoSaid : Prop := parseOrderUptoRow.holds Tryd.pinned (OpenSpec.upto parseOrderSpec)

/-- 'emissarylaw6.ParseDeep', WHERE WHAT IT READS IS OF BULK AT MOST 1048576: true; the input reads as it did. -/
def parseDeepUptoRow : OpenClaim := { program := "ytgojjknbingfpaadoor", sum := "59cba0144b31f3d0bf0a727ce652ec179e8146309a09d6e317e3879cad2a5dac", func := "emissary/emissarylaw6.ParseDeep", spec := "parseDeep", unfollowed := true, recurses := true, named := ["emissary/lex.signs"], apart := false, laid := [("emissary/lex.signs", laid_emissary_lex_signs)], narrowed := true }
def ParseDeepUptoSaid : Prop := parseDeepUptoRow.holds Tryd.pinned (OpenSpec.upto parseDeepSpec)

end Rows
end Go.Proofs.YtgojjknbingfpaaDoor

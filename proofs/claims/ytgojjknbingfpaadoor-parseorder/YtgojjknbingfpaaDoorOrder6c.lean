/- What a text is parsed as, and shown. -/
import Derived.Test.YtgojjknbingfpaaDoorKnG
import Derived.Test.YtgojjknbingfpaaDoorRShC
import Derived.Test.YtgojjknbingfpaaDoorRTreeM1
import Derived.Deep.RegionHeld
namespace Go.Proofs.YtgojjknbingfpaaDoor
open Go.RowKit Go.Em5 Go.Em6
set_option linter.unusedVariables false
set_option linter.unusedSimpArgs false

def chk (L W : List Int) : Bool := match Em6.parse L with | .ok m => isNd m && decide (Em7.text m = W) | .error _ => false
theorem of_chk {L W : List Int} (h : chk L W = true) : ∃ m, Em6.parse L = .ok m ∧ isNd m = true ∧ Em7.text m = W := by
  unfold chk at h
  split at h
  · rename_i m hm
    simp only [Bool.and_eq_true, decide_eq_true_eq] at h
    exact ⟨m, hm, h.1, h.2⟩
  · cases h
def chkE (L : List Int) : Bool := match Em6.parse L with | .ok _ => false | .error e => e.1 == 2
theorem of_chkE {L : List Int} (h : chkE L = true) : ∃ a, Em6.parse L = .error (2, a) := by
  unfold chkE at h
  split at h
  · cases h
  · rename_i e hm
    obtain ⟨c, a⟩ := e
    simp at h
    subst h
    exact ⟨a, hm⟩
theorem isNd_each {m : Nd} (h : isNd m = true) : each m = true ∧ m.size ≤ 2000 := by
  unfold isNd at h
  simp only [Bool.and_eq_true, decide_eq_true_eq] at h
  exact ⟨h.2, h.1⟩

end Go.Proofs.YtgojjknbingfpaaDoor

/- What 'expr' of the document's own parser answers, at each depth. -/
import Derived.Test.YtgojjknbingfpaaDoorRPaS
import Derived.Test.YtgojjknbingfpaaDoorRPaC
import Derived.Test.YtgojjknbingfpaaDoorRPaK
import Derived.Test.YtgojjknbingfpaaDoorRPaM
import Derived.Test.YtgojjknbingfpaaDoorRPaP
import Derived.Test.YtgojjknbingfpaaDoorRPaA
import Derived.Test.YtgojjknbingfpaaDoorRPaE
import Derived.Test.YtgojjknbingfpaaDoorPureB
namespace Go.Proofs.YtgojjknbingfpaaDoor
open Go.RowKit Go.Em5 Go.Em6

theorem pmid_does (d : Nat) (A : List Em4.Tok → R) (hA : Does 89 d A) (hS : Shr A) : Does 43 d (mid A) :=
  pset_does d _ (pcmp_does d _ (pcons_does d _ (psum_does d _ (pprod_does d _ (papp_does d _ hA hS) (shr_app hS)) (shr_prod (shr_app hS))) (shr_sum (shr_prod (shr_app hS)))))

theorem plev_does : ∀ f, f ≤ 40 → Does 20 (40 - f) (lev f).1 ∧ Does 89 (40 - f) (lev f).2
  | 0, _ => by
    have e1 : ∀ A : List Em4.Tok → R, (lev 0).2 = fun L => if 40 ≤ 40 - 0 then .error (3, posL L) else A L := fun A => by funext L; rw [if_pos (by omega)]; rfl
    have e2 : ∀ A : List Em4.Tok → R, (lev 0).1 = fun L => if 40 ≤ 40 - 0 then .error (3, posL L) else A L := fun A => by funext L; rw [if_pos (by omega)]; rfl
    have hA : Does 89 (40 - 0) (lev 0).2 := by
      rw [e1 (atomS (lev 0).1 (lev 0).2)]
      exact patom_does (40 - 0) (by omega) _ _ (fun h => by omega) (fun h => by omega)
    refine ⟨?_, hA⟩
    rw [e2 (exprS (mid (lev 0).2) (lev 0).1)]
    exact pexpr_does (40 - 0) (by omega) _ _ (pmid_does _ _ hA (shr_lev 0).2) (fun h => by omega)
  | f + 1, hf => by
    obtain ⟨hE, hA⟩ := plev_does f (by omega)
    have ed : 40 - (f + 1) + 1 = 40 - f := by omega
    have hn : ¬ 40 ≤ 40 - (f + 1) := by omega
    have hA1 : Does 89 (40 - (f + 1)) (lev (f + 1)).2 := by
      have e : (lev (f + 1)).2 = fun L => if 40 ≤ 40 - (f + 1) then .error (3, posL L) else atomS (lev f).1 (lev f).2 L := by funext L; rw [if_neg hn]; rfl
      rw [e]
      exact patom_does _ (by omega) _ _ (fun _ => by rw [ed]; exact hE) (fun _ => by rw [ed]; exact hA)
    refine ⟨?_, hA1⟩
    have e : (lev (f + 1)).1 = fun L => if 40 ≤ 40 - (f + 1) then .error (3, posL L) else exprS (mid (lev (f + 1)).2) (lev f).1 L := by funext L; rw [if_neg hn]; rfl
    rw [e]
    exact pexpr_does _ (by omega) _ _ (pmid_does _ _ hA1 (shr_lev (f + 1)).2) (fun _ => by rw [ed]; exact hE)
/-- The expr of a whole text. -/
theorem pexpr_whole : Does 20 0 (lev 40).1 := (plev_does 40 (Nat.le_refl _)).1
end Go.Proofs.YtgojjknbingfpaaDoor

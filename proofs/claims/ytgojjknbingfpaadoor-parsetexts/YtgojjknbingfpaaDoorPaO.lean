/- What 'expr' of the program's parser answers, at each depth; of which kinds a text's tokens are. -/
import Derived.Test.YtgojjknbingfpaaDoorPaH
import Derived.Test.YtgojjknbingfpaaDoorPaJ
import Derived.Test.YtgojjknbingfpaaDoorPaN
import Derived.Test.YtgojjknbingfpaaDoorPureB
namespace Go.Em6
open Go.RowKit Go.Em4 Go.Em5
theorem tokAt_kok {c : Int} {r : List Int} {k : Int} {t : List Int} {n : Int} {m : Nat} (h : tokAt (c :: r) = some (k, t, n, m)) : (1 ≤ k ∧ k ≤ 5) ∧ (k = 1 → t ≠ []) := by
  rw [tokAt] at h
  split at h
  · unfold nameAt at h
    simp only at h
    split at h
    · simp only [Option.some.injEq, Prod.mk.injEq] at h
      obtain ⟨rfl, -⟩ := h
      exact ⟨by omega, fun h => by omega⟩
    · split at h
      · cases h
      · simp only [Option.some.injEq, Prod.mk.injEq] at h
        obtain ⟨rfl, rfl, -⟩ := h
        refine ⟨by omega, fun _ he => ?_⟩
        have := congrArg List.length he
        simp at this
  · split at h
    · unfold numAt at h
      simp only at h
      split at h
      · cases h
      · simp only [Option.some.injEq, Prod.mk.injEq] at h
        obtain ⟨rfl, -⟩ := h
        exact ⟨by omega, fun h => by omega⟩
    · split at h
      · unfold strAt at h
        simp only at h
        split at h
        · cases h
        · simp only [Option.some.injEq, Prod.mk.injEq] at h
          obtain ⟨rfl, -⟩ := h
          exact ⟨by omega, fun h => by omega⟩
      · unfold sgnAt at h
        split at h
        · cases h
        · simp only [Option.some.injEq, Prod.mk.injEq] at h
          obtain ⟨rfl, -⟩ := h
          exact ⟨by omega, fun h => by omega⟩
theorem toksF_kok : ∀ (f i : Nat) (L : List Int) (T : List Tok), toksF f i L = .ok T → ∀ t ∈ T, KOk t
  | f, i, [], T, h => by
    have h : toksF f i [] = .ok T := h
    rw [show toksF f i [] = .ok [⟨5, [], 0, i⟩] by cases f <;> rfl] at h
    injection h with h
    subst h
    intro t ht
    simp at ht
    subst ht
    exact ⟨⟨by show (1 : Int) ≤ 5; decide, by show (5 : Int) ≤ 5; decide⟩, fun h => absurd h (by show ¬ (5 : Int) = 1; decide)⟩
  | 0, i, c :: r, T, h => by
    injection h with h
    subst h
    intro t ht
    cases ht
  | f + 1, i, c :: r, T, h => by
    rw [toksF] at h
    split at h
    · exact toksF_kok f _ _ T h
    · split at h
      · cases h
      · rename_i k t n m ha
        split at h
        · cases h
        · rename_i l hl
          injection h with h
          subst h
          intro x hx
          rcases List.mem_cons.1 hx with rfl | hx
          · exact tokAt_kok ha
          · exact toksF_kok f _ _ l hl x hx
theorem toks_kok {L : List Int} {T : List Tok} (h : toks L = .ok T) : ∀ t ∈ T, KOk t := toksF_kok _ _ _ _ h
end Go.Em6
namespace Go.Proofs.YtgojjknbingfpaaDoor
open Go.RowKit Go.Em5 Go.Em6

theorem qmid_does (d : Nat) (A : List Em4.Tok → R) (hA : DoesP 91 d A) (hS : Shr A) : DoesP 56 d (mid A) :=
  qset_does d _ (qcmp_does d _ (qcons_does d _ (qsum_does d _ (qprod_does d _ (qapp_does d _ hA hS) (shr_app hS)) (shr_prod (shr_app hS))) (shr_sum (shr_prod (shr_app hS)))))
theorem does_any {k : Nat} {F G : List Em4.Tok → R} (h : DoesP k 40 F) : DoesP k 40 G := by
  intro s w pb tb hp
  cases s with
  | ok L => exact absurd hp.2 (Nat.lt_irrefl _)
  | error e => exact h (.error e) w pb tb hp
theorem deeperF_lev1 (f : Nat) (hf : f ≤ 39) : deeperF (39 - f) (lev f).1 = (lev f).1 := by
  cases f with
  | zero => funext L; rfl
  | succ f => exact deeperF_ne (by omega)
theorem deeperF_lev2 (f : Nat) (hf : f ≤ 39) : deeperF (39 - f) (lev f).2 = (lev f).2 := by
  cases f with
  | zero => funext L; rfl
  | succ f => exact deeperF_ne (by omega)
set_option maxRecDepth 100000 in
theorem qlev_does : ∀ f, f ≤ 40 → DoesP 16 (40 - f) (lev f).1 ∧ DoesP 91 (40 - f) (lev f).2
  | 0, _ => by
    have hA : DoesP 91 40 (atomS (lev 0).1 (lev 0).2) := qatom_does 40 _ _ (fun h => by omega) (fun h => by omega)
    have hA1 : DoesP 91 40 (lev 0).2 := does_any hA
    refine ⟨does_any (qexpr_does 40 (mid (lev 0).2) (lev 0).1 (qseq_does 40 _ _ (qmid_does 40 _ hA1 (shr_lev 0).2) (fun h => by omega)) (fun h => by omega)), hA1⟩
  | f + 1, hf => by
    obtain ⟨hE, hA⟩ := qlev_does f (by omega)
    have e1 : 40 - (f + 1) = 39 - f := by omega
    have ed : 40 - f = 39 - f + 1 := by omega
    rw [ed] at hE hA
    rw [e1]
    have hI : DoesP 55 (39 - f) (lev f).1 := by
      have := qinner_does (39 - f) _ hE (by omega)
      rwa [deeperF_lev1 f (by omega)] at this
    have hD : ∀ (w : World) (pb tb : Nat) (s : St), IsPs w pb tb (39 - f) s → Calls Tryd.prog 75 #[PP pb, MV 91 pb] w (PostP (lev f).2 pb tb (39 - f) s w) := fun w pb tb s h => by
      have := qdeeper_any 91 (39 - f) _ hA (fun _ _ => rfl) (by omega) w pb tb s h
      rwa [deeperF_lev2 f (by omega)] at this
    have hA1 : DoesP 91 (39 - f) (lev (f + 1)).2 := qatom_does (39 - f) _ _ (fun _ => hI) (fun _ => hD)
    refine ⟨?_, hA1⟩
    exact qexpr_does (39 - f) (mid (lev (f + 1)).2) (lev f).1 (qseq_does _ _ _ (qmid_does _ _ hA1 (shr_lev (f + 1)).2) (fun _ => hI)) (fun _ => hI)
/-- The expr of a whole text. -/
theorem qexpr_whole : DoesP 16 0 (lev 40).1 := (qlev_does 40 (Nat.le_refl _)).1
end Go.Proofs.YtgojjknbingfpaaDoor

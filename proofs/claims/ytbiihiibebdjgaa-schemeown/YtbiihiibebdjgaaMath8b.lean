/- A type's text. -/
import Derived.Test.YtbiihiibebdjgaaMath8
namespace Go.Em8
open Go.Em5 Go.RowKit
set_option linter.unusedSimpArgs false

mutual
def tshow : Ty → List Int
  | .mk op n l => if op = tList ∨ op = tRef then (tshows l).getD 0 [] ++ [32] ++ op
    else if op = tPair then [40] ++ (tshows l).getD 0 [] ++ [32, 42, 32] ++ (tshows l).getD 1 [] ++ [41]
    else if op = tFun then [40] ++ (tshows l).getD 0 [] ++ [32, 45, 62, 32] ++ (tshows l).getD 1 [] ++ [41]
    else if op = tVar then [39] ++ tdigs n.toNat
    else op
def tshows : List Ty → List (List Int) | [] => [] | t :: r => tshow t :: tshows r
end
theorem tshow_eq (op : List Int) (n : Int) (l : List Ty) : tshow (.mk op n l) = if op = tList ∨ op = tRef then (tshows l).getD 0 [] ++ [32] ++ op
    else if op = tPair then [40] ++ (tshows l).getD 0 [] ++ [32, 42, 32] ++ (tshows l).getD 1 [] ++ [41]
    else if op = tFun then [40] ++ (tshows l).getD 0 [] ++ [32, 45, 62, 32] ++ (tshows l).getD 1 [] ++ [41]
    else if op = tVar then [39] ++ tdigs n.toNat
    else op := by rw [tshow]
/-- What a type that may be looks like. -/
theorem teach_cases {op : List Int} {n : Int} {l : List Ty} (h : teach (.mk op n l) = true) :
    ((op = tInt ∨ op = tBool ∨ op = tUnit ∨ op = tString ∨ op = tCell) ∧ n = 0 ∧ l = []) ∨ (op = tVar ∧ 0 ≤ n ∧ l = []) ∨
    ((op = tList ∨ op = tRef) ∧ n = 0 ∧ ∃ x, l = [x] ∧ teach x = true) ∨ ((op = tPair ∨ op = tFun) ∧ n = 0 ∧ ∃ x y, l = [x, y] ∧ teach x = true ∧ teach y = true) := by
  rw [teach] at h
  simp only [Bool.and_eq_true, decide_eq_true_eq, Bool.or_eq_true] at h
  obtain ⟨h1, h2, h3, h4⟩ := h
  unfold tkids at h1
  split at h1
  · rename_i hm
    have hl : l = [] := List.length_eq_zero_iff.1 (by omega)
    simp only [List.mem_cons, List.not_mem_nil, or_false] at hm
    rcases hm with e | e | e | e | e | e
    · exact .inl ⟨.inl e, by rcases h3 with h3 | h3; (rw [e] at h3; simp [tInt, tVar] at h3); exact h3, hl⟩
    · exact .inl ⟨.inr (.inl e), by rcases h3 with h3 | h3; (rw [e] at h3; simp [tBool, tVar] at h3); exact h3, hl⟩
    · exact .inl ⟨.inr (.inr (.inl e)), by rcases h3 with h3 | h3; (rw [e] at h3; simp [tUnit, tVar] at h3); exact h3, hl⟩
    · exact .inl ⟨.inr (.inr (.inr (.inl e))), by rcases h3 with h3 | h3; (rw [e] at h3; simp [tString, tVar] at h3); exact h3, hl⟩
    · exact .inl ⟨.inr (.inr (.inr (.inr e))), by rcases h3 with h3 | h3; (rw [e] at h3; simp [tCell, tVar] at h3); exact h3, hl⟩
    · exact .inr (.inl ⟨e, h2, hl⟩)
  · split at h1
    · rename_i hv hm
      refine .inr (.inr (.inl ?_))
      simp only [List.mem_cons, List.not_mem_nil, or_false] at hm
      have hn : n = 0 := by rcases h3 with h3 | h3; (rw [h3] at hm; simp [tVar, tList, tRef] at hm); exact h3
      match l, h1, h4 with
      | [x], _, h4 => exact ⟨hm, hn, x, rfl, by simpa [teachs] using h4⟩
      | [], h1, _ => simp at h1
      | _ :: _ :: _, h1, _ => simp at h1; omega
    · split at h1
      · rename_i hv hm
        refine .inr (.inr (.inr ?_))
        simp only [List.mem_cons, List.not_mem_nil, or_false] at hm
        have hn : n = 0 := by rcases h3 with h3 | h3; (rw [h3] at hm; simp [tVar, tPair, tFun] at hm); exact h3
        match l, h1, h4 with
        | [x, y], _, h4 => exact ⟨hm, hn, x, y, rfl, by simpa [teachs] using h4⟩
        | [], h1, _ => simp at h1
        | [_], h1, _ => simp at h1
        | _ :: _ :: _ :: _, h1, _ => simp at h1; omega
      · omega
theorem tshow_mem (T : Ty) : teach T = true → ∀ x ∈ tshow T, 0 ≤ x ∧ x ≤ 255 := by
  induction T using Ty.ind with
  | h op n l ih =>
    intro h x hx
    rw [tshow_eq] at hx
    rcases teach_cases h with ⟨ho, -, rfl⟩ | ⟨ho, hn, rfl⟩ | ⟨ho, -, a, rfl, ha⟩ | ⟨ho, -, a, b, rfl, ha, hb⟩
    · rcases ho with rfl | rfl | rfl | rfl | rfl <;> simp [tInt, tBool, tUnit, tString, tCell, tList, tRef, tPair, tFun, tVar] at hx <;> omega
    · subst ho
      simp [tList, tRef, tPair, tFun, tVar] at hx
      rcases hx with hx | hx
      · omega
      · have := tdigs_mem _ x hx; omega
    · have h1 := ih a (by simp) ha x
      rcases ho with rfl | rfl <;> simp [tList, tRef, tPair, tFun, tVar, tshows] at hx <;> (rcases hx with hx | hx; exact h1 hx; omega)
    · have h1 := ih a (by simp) ha x
      have h2 := ih b (by simp) hb x
      rcases ho with rfl | rfl <;> simp [tList, tRef, tPair, tFun, tVar, tshows] at hx <;> grind
/-- The numbers in it are ints. -/
inductive TI64 : Ty → Prop where
  | mk {op : List Int} {n : Int} {l : List Ty} : I64 n → (∀ t ∈ l, TI64 t) → TI64 (.mk op n l)
theorem isTy_i64 {w : World} (T : Ty) : ∀ v, IsTy w T v → TI64 T := by
  induction T using Ty.ind with
  | h op n l ih =>
    intro v h
    unfold IsTy at h
    obtain ⟨a, cap, -, -, hi, -, -, hk⟩ := h
    refine .mk hi fun t ht => ?_
    obtain ⟨j, hj, e⟩ := List.getElem_of_mem ht
    obtain ⟨b, off, -, -, hat⟩ := hk (by omega)
    obtain ⟨c0, c1, c2, -, -, -, kn⟩ := tysAt_get l off j t hat (by rw [List.getElem?_eq_getElem hj, e])
    exact ih t ht _ kn
theorem tshow_len (T : Ty) : teach T = true → TI64 T → (tshow T).length ≤ 20 * T.size := by
  induction T using Ty.ind with
  | h op n l ih =>
    intro h hi
    rw [tshow_eq, Ty.size]
    obtain ⟨hn, hs⟩ : I64 n ∧ ∀ t ∈ l, TI64 t := by cases hi with | mk h1 h2 => exact ⟨h1, h2⟩
    rcases teach_cases h with ⟨ho, -, rfl⟩ | ⟨ho, hn0, rfl⟩ | ⟨ho, -, a, rfl, ha⟩ | ⟨ho, -, a, b, rfl, ha, hb⟩
    · rcases ho with rfl | rfl | rfl | rfl | rfl <;> simp [tInt, tBool, tUnit, tString, tCell, tList, tRef, tPair, tFun, tVar, tsizes]
    · subst ho
      have := tdigs_len64 (n := n.toNat) (by unfold I64 at hn; omega)
      simp [tList, tRef, tPair, tFun, tVar, tsizes]
      omega
    · have h1 := ih a (by simp) ha (hs a (by simp))
      rcases ho with rfl | rfl <;> simp [tList, tRef, tPair, tFun, tVar, tshows, tsizes] <;> omega
    · have h1 := ih a (by simp) ha (hs a (by simp))
      have h2 := ih b (by simp) hb (hs b (by simp))
      rcases ho with rfl | rfl <;> simp [tList, tRef, tPair, tFun, tVar, tshows, tsizes] <;> omega
end Go.Em8

/- A type with vars replaced; a type normed. No program is named here. -/
import Derived.Test.YtbiihiibebdjgaaMath8
namespace Go.Em8
open Go.Em5

mutual
/-- A type with vars replaced. -/
def tput (l : List Int) (bs : List Ty) : Ty → Ty
  | .mk op n ks => if op = tVar then (if n ∈ l then bs[l.idxOf n]?.getD (.mk op n ks) else .mk op n ks) else .mk op n (tputs l bs ks)
def tputs (l : List Int) (bs : List Ty) : List Ty → List Ty
  | [] => []
  | t :: r => tput l bs t :: tputs l bs r
end
theorem tputs_map (l : List Int) (bs : List Ty) : ∀ ks, tputs l bs ks = ks.map (tput l bs)
  | [] => rfl
  | t :: r => by simp [tputs, tputs_map l bs r]
theorem tput_var {l : List Int} {bs : List Ty} {op : List Int} {n : Int} {ks : List Ty} (h : op = tVar) : tput l bs (.mk op n ks) = if n ∈ l then bs[l.idxOf n]?.getD (.mk op n ks) else .mk op n ks := by rw [tput, if_pos h]
theorem tput_else {l : List Int} {bs : List Ty} {op : List Int} {n : Int} {ks : List Ty} (h : op ≠ tVar) : tput l bs (.mk op n ks) = .mk op n (ks.map (tput l bs)) := by rw [tput, if_neg h, tputs_map]
theorem tsizes_len : ∀ l : List Ty, l.length ≤ tsizes l
  | [] => by simp
  | .mk op n k :: r => by
    have := tsizes_len r
    simp only [tsizes, Ty.size, List.length_cons]; omega
/-- The first place of a number. -/
theorem idx_at : ∀ (l : List Int) (n : Int) (k : Nat), l[k]? = some n → (∀ j, j < k → l[j]? ≠ some n) → n ∈ l ∧ l.idxOf n = k
  | [], _, _, h, _ => by simp at h
  | x :: r, n, 0, h, _ => by simp at h; subst h; simp
  | x :: r, n, k + 1, h, hn => by
    have h0 := hn 0 (by omega)
    simp at h0 h
    obtain ⟨h1, h2⟩ := idx_at r n k h (fun j hj => by simpa using hn (j + 1) (by omega))
    refine ⟨by simp [h1], ?_⟩
    have e : (x == n) = false := by simpa using h0
    rw [List.idxOf_cons, e, cond_false, h2]
theorem idx_none {l : List Int} {n : Int} (h : ∀ j, j < l.length → l[j]? ≠ some n) : n ∉ l := fun hm => by
  obtain ⟨j, hj, he⟩ := List.getElem_of_mem hm
  exact h j hj (by rw [List.getElem?_eq_getElem hj, he])
/-- A type whose vars are 0, 1, .. in order. -/
def tnorm (t : Ty) : Ty := tput (tvars t []) ((List.range (tvars t []).length).map fun i : Nat => Ty.mk tVar (i : Int) []) t
end Go.Em8

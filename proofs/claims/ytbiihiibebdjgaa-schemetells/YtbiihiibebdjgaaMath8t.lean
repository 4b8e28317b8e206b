/- Types of any size: how long their vars grow; rows of kids that are not long. No program is named here. -/
import Derived.Test.YtbiihiibebdjgaaMath8b
namespace Go.Em8
open Go.Em5

theorem tadd_grow (op : List Int) (n : Int) (out : List Int) : out.length ≤ (tadd op n out).length := by
  unfold tadd; split <;> simp
theorem tvars_grow (T : Ty) : ∀ out, out.length ≤ (tvars T out).length := by
  induction T using Ty.ind with
  | h op n l ih =>
    intro out
    have key : ∀ (l : List Ty), (∀ t ∈ l, ∀ o, o.length ≤ (tvars t o).length) → ∀ o, o.length ≤ (tvarss l o).length := by
      intro l
      induction l with
      | nil => intro _ o; simp [tvarss]
      | cons t r ihr =>
        intro h o
        simp only [tvarss]
        exact Nat.le_trans (h t (by simp) o) (ihr (fun t ht => h t (by simp [ht])) (tvars t o))
    rw [tvars_eq]
    exact Nat.le_trans (tadd_grow op n out) (key l ih _)
theorem tvarss_grow : ∀ (l : List Ty) (o : List Int), o.length ≤ (tvarss l o).length
  | [], o => by simp [tvarss]
  | t :: r, o => by simp only [tvarss]; exact Nat.le_trans (tvars_grow t o) (tvarss_grow r _)
mutual
/-- No node has more than a million kids. -/
def thin : Ty → Bool | .mk _ _ l => decide (l.length ≤ 1000000) && thins l
def thins : List Ty → Bool | [] => true | t :: r => thin t && thins r
end
theorem thins_iff (l : List Ty) : thins l = true ↔ ∀ t ∈ l, thin t = true := by
  induction l with
  | nil => simp [thins]
  | cons x r ih => simp [thins, ih]
theorem thin_iff {op : List Int} {n : Int} {l : List Ty} : thin (.mk op n l) = true ↔ l.length ≤ 1000000 ∧ ∀ t ∈ l, thin t = true := by
  rw [thin, Bool.and_eq_true, decide_eq_true_iff, thins_iff]
theorem tsizes_long : ∀ l : List Ty, l.length ≤ tsizes l
  | [] => by simp
  | .mk op n k :: r => by
    have := tsizes_long r
    simp only [tsizes, Ty.size, List.length_cons]; omega
theorem tsizes_one : ∀ (l : List Ty) (t : Ty), t ∈ l → t.size ≤ tsizes l
  | [], _, h => by cases h
  | x :: r, t, h => by
    simp only [tsizes]
    rcases List.mem_cons.1 h with rfl | h
    · omega
    · have := tsizes_one r t h; omega
theorem thin_of_size (T : Ty) : T.size ≤ 1000000 → thin T = true := by
  induction T using Ty.ind with
  | h op n l ih =>
    intro h
    rw [Ty.size] at h
    have h1 := tsizes_long l
    exact thin_iff.2 ⟨by omega, fun t ht => ih t ht (by have := tsizes_one l t ht; omega)⟩
theorem thin_of_teach (T : Ty) : teach T = true → thin T = true := by
  induction T using Ty.ind with
  | h op n l ih =>
    intro h
    rcases teach_cases h with ⟨-, -, rfl⟩ | ⟨-, -, rfl⟩ | ⟨-, -, x, rfl, hx⟩ | ⟨-, -, x, y, rfl, hx, hy⟩
    · exact thin_iff.2 ⟨by simp, by simp⟩
    · exact thin_iff.2 ⟨by simp, by simp⟩
    · refine thin_iff.2 ⟨by simp, fun t ht => ?_⟩
      simp at ht; subst ht; exact ih _ (by simp) hx
    · refine thin_iff.2 ⟨by simp, fun t ht => ?_⟩
      simp at ht
      rcases ht with rfl | rfl
      · exact ih _ (by simp) hx
      · exact ih _ (by simp) hy
end Go.Em8

/- The plain mathematics of chapter 9 (unify): types for vars; what makes types one, and no less than they need; up to new names there is one such. No program is named here. -/
import Derived.Test.YtadhjnbhcenocaaMath8e
namespace Go.Em9
open Go.RowKit Go.Em5 Go.Em8

mutual
/-- Types for vars. -/
def tsub (s : Int → Ty) : Ty → Ty
  | .mk op n l => if op = tVar then s n else .mk op n (tsubs s l)
def tsubs (s : Int → Ty) : List Ty → List Ty
  | [] => []
  | t :: r => tsub s t :: tsubs s r
end
theorem tsubs_map (s : Int → Ty) : ∀ l, tsubs s l = l.map (tsub s)
  | [] => rfl
  | t :: r => by simp [tsubs, tsubs_map s r]
theorem tsub_var (s : Int → Ty) {op : List Int} {n : Int} {ks : List Ty} (h : op = tVar) : tsub s (.mk op n ks) = s n := by rw [tsub, if_pos h]
theorem tsub_else (s : Int → Ty) {op : List Int} {n : Int} {ks : List Ty} (h : op ≠ tVar) : tsub s (.mk op n ks) = .mk op n (ks.map (tsub s)) := by rw [tsub, if_neg h, tsubs_map]
/-- A var. -/
def tv (x : Int) : Ty := .mk tVar x []

theorem tsub_congr {f g : Int → Ty} (t : Ty) : (∀ x, tocc x t → f x = g x) → tsub f t = tsub g t := by
  induction t using Ty.ind with
  | h op n l ih =>
    intro h
    by_cases ho : op = tVar
    · rw [tsub_var f ho, tsub_var g ho]
      exact h n ((tocc_eq n op n l).2 (.inl ⟨ho, rfl⟩))
    · rw [tsub_else f ho, tsub_else g ho]
      congr 1
      exact List.map_congr_left fun t ht => ih t ht fun x hx => h x ((tocc_eq x op n l).2 (.inr ⟨t, ht, hx⟩))
theorem tsub_comp (f g : Int → Ty) (t : Ty) : tsub g (tsub f t) = tsub (fun x => tsub g (f x)) t := by
  induction t using Ty.ind with
  | h op n l ih =>
    by_cases ho : op = tVar
    · rw [tsub_var f ho, tsub_var _ ho]
    · rw [tsub_else f ho, tsub_else g ho, tsub_else _ ho, List.map_map]
      congr 1
      exact List.map_congr_left fun t ht => ih t ht
theorem tsub_id (t : Ty) : teach t = true → tsub tv t = t := by
  induction t using Ty.ind with
  | h op n l ih =>
    intro h
    by_cases ho : op = tVar
    · rw [tsub_var _ ho]
      subst ho
      rw [var_nil h]
      rfl
    · rw [tsub_else _ ho]
      congr 1
      rw [List.map_congr_left (g := id) fun t ht => ih t ht (teach_kids h t ht)]
      simp
theorem tsub_ren (f : Int → Int) (t : Ty) : teach t = true → tsub (fun x => tv (f x)) t = tren f t := by
  induction t using Ty.ind with
  | h op n l ih =>
    intro h
    by_cases ho : op = tVar
    · rw [tsub_var _ ho, tren_var f ho]
      subst ho
      rw [var_nil h]
      rfl
    · rw [tsub_else _ ho, tren_else f ho]
      congr 1
      exact List.map_congr_left fun t ht => ih t ht (teach_kids h t ht)
/-- What is a var behind new types for vars was a var ahead of them. -/
theorem tsub_is_var {g : Int → Ty} {t : Ty} {y : Int} (h : tsub g t = tv y) : ∃ n ks, t = .mk tVar n ks ∧ g n = tv y := by
  obtain ⟨op, n, l⟩ := t
  by_cases ho : op = tVar
  · rw [tsub_var g ho] at h
    subst ho
    exact ⟨n, l, rfl, h⟩
  · rw [tsub_else g ho] at h
    unfold tv at h
    injection h with h1
    exact absurd h1 ho
theorem tsub_fix {f : Int → Ty} (t : Ty) : teach t = true → tsub f t = t → ∀ x, tocc x t → f x = tv x := by
  induction t using Ty.ind with
  | h op n l ih =>
    intro h he x hx
    by_cases ho : op = tVar
    · rw [tsub_var _ ho] at he
      subst ho
      have hl := var_nil h
      subst hl
      rcases (tocc_eq x tVar n []).1 hx with ⟨-, rfl⟩ | ⟨t, ht, -⟩
      · exact he
      · cases ht
    · rw [tsub_else _ ho] at he
      rcases (tocc_eq x op n l).1 hx with ⟨h1, -⟩ | ⟨t, ht, hxt⟩
      · exact absurd h1 ho
      · refine ih t ht (teach_kids h t ht) ?_ x hxt
        injection he with _ _ he
        obtain ⟨j, hj, e⟩ := List.getElem_of_mem ht
        have h1 : (l.map (tsub f))[j]? = l[j]? := by rw [he]
        rw [List.getElem?_map, List.getElem?_eq_getElem hj, e] at h1
        simpa using h1
/-- What is had of a type is a type: so is what each of its vars is. -/
theorem teach_occ (f : Int → Ty) (t : Ty) : teach t = true → teach (tsub f t) = true → ∀ x, tocc x t → teach (f x) = true := by
  induction t using Ty.ind with
  | h op n l ih =>
    intro h hf x hx
    by_cases ho : op = tVar
    · rw [tsub_var _ ho] at hf
      subst ho
      have hl := var_nil h
      subst hl
      rcases (tocc_eq x tVar n []).1 hx with ⟨-, rfl⟩ | ⟨t, ht, -⟩
      · exact hf
      · cases ht
    · rw [tsub_else _ ho] at hf
      rcases (tocc_eq x op n l).1 hx with ⟨h1, -⟩ | ⟨t, ht, hxt⟩
      · exact absurd h1 ho
      · exact ih t ht (teach_kids h t ht) (teach_kids hf _ (List.mem_map.2 ⟨t, ht, rfl⟩)) x hxt
/-- Two types of which each is had from the other by types for vars are one, up to new names. -/
theorem tnorm_variants {a b : Ty} (ha : teach a = true) (hb : teach b = true) {f g : Int → Ty} (h1 : b = tsub f a) (h2 : a = tsub g b) : tnorm a = tnorm b := by
  have hfg : tsub (fun x => tsub g (f x)) a = a := by rw [← tsub_comp, ← h1, ← h2]
  have hfix := tsub_fix a ha hfg
  have hkids : ∀ x, tocc x a → ∃ y, f x = .mk tVar y ((f x).kids) ∧ g y = tv x := fun x hx => by
    obtain ⟨n, ks, e, hg⟩ := tsub_is_var (hfix x hx)
    exact ⟨n, by rw [e]; rfl, hg⟩
  have hnil : ∀ x, tocc x a → (f x).kids = [] := fun x hx => by
    obtain ⟨y, e, -⟩ := hkids x hx
    have ht := teach_occ f a ha (by rw [← h1]; exact hb) x hx
    rw [e] at ht ⊢
    exact var_nil ht
  have hn : ∀ x, tocc x a → f x = tv ((f x).n) := fun x hx => by
    obtain ⟨y, e, -⟩ := hkids x hx
    have hk := hnil x hx
    rw [hk] at e
    rw [e]
    rfl
  rw [tnorm_eq_iff ha hb]
  refine ⟨fun x => (f x).n, ?_, fun x y hx hy hxy => ?_⟩
  · rw [h1, ← tsub_ren _ a ha]
    exact tsub_congr a hn
  · have e1 := hfix x hx
    have e2 := hfix y hy
    simp only at e1 e2 hxy
    rw [hn x hx, hxy, ← hn y hy, e2] at e1
    unfold tv at e1
    injection e1 with _ e1
    exact e1.symm
end Go.Em9

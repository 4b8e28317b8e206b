/- Vars and what they are, one behind the other, as a list. No program is named here. -/
import Derived.Test.YtadhjnbhcenocaaMath9b
namespace Go.Em9
open Go.RowKit Go.Em5 Go.Em8

abbrev Said := List (Int × Ty)
/-- What a var is, by what was said. -/
def ofD (D : Said) : Int → Ty := D.foldl (fun s p => bind s p.1 p.2) tv
theorem ofD_nil : ofD [] = tv := rfl
theorem ofD_app (D : Said) (v : Int) (u : Ty) : ofD (D ++ [(v, u)]) = bind (ofD D) v u := by
  unfold ofD
  rw [List.foldl_append]
  rfl
/-- Each was said of a var of which nothing was said, of a type as it was by then, which does not have the var within. -/
inductive Good : Said → Prop where
  | nil : Good []
  | snoc {D : Said} {v : Int} {u : Ty} (h : Good D) (hv : 0 ≤ v) (hn : ofD D v = tv v) (hu : tsub (ofD D) u = u) (ht : teach u = true) (ho : ¬ tocc v u) : Good (D ++ [(v, u)])

theorem tv_fac (t : Int → Ty) : Fac t tv := fun x => tsub_tv t x
theorem Good.idem {D : Said} (h : Good D) : Fac (ofD D) (ofD D) := by
  induction h with
  | nil => exact tv_fac _
  | snoc h hv hn hu ht ho ih => rw [ofD_app]; exact bind_idem ih hn hu ht ho
/-- Whoever goes through it makes each var and its type one; and back. -/
theorem Good.sol {D : Said} (h : Good D) (t : Int → Ty) : Fac t (ofD D) ↔ ∀ p ∈ D, t p.1 = tsub t p.2 := by
  induction h with
  | nil => exact ⟨fun _ p hp => (by cases hp), fun _ => tv_fac _⟩
  | snoc h hv hn hu ht ho ih =>
    rename_i D v u
    rw [ofD_app, bind_fac hn, ih]
    constructor
    · rintro ⟨h1, h2⟩ p hp
      rcases List.mem_append.1 hp with hp | hp
      · exact h1 p hp
      · simp at hp; subst hp; exact h2
    · intro h1
      exact ⟨fun p hp => h1 p (List.mem_append.2 (.inl hp)), h1 (v, u) (List.mem_append.2 (.inr (by simp)))⟩
/-- What a var is that was spoken of. -/
theorem Good.key {D : Said} (h : Good D) {v : Int} {u : Ty} (hm : (v, u) ∈ D) : ofD D v = tsub (ofD D) u := (h.sol _).1 h.idem (v, u) hm
theorem Good.teach {D : Said} (h : Good D) : ∀ p ∈ D, 0 ≤ p.1 ∧ teach p.2 = true := by
  induction h with
  | nil => intro p hp; cases hp
  | snoc h hv hn hu ht ho ih =>
    intro p hp
    rcases List.mem_append.1 hp with hp | hp
    · exact ih p hp
    · simp at hp; subst hp; exact ⟨hv, ht⟩
/-- A var that was not spoken of is itself. -/
theorem Good.none {D : Said} (h : Good D) {x : Int} (hx : ∀ p ∈ D, p.1 ≠ x) : ofD D x = tv x := by
  induction h with
  | nil => rfl
  | snoc h hv hn hu ht ho ih =>
    rename_i D v u
    rw [ofD_app]
    unfold bind
    rw [ih (fun p hp => hx p (List.mem_append.2 (.inl hp))), tsub_tv]
    exact one_else u (fun e => hx (v, u) (List.mem_append.2 (.inr (by simp))) e.symm)
theorem tocc_tv (x y : Int) : tocc x (tv y) ↔ y = x := by
  unfold tv
  rw [tocc_eq]
  constructor
  · rintro (⟨-, h⟩ | ⟨t, ht, -⟩)
    · exact h
    · cases ht
  · intro h; exact .inl ⟨rfl, h⟩
theorem tocc_sub {s : Int → Ty} (a : Ty) : teach a = true → ∀ y, tocc y (tsub s a) → ∃ x, tocc x a ∧ tocc y (s x) := by
  induction a using Ty.ind with
  | h op n l ih =>
    intro ha y hy
    by_cases ho : op = tVar
    · rw [tsub_var s ho] at hy
      exact ⟨n, (tocc_eq n op n l).2 (.inl ⟨ho, rfl⟩), hy⟩
    · rw [tsub_else s ho] at hy
      rcases (tocc_eq y op n _).1 hy with ⟨h1, -⟩ | ⟨t, ht, hyt⟩
      · exact absurd h1 ho
      · obtain ⟨k, hk, rfl⟩ := List.mem_map.1 ht
        obtain ⟨x, h1, h2⟩ := ih k hk (teach_kids ha k hk) y hyt
        exact ⟨x, (tocc_eq x op n l).2 (.inr ⟨k, hk, h1⟩), h2⟩
theorem teach_nat {n : Int} {op : List Int} {l : List Ty} (h : Em8.teach (.mk op n l) = true) : 0 ≤ n := by
  simp only [Em8.teach, Bool.and_eq_true, decide_eq_true_eq] at h
  exact h.2.1
theorem occ_nat {a : Ty} (ha : Em8.teach a = true) {y : Int} (hy : tocc y a) : 0 ≤ y := by
  induction a using Ty.ind with
  | h op n l ih =>
    rcases (tocc_eq y op n l).1 hy with ⟨-, rfl⟩ | ⟨t, ht, hyt⟩
    · exact teach_nat ha
    · exact ih t ht (teach_kids ha t ht) hyt
theorem teach_subs {s : Int → Ty} (a : Ty) : Em8.teach a = true → (∀ y, tocc y a → Em8.teach (s y) = true) → Em8.teach (tsub s a) = true := by
  induction a using Ty.ind with
  | h op n l ih =>
    intro ha hs
    by_cases ho : op = tVar
    · rw [tsub_var s ho]; exact hs n ((tocc_eq n op n l).2 (.inl ⟨ho, rfl⟩))
    · rw [tsub_else s ho]
      refine teach_mk ha (by simp) fun t ht => ?_
      obtain ⟨k, hk, rfl⟩ := List.mem_map.1 ht
      exact ih k hk (teach_kids ha k hk) fun y hy => hs y ((tocc_eq y op n l).2 (.inr ⟨k, hk, hy⟩))
theorem Good.ofTeach {D : Said} (h : Good D) : ∀ x, 0 ≤ x → Em8.teach (ofD D x) = true := by
  induction h with
  | nil => intro x hx; simp [ofD_nil, tv, Em8.teach, teachs, hx]; decide
  | snoc h hv hn hu ht ho ih =>
    rename_i D v u
    intro x hx
    rw [ofD_app]
    exact teach_subs _ (ih x hx) fun y hy => teach_one ht y (occ_nat (ih x hx) hy)
/-- What was spoken of is nowhere any more. -/
theorem Good.gone {D : Said} (h : Good D) : ∀ p ∈ D, ∀ x, 0 ≤ x → ¬ tocc p.1 (ofD D x) := by
  induction h with
  | nil => intro p hp; cases hp
  | snoc h hv hn hu ht ho ih =>
    rename_i D v u
    intro p hp x hx hy
    rw [ofD_app] at hy
    obtain ⟨z, h1, h2⟩ := tocc_sub _ (h.ofTeach x hx) p.1 hy
    by_cases hz : z = v
    · subst hz
      rw [one_same] at h2
      rcases List.mem_append.1 hp with hp | hp
      · rw [← hu] at h2
        obtain ⟨q, h3, h4⟩ := tocc_sub u ht p.1 h2
        exact ih p hp q (occ_nat ht h3) h4
      · simp at hp; subst hp; exact ho h2
    · rw [one_else u hz, tocc_tv] at h2
      subst h2
      rcases List.mem_append.1 hp with hp | hp
      · exact ih p hp x hx h1
      · simp at hp; subst hp; exact hz rfl
/-- The vars of a type that were spoken of were so at the place k or behind it. -/
def From (D : Said) (k : Nat) (t : Ty) : Prop := ∀ (j : Nat) (v : Int) (u : Ty), D[j]? = some (v, u) → tocc v t → k ≤ j
theorem From.zero (D : Said) (t : Ty) : From D 0 t := fun _ _ _ _ _ => Nat.zero_le _
theorem From.kid {D : Said} {k : Nat} {op : List Int} {n : Int} {l : List Ty} (h : From D k (.mk op n l)) {t : Ty} (ht : t ∈ l) : From D k t := fun j v u hj hv => h j v u hj ((tocc_eq v op n l).2 (.inr ⟨t, ht, hv⟩))
/-- What a var was said to be speaks of later ones alone. -/
theorem Good.later {D : Said} (h : Good D) : ∀ (i : Nat) (v : Int) (u : Ty), D[i]? = some (v, u) → From D (i + 1) u := by
  induction h with
  | nil => intro i v u hi; simp at hi
  | snoc h hv hn hu ht ho ih =>
    rename_i D v u
    intro i x t hi j y z hj hy
    have hjl : j < (D ++ [(v, u)]).length := (List.getElem?_eq_some_iff.1 hj).1
    have hil : i < (D ++ [(v, u)]).length := (List.getElem?_eq_some_iff.1 hi).1
    simp only [List.length_append, List.length_cons, List.length_nil] at hjl hil
    by_cases hi1 : i < D.length
    · rw [List.getElem?_append_left hi1] at hi
      by_cases hj1 : j < D.length
      · rw [List.getElem?_append_left hj1] at hj
        exact ih i x t hi j y z hj hy
      · omega
    · have hie : i = D.length := by omega
      subst hie
      rw [List.getElem?_append_right (Nat.le_refl _)] at hi
      simp at hi
      obtain ⟨rfl, rfl⟩ := hi
      by_cases hj1 : j < D.length
      · rw [List.getElem?_append_left hj1] at hj
        rw [← hu] at hy
        obtain ⟨q, h3, h4⟩ := tocc_sub u ht y hy
        exact absurd h4 (h.gone (y, z) (List.mem_of_getElem? hj) q (occ_nat ht h3))
      · have hje : j = D.length := by omega
        subst hje
        rw [List.getElem?_append_right (Nat.le_refl _)] at hj
        simp at hj
        obtain ⟨rfl, rfl⟩ := hj
        exact absurd hy ho
/-- One more is said. -/
theorem Good.say {D : Said} (h : Good D) {v : Int} {u : Ty} (hv : 0 ≤ v) (hn : ofD D v = tv v) (hu : tsub (ofD D) u = u) (ht : Em8.teach u = true) (ho : ¬ tocc v u) : Good (D ++ [(v, u)]) ∧ ∀ t, Fac t (ofD (D ++ [(v, u)])) ↔ Fac t (ofD D) ∧ t v = tsub t u :=
  ⟨.snoc h hv hn hu ht ho, fun t => by rw [ofD_app]; exact bind_fac hn⟩
/-- What is as it is by what was said stays so. -/
theorem Good.of_of {D : Said} (h : Good D) (a : Ty) : tsub (ofD D) (tsub (ofD D) a) = tsub (ofD D) a := h.idem.term a
end Go.Em9

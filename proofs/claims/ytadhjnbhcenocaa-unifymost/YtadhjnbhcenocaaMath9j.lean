/- Types put for vars (UnifyMost): what makes a type and the same with types without vars in it one, gives them. -/
import Derived.Test.YtadhjnbhcenocaaMath9e
import Derived.Test.YtadhjnbhcenocaaMath8c
namespace Go.Em9
open Go.Em8
set_option linter.unusedVariables false

/-- What is put for vars, as a substitution. -/
def putS (L : List Int) (bs : List Ty) : Int → Ty := fun x => if x ∈ L then bs[L.idxOf x]?.getD (tv x) else tv x
theorem sub_put (L : List Int) (bs : List Ty) (a : Ty) : teach a = true → tsub (putS L bs) a = tput L bs a := by
  induction a using Ty.ind with
  | h op n l ih =>
    intro ha
    by_cases ho : op = tVar
    · subst ho
      have hl := var_nil ha
      subst hl
      rw [tsub_var _ rfl, tput_var rfl]
      rfl
    · rw [tsub_else _ ho, tput_else ho]
      congr 1
      exact List.map_congr_left fun t ht => ih t ht (teach_kids ha t ht)
/-- A type that two substitutions make the same has each of its vars made the same. -/
theorem sub_inj {f g : Int → Ty} (a : Ty) : teach a = true → tsub f a = tsub g a → ∀ x, tocc x a → f x = g x := by
  induction a using Ty.ind with
  | h op n l ih =>
    intro ha h x hx
    by_cases ho : op = tVar
    · subst ho
      have hl := var_nil ha
      subst hl
      rw [tsub_var _ rfl, tsub_var _ rfl] at h
      rw [tocc_eq] at hx
      rcases hx with ⟨-, rfl⟩ | ⟨t, ht, -⟩
      · exact h
      · cases ht
    · rw [tsub_else _ ho, tsub_else _ ho] at h
      simp only [Ty.mk.injEq, true_and] at h
      rw [tocc_eq] at hx
      rcases hx with ⟨h1, -⟩ | ⟨t, ht, hx⟩
      · exact absurd h1 ho
      · exact ih t ht (teach_kids ha t ht) (List.map_inj_left.1 h t ht) x hx
/-- No vars: no substitution turns it. -/
theorem sub_ground {f : Int → Ty} {b : Ty} (hb : teach b = true) (h : tvars b [] = []) : tsub f b = b := by
  have : tsub f b = tsub tv b := tsub_congr b fun x hx => by
    have := (tvars_iff b [] x).2 (.inr hx)
    rw [h] at this; cases this
  rw [this, tsub_id b hb]
theorem put_at {L : List Int} {bs : List Ty} (hn : L.Nodup) (hl : bs.length = L.length) {j : Nat} {x : Int} {b : Ty} (hx : L[j]? = some x) (hb : bs[j]? = some b) : putS L bs x = b := by
  have hm : x ∈ L := List.mem_of_getElem? hx
  have hi : L.idxOf x = j := by
    obtain ⟨h1, h2⟩ := List.getElem?_eq_some_iff.1 hx
    rw [← h2]; exact hn.idxOf_getElem j h1
  unfold putS
  rw [if_pos hm, hi, hb]; rfl
theorem putS_ground {L : List Int} {bs : List Ty} (hl : bs.length = L.length) (hg : ∀ b ∈ bs, teach b = true ∧ tvars b [] = []) {x : Int} (hx : x ∈ L) : teach (putS L bs x) = true ∧ tvars (putS L bs x) [] = [] := by
  have hi : L.idxOf x < bs.length := by rw [hl]; exact List.idxOf_lt_length_iff.2 hx
  unfold putS
  rw [if_pos hx, List.getElem?_eq_getElem hi]
  exact hg _ (List.getElem_mem hi)
section
variable {a : Ty} {bs : List Ty}
theorem put_ok (ha : teach a = true) (hl : bs.length = (tvars a []).length) (hg : ∀ b ∈ bs, teach b = true ∧ tvars b [] = []) : teach (tput (tvars a []) bs a) = true ∧ tvars (tput (tvars a []) bs a) [] = [] := by
  rw [← sub_put _ _ a ha]
  refine ⟨teach_subs a ha fun y hy => (putS_ground hl hg ((tvars_iff a [] y).2 (.inr hy))).1, ?_⟩
  apply List.eq_nil_iff_forall_not_mem.2
  intro y hy
  have ho := ((tvars_iff _ [] y).1 hy).resolve_left (by simp)
  obtain ⟨x, hx, hxy⟩ := tocc_sub a ha y ho
  have := (putS_ground hl hg ((tvars_iff a [] x).2 (.inr hx))).2
  have h2 := (tvars_iff (putS (tvars a []) bs x) [] y).2 (.inr hxy)
  rw [this] at h2; cases h2
theorem put_could (ha : teach a = true) (hl : bs.length = (tvars a []).length) (hg : ∀ b ∈ bs, teach b = true ∧ tvars b [] = []) : ∃ t, Fac t tv ∧ tsub t a = tsub t (tput (tvars a []) bs a) := by
  obtain ⟨h1, h2⟩ := put_ok ha hl hg
  exact ⟨putS (tvars a []) bs, tv_fac _, by rw [sub_ground h1 h2, sub_put _ _ a ha]⟩
theorem put_made (ha : teach a = true) (hl : bs.length = (tvars a []).length) (hg : ∀ b ∈ bs, teach b = true ∧ tvars b [] = []) {d : Int → Ty} (hd : Fac d d) (h : ∀ t, Fac t d ↔ Fac t tv ∧ tsub t a = tsub t (tput (tvars a []) bs a)) :
    tsub d a = tput (tvars a []) bs a ∧ ∀ (j : Nat) (x : Int) (b : Ty), (tvars a [])[j]? = some x → bs[j]? = some b → tsub d (tv x) = b := by
  obtain ⟨h1, h2⟩ := put_ok ha hl hg
  have e : tsub d a = tput (tvars a []) bs a := by rw [((h d).1 hd).2, sub_ground h1 h2]
  refine ⟨e, fun j x b hx hb => ?_⟩
  have ho : tocc x a := ((tvars_iff a [] x).1 (List.mem_of_getElem? hx)).resolve_left (by simp)
  rw [tsub_tv, sub_inj a ha (e.trans (sub_put _ _ a ha).symm) x ho]
  exact put_at (tvars_nodup a [] (by simp)) hl hx hb
end
/-- How large a type is by then. -/
theorem sub_size_le {f : Int → Ty} {M : Nat} (hM : 1 ≤ M) (a : Ty) : teach a = true → (∀ x, tocc x a → (f x).size ≤ M) → (tsub f a).size ≤ a.size * M := by
  induction a using Ty.ind with
  | h op n l ih =>
    intro ha h
    by_cases ho : op = tVar
    · subst ho
      have hl := var_nil ha
      subst hl
      rw [tsub_var _ rfl]
      have := h n ((tocc_eq n tVar n []).2 (.inl ⟨rfl, rfl⟩))
      simp [Ty.size, tsizes]; exact this
    · rw [tsub_else _ ho]
      have key : ∀ l : List Ty, (∀ t ∈ l, (tsub f t).size ≤ t.size * M) → tsizes (l.map (tsub f)) ≤ tsizes l * M := by
        intro l
        induction l with
        | nil => intro _; simp [tsizes]
        | cons t r ihr =>
          intro hh
          have h1 := hh t (by simp)
          have h2 := ihr fun u hu => hh u (by simp [hu])
          simp only [List.map_cons, tsizes]
          rw [Nat.add_mul]; omega
      have hk := key l fun t ht => ih t ht (teach_kids ha t ht) fun x hx => h x ((tocc_eq x op n l).2 (.inr ⟨t, ht, hx⟩))
      simp only [Ty.size]
      rw [Nat.add_mul]; omega
theorem put_size {a : Ty} {bs : List Ty} {M : Nat} (hM : 1 ≤ M) (ha : teach a = true) (hl : bs.length = (tvars a []).length) (hg : ∀ b ∈ bs, b.size ≤ M) : (tput (tvars a []) bs a).size ≤ a.size * M := by
  rw [← sub_put _ _ a ha]
  refine sub_size_le hM a ha fun x hx => ?_
  have hm : x ∈ tvars a [] := (tvars_iff a [] x).2 (.inr hx)
  have hi : (tvars a []).idxOf x < bs.length := by rw [hl]; exact List.idxOf_lt_length_iff.2 hm
  unfold putS
  rw [if_pos hm, List.getElem?_eq_getElem hi]
  exact hg _ (List.getElem_mem hi)
end Go.Em9

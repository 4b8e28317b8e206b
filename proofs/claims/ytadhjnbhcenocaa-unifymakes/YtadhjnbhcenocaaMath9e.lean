/- What Unify's cases make: a var on either side, kinds that differ, kids one behind the other; how many vars can be spoken of. No program is named here. -/
import Derived.Test.YtadhjnbhcenocaaMath9d
namespace Go.Em9
open Go.RowKit Go.Em5 Go.Em8

theorem left_nil : ∀ U : List Int, left U [] = U.length
  | [] => rfl
  | x :: r => by simp only [left, List.length_cons, left_nil r]; simp [spoken]; omega
theorem len_left {U : List Int} {D : Said} (h : Good D) : Din U D → D.length + left U D ≤ U.length := by
  induction h with
  | nil => intro _; rw [left_nil]; simp
  | snoc h hv hn hu ht ho ih =>
    rename_i D v u
    intro hd
    have h1 := ih (fun p hp => hd p (List.mem_append.2 (.inl hp)))
    have h2 := left_lt u (h.unspoken hv hn) U (hd (v, u) (List.mem_append.2 (.inr (by simp)))).1
    simp only [List.length_append, List.length_cons, List.length_nil]
    omega
theorem nodup_len : ∀ (l U : List Int), l.Nodup → (∀ x ∈ l, x ∈ U) → l.length ≤ U.length
  | [], _, _, _ => by simp
  | x :: r, U, hn, hm => by
    have hx : x ∈ U := hm x (by simp)
    have hn2 := List.nodup_cons.1 hn
    have h1 := nodup_len r (U.erase x) hn2.2 fun y hy => (List.mem_erase_of_ne (fun e => hn2.1 (by rw [← e]; exact hy))).2 (hm y (by simp [hy]))
    rw [List.length_erase_of_mem hx] at h1
    have : 0 < U.length := List.length_pos_of_mem hx
    simp only [List.length_cons]
    omega
/-- The vars of a type are not many. -/
theorem vars_len {U : List Int} {a : Ty} (h : Vin U a) : (tvars a []).length ≤ U.length :=
  nodup_len _ U (tvars_nodup a [] (by simp)) fun x hx => h x (by rcases (tvars_iff a [] x).1 hx with h | h; cases h; exact h)

/-! ### A var on one side -/
section
variable {D : Said} {a b : Ty} {x : Int}
theorem var_form {A : Ty} (hA : Em8.teach A = true) (ho : A.op = tVar) : A = tv A.n := by
  obtain ⟨op, n, l⟩ := A
  have ho : op = tVar := ho
  subst ho
  rw [var_nil hA]; rfl
theorem of_teach (h : Good D) (ha : Em8.teach a = true) : Em8.teach (tsub (ofD D) a) = true := teach_subs a ha fun y hy => h.ofTeach y (occ_nat ha hy)
/-- Both are one var. -/
theorem uni_same (h : Good D) (hx : tsub (ofD D) a = tv x) (hb : Em8.teach b = true) (ho : tocc x (tsub (ofD D) b)) (hv : (tsub (ofD D) b).op = tVar) : Made D D (fun t => tsub t a = tsub t b) := by
  refine Made.refl h fun t ht => ?_
  rw [← eq_of t ht, hx]
  have e := var_form (of_teach h hb) hv
  rw [e, tocc_tv] at ho
  rw [e, ho]
/-- The var is within. -/
theorem uni_within (h : Good D) (hx : tsub (ofD D) a = tv x) (hb : Em8.teach b = true) (ho : tocc x (tsub (ofD D) b)) (hv : (tsub (ofD D) b).op ≠ tVar) : Never D (fun t => tsub t a = tsub t b) :=
  (say_within (D := D) (of_teach h hb) hv ho).congr fun t ht => by rw [← eq_of t ht, hx, tsub_tv]
/-- The var is said to be the other. -/
theorem uni_say (h : Good D) (ha : Em8.teach a = true) (hx : tsub (ofD D) a = tv x) (hb : Em8.teach b = true) (ho : ¬ tocc x (tsub (ofD D) b)) : Made D (D ++ [(x, tsub (ofD D) b)]) (fun t => tsub t a = tsub t b) := by
  obtain ⟨h0, h1⟩ := still_var h ha hx
  exact (say_new h h0 h1 (h.of_of b) (of_teach h hb) ho).congr fun t ht => by rw [← eq_of t ht, hx, tsub_tv]
theorem uni_left {U : List Int} (h : Good D) (hd : Din U D) (ha : Em8.teach a = true) (hx : tsub (ofD D) a = tv x) (hb : Em8.teach b = true) (hva : Vin U a) (hvb : Vin U b) : Din U (D ++ [(x, tsub (ofD D) b)]) ∧ left U (D ++ [(x, tsub (ofD D) b)]) < left U D := by
  obtain ⟨h0, h1⟩ := still_var h ha hx
  have hxU : x ∈ U := hd.sub h ha hva x (by rw [hx, tocc_tv])
  exact ⟨hd.app hxU (hd.sub h hb hvb), left_lt _ (h.unspoken h0 h1) U hxU⟩
end
theorem Made.flip {D D' : Said} {a b : Ty} (h : Made D D' (fun t => tsub t b = tsub t a)) : Made D D' (fun t => tsub t a = tsub t b) := h.congr fun _ _ => ⟨Eq.symm, Eq.symm⟩
theorem Never.flip {D : Said} {a b : Ty} (h : Never D (fun t => tsub t b = tsub t a)) : Never D (fun t => tsub t a = tsub t b) := h.congr fun _ _ => ⟨Eq.symm, Eq.symm⟩

/-! ### Kids -/
section
variable {D Dj D' : Said} {a b x y : Ty} {op op' : List Int} {n n' : Int} {l l' : List Ty} {j : Nat}
theorem uni_kinds (hA : tsub (ofD D) a = .mk op n l) (hB : tsub (ofD D) b = .mk op' n' l') (h1 : op ≠ tVar) (h2 : op' ≠ tVar) (hd : op ≠ op' ∨ l.length ≠ l'.length) : Never D (fun t => tsub t a = tsub t b) :=
  (kinds_never (D := D) (n := n) (n' := n') h1 h2 hd).congr fun t ht => by rw [← hA, ← hB, eq_of t ht]
theorem uni_zero (h : Good D) : Made D D (kidsEq l l' 0) := Made.refl h fun t _ => kids_zero l l' t
theorem uni_step (hx : l[j]? = some x) (hy : l'[j]? = some y) (h : Made D Dj (kidsEq l l' j)) (k : Made Dj D' (fun t => tsub t x = tsub t y)) : Made D D' (kidsEq l l' (j + 1)) :=
  (h.trans k).congr fun t _ => (kids_succ hx hy t).symm
theorem uni_all (hg : Good D) (ha : Em8.teach a = true) (hb : Em8.teach b = true) (hA : tsub (ofD D) a = .mk op n l) (hB : tsub (ofD D) b = .mk op n' l') (h1 : op ≠ tVar) (hl : l.length = l'.length) (h : Made D D' (kidsEq l l' l.length)) : Made D D' (fun t => tsub t a = tsub t b) := by
  have t1 := of_teach hg ha
  have t2 := of_teach hg hb
  rw [hA] at t1
  rw [hB] at t2
  refine h.congr fun t ht => ?_
  rw [kids_all h1 ((num_nil t1 h1).trans (num_nil t2 h1).symm) hl t, ← hA, ← hB, eq_of t ht]
theorem uni_never (hg : Good D) (ha : Em8.teach a = true) (hb : Em8.teach b = true) (hA : tsub (ofD D) a = .mk op n l) (hB : tsub (ofD D) b = .mk op n' l') (h1 : op ≠ tVar) (hl : l.length = l'.length) (hx : l[j]? = some x) (hy : l'[j]? = some y) (h : Made D Dj (kidsEq l l' j)) (k : Never Dj (fun t => tsub t x = tsub t y)) : Never D (fun t => tsub t a = tsub t b) := by
  have t1 := of_teach hg ha
  have t2 := of_teach hg hb
  rw [hA] at t1
  rw [hB] at t2
  have hj := (List.getElem?_eq_some_iff.1 hx).1
  intro t ht e
  rw [← eq_of t ht, hA, hB, ← kids_all h1 ((num_nil t1 h1).trans (num_nil t2 h1).symm) hl t] at e
  exact (h.never k) t ht ⟨fun i p q hi hp hq => e i p q (by omega) hp hq, e j x y hj hx hy⟩
/-- A kid of what is as it is by then is smaller. -/
theorem uni_smaller (hg : Good D) (hA : tsub (ofD D) a = .mk op n l) (h1 : op ≠ tVar) (hx : x ∈ l) : (tsub (ofD D) x).size < (tsub (ofD D) a).size := by
  have h2 := hg.of_of a
  rw [hA] at h2
  rw [still_kid h1 h2 hx, hA, Ty.size]
  have := tsizes_mem l x hx
  omega
end
end Go.Em9

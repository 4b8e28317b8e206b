/- What Unify makes, step by step; how many vars are left of which nothing was said. No program is named here. -/
import Derived.Test.YtadhjnbhcenocaaMath9c
namespace Go.Em9
open Go.RowKit Go.Em5 Go.Em8

/-- From D to D' just P was made. -/
def Made (D D' : Said) (P : (Int → Ty) → Prop) : Prop := Good D' ∧ ∀ t, Fac t (ofD D') ↔ Fac t (ofD D) ∧ P t
/-- P can not be made. -/
def Never (D : Said) (P : (Int → Ty) → Prop) : Prop := ∀ t, Fac t (ofD D) → ¬ P t
theorem Made.refl {D : Said} (h : Good D) {P : (Int → Ty) → Prop} (hp : ∀ t, Fac t (ofD D) → P t) : Made D D P := ⟨h, fun t => ⟨fun ht => ⟨ht, hp t ht⟩, fun ht => ht.1⟩⟩
theorem Made.trans {D D1 D2 : Said} {P Q : (Int → Ty) → Prop} (h : Made D D1 P) (k : Made D1 D2 Q) : Made D D2 (fun t => P t ∧ Q t) :=
  ⟨k.1, fun t => by rw [k.2, h.2]; exact ⟨fun ⟨⟨a, b⟩, c⟩ => ⟨a, b, c⟩, fun ⟨a, b, c⟩ => ⟨⟨a, b⟩, c⟩⟩⟩
theorem Made.never {D D1 : Said} {P Q : (Int → Ty) → Prop} (h : Made D D1 P) (k : Never D1 Q) : Never D (fun t => P t ∧ Q t) := fun t ht ⟨hp, hq⟩ => k t ((h.2 t).2 ⟨ht, hp⟩) hq
theorem Made.congr {D D1 : Said} {P Q : (Int → Ty) → Prop} (h : Made D D1 P) (e : ∀ t, Fac t (ofD D) → (P t ↔ Q t)) : Made D D1 Q :=
  ⟨h.1, fun t => by rw [h.2]; exact ⟨fun ⟨a, b⟩ => ⟨a, (e t a).1 b⟩, fun ⟨a, b⟩ => ⟨a, (e t a).2 b⟩⟩⟩
theorem Never.congr {D : Said} {P Q : (Int → Ty) → Prop} (h : Never D P) (e : ∀ t, Fac t (ofD D) → (P t ↔ Q t)) : Never D Q := fun t ht hq => h t ht ((e t ht).2 hq)
/-- Two that made the same make the same of a type, up to new names. -/
theorem made_norm {D D' : Said} (h : Good D) (h' : Good D') (hs : ∀ t, Fac t (ofD D) ↔ Fac t (ofD D')) {a : Ty} (ha : Em8.teach a = true) : tnorm (tsub (ofD D) a) = tnorm (tsub (ofD D') a) :=
  fac_norm ((hs _).1 h.idem) ((hs _).2 h'.idem) (teach_subs a ha fun y hy => h.ofTeach y (occ_nat ha hy)) (teach_subs a ha fun y hy => h'.ofTeach y (occ_nat ha hy))
/-- Types as they are by then are made one just if they themselves are. -/
theorem eq_of {D : Said} {a b : Ty} (t : Int → Ty) (ht : Fac t (ofD D)) : tsub t (tsub (ofD D) a) = tsub t (tsub (ofD D) b) ↔ tsub t a = tsub t b := by rw [ht.term, ht.term]
theorem eq_made {D D' : Said} {a b : Ty} (h : Made D D' (fun t => tsub t a = tsub t b)) : tsub (ofD D') a = tsub (ofD D') b := ((h.2 _).1 h.1.idem).2

/-! ### A var, and a type -/
theorem say_same {D : Said} (h : Good D) (v : Int) : Made D D (fun t => t v = tsub t (tv v)) := Made.refl h fun t _ => (tsub_tv t v).symm
theorem say_within {D : Said} {v : Int} {u : Ty} (hu : Em8.teach u = true) (ho : u.op ≠ tVar) (h : tocc v u) : Never D (fun t => t v = tsub t u) := fun t _ => occ_no hu ho h t
theorem say_new {D : Said} (h : Good D) {v : Int} {u : Ty} (hv : 0 ≤ v) (hn : ofD D v = tv v) (hu : tsub (ofD D) u = u) (ht : Em8.teach u = true) (ho : ¬ tocc v u) : Made D (D ++ [(v, u)]) (fun t => t v = tsub t u) := h.say hv hn hu ht ho

/-! ### Kids -/
theorem kinds_never {D : Said} {op op' : List Int} {n n' : Int} {l l' : List Ty} (h : op ≠ tVar) (h' : op' ≠ tVar) (hd : op ≠ op' ∨ l.length ≠ l'.length) : Never D (fun t => tsub t (.mk op n l) = tsub t (.mk op' n' l')) := fun t _ e => by
  obtain ⟨e1, -, e3⟩ := (sub_kinds h h').1 e
  rcases hd with hd | hd
  · exact hd e1
  · exact hd (by simpa using congrArg List.length e3)
/-- A type that is no var has the number nought. -/
theorem num_nil {op : List Int} {n : Int} {l : List Ty} (h : Em8.teach (.mk op n l) = true) (ho : op ≠ tVar) : n = 0 := by
  simp only [Em8.teach, Bool.and_eq_true, Bool.or_eq_true, decide_eq_true_eq] at h
  rcases h.2.2.1 with h | h
  · exact absurd h ho
  · exact h
/-- The first so many kids are made one. -/
def kidsEq (l l' : List Ty) (j : Nat) (t : Int → Ty) : Prop := ∀ i a b, i < j → l[i]? = some a → l'[i]? = some b → tsub t a = tsub t b
theorem kids_zero (l l' : List Ty) (t : Int → Ty) : kidsEq l l' 0 t := fun i _ _ h => by omega
theorem kids_succ {l l' : List Ty} {j : Nat} {a b : Ty} (ha : l[j]? = some a) (hb : l'[j]? = some b) (t : Int → Ty) : kidsEq l l' (j + 1) t ↔ kidsEq l l' j t ∧ tsub t a = tsub t b := by
  constructor
  · intro h
    exact ⟨fun i x y hi hx hy => h i x y (by omega) hx hy, h j a b (by omega) ha hb⟩
  · rintro ⟨h1, h2⟩ i x y hi hx hy
    by_cases e : i = j
    · subst e
      rw [ha] at hx; rw [hb] at hy
      cases hx; cases hy
      exact h2
    · exact h1 i x y (by omega) hx hy
theorem kids_all {op : List Int} {n n' : Int} {l l' : List Ty} (ho : op ≠ tVar) (hn : n = n') (hl : l.length = l'.length) (t : Int → Ty) : kidsEq l l' l.length t ↔ tsub t (.mk op n l) = tsub t (.mk op n' l') := by
  rw [sub_kinds ho ho]
  constructor
  · intro h
    refine ⟨rfl, hn, List.ext_getElem? fun i => ?_⟩
    rw [List.getElem?_map, List.getElem?_map]
    by_cases hi : i < l.length
    · rw [List.getElem?_eq_getElem hi, List.getElem?_eq_getElem (by omega)]
      simp only [Option.map_some, Option.some.injEq]
      exact h i _ _ hi (List.getElem?_eq_getElem hi) (List.getElem?_eq_getElem (by omega))
    · rw [List.getElem?_eq_none (by omega), List.getElem?_eq_none (by omega)]
  · rintro ⟨-, -, e⟩ i a b hi ha hb
    have := congrArg (fun L => L[i]?) e
    simp only [List.getElem?_map, ha, hb, Option.map_some, Option.some.injEq] at this
    exact this
/-- What is as it is by then has kids that are. -/
theorem still_kid {s : Int → Ty} {op : List Int} {n : Int} {l : List Ty} (ho : op ≠ tVar) (h : tsub s (.mk op n l) = .mk op n l) {t : Ty} (ht : t ∈ l) : tsub s t = t := by
  rw [tsub_else s ho] at h
  injection h with _ _ h
  obtain ⟨j, hj, e⟩ := List.getElem_of_mem ht
  have h1 : (l.map (tsub s))[j]? = l[j]? := by rw [h]
  rw [List.getElem?_map, List.getElem?_eq_getElem hj, e] at h1
  simpa using h1
/-- A var that is as it is by then was not spoken of. -/
theorem still_var {D : Said} {a : Ty} (h : Good D) (ha : Em8.teach a = true) {x : Int} (hx : tsub (ofD D) a = tv x) : 0 ≤ x ∧ ofD D x = tv x := by
  have h1 := h.of_of a
  rw [hx, tsub_tv] at h1
  refine ⟨occ_nat (a := tv x) ?_ ((tocc_tv x x).2 rfl), h1⟩
  rw [← hx]
  exact teach_subs a ha fun y hy => h.ofTeach y (occ_nat ha hy)

/-! ### How many vars are left -/
def Vin (U : List Int) (a : Ty) : Prop := ∀ x, tocc x a → x ∈ U
def Din (U : List Int) (D : Said) : Prop := ∀ p ∈ D, p.1 ∈ U ∧ Vin U p.2
/-- Was it spoken of? -/
def spoken (D : Said) (x : Int) : Bool := D.any fun p => decide (p.1 = x)
theorem spoken_app (D E : Said) (x : Int) : spoken (D ++ E) x = (spoken D x || spoken E x) := List.any_append
/-- How many of these were not spoken of. -/
def left : List Int → Said → Nat
  | [], _ => 0
  | x :: r, D => (if spoken D x then 0 else 1) + left r D
theorem left_le (D E : Said) : ∀ U : List Int, left U (D ++ E) ≤ left U D
  | [] => Nat.le_refl _
  | x :: r => by
    have := left_le D E r
    simp only [left, spoken_app]
    cases spoken D x <;> cases spoken E x <;> simp <;> omega
theorem left_lt {D : Said} {v : Int} (u : Ty) (hn : spoken D v = false) : ∀ U : List Int, v ∈ U → left U (D ++ [(v, u)]) < left U D
  | [], h => by cases h
  | x :: r, h => by
    have hle := left_le D [(v, u)] r
    simp only [left, spoken_app]
    by_cases hx : v = x
    · subst hx
      have h1 : spoken [(v, u)] v = true := by simp [spoken]
      rw [hn, h1]
      simp
      omega
    · have hr : v ∈ r := by
        rcases List.mem_cons.1 h with h | h
        · exact absurd h hx
        · exact h
      have h2 := left_lt u hn r hr
      have h1 : spoken [(v, u)] x = false := by simp [spoken, hx]
      rw [h1, Bool.or_false]
      omega
theorem spoken_no {D : Said} {x : Int} (h : spoken D x = false) : ∀ p ∈ D, p.1 ≠ x := fun p hp e => by
  have : spoken D x = true := List.any_eq_true.2 ⟨p, hp, decide_eq_true e⟩
  rw [h] at this
  cases this
theorem spoken_yes {D : Said} {x : Int} (h : spoken D x = true) : ∃ u, (x, u) ∈ D := by
  obtain ⟨p, hp, e⟩ := List.any_eq_true.1 h
  have e : p.1 = x := of_decide_eq_true e
  exact ⟨p.2, by rw [← e]; exact hp⟩
/-- A var that is itself was not spoken of. -/
theorem Good.unspoken {D : Said} (h : Good D) {x : Int} (hx : 0 ≤ x) (hn : ofD D x = tv x) : spoken D x = false := by
  cases hs : spoken D x with
  | false => rfl
  | true =>
    obtain ⟨u, hu⟩ := spoken_yes hs
    exact absurd (by rw [hn, tocc_tv]) (h.gone (x, u) hu x hx)
theorem Din.of {U : List Int} {D : Said} (h : Good D) (hd : Din U D) : ∀ x, x ∈ U → 0 ≤ x → Vin U (ofD D x) := by
  induction h with
  | nil =>
    intro x hx _ y hy
    rw [ofD_nil, tocc_tv] at hy
    subst hy
    exact hx
  | snoc h hv hn hu ht ho ih =>
    rename_i D v u
    intro x hx hx0 y hy
    rw [ofD_app] at hy
    obtain ⟨z, h1, h2⟩ := tocc_sub _ (h.ofTeach x hx0) y hy
    have hd' : Din U D := fun p hp => hd p (List.mem_append.2 (.inl hp))
    by_cases hz : z = v
    · subst hz
      rw [one_same] at h2
      exact (hd (z, u) (List.mem_append.2 (.inr (by simp)))).2 y h2
    · rw [one_else u hz, tocc_tv] at h2
      subst h2
      exact ih hd' x hx hx0 z h1
theorem Din.sub {U : List Int} {D : Said} (h : Good D) (hd : Din U D) {a : Ty} (ha : Em8.teach a = true) (hv : Vin U a) : Vin U (tsub (ofD D) a) := fun y hy => by
  obtain ⟨x, h1, h2⟩ := tocc_sub a ha y hy
  exact hd.of h x (hv x h1) (occ_nat ha h1) y h2
theorem Din.app {U : List Int} {D : Said} (hd : Din U D) {v : Int} {u : Ty} (hv : v ∈ U) (hu : Vin U u) : Din U (D ++ [(v, u)]) := fun p hp => by
  rcases List.mem_append.1 hp with hp | hp
  · exact hd p hp
  · simp at hp; subst hp; exact ⟨hv, hu⟩
end Go.Em9

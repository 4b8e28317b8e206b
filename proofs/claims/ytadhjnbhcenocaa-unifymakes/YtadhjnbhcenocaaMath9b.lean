/- What makes types one: whoever goes through it, a var that is said to be a type, what can not be made one. No program is named here. -/
import Derived.Test.YtadhjnbhcenocaaMath9
namespace Go.Em9
open Go.RowKit Go.Em5 Go.Em8

/-- t goes through s: what t makes of a var it makes of what s makes of it. -/
def Fac (t s : Int → Ty) : Prop := ∀ x, tsub t (s x) = t x
theorem tsub_tv (s : Int → Ty) (x : Int) : tsub s (tv x) = s x := tsub_var s rfl
theorem Fac.term {t s : Int → Ty} (h : Fac t s) (a : Ty) : tsub t (tsub s a) = tsub t a := by
  rw [tsub_comp]
  exact tsub_congr a fun x _ => h x
/-- Two that go through one another make the same of a type, up to new names. -/
theorem fac_norm {s t : Int → Ty} (h1 : Fac s t) (h2 : Fac t s) {a : Ty} (hs : teach (tsub s a) = true) (ht : teach (tsub t a) = true) : tnorm (tsub s a) = tnorm (tsub t a) :=
  tnorm_variants hs ht (f := t) (g := s) (h2.term a).symm (h1.term a).symm

/-- One var is a type. -/
def one (v : Int) (u : Ty) : Int → Ty := fun x => if x = v then u else tv x
theorem one_same (v : Int) (u : Ty) : one v u v = u := if_pos rfl
theorem one_else {v x : Int} (u : Ty) (h : x ≠ v) : one v u x = tv x := if_neg h
theorem one_free {v : Int} {u a : Ty} (ha : teach a = true) (h : ¬ tocc v a) : tsub (one v u) a = a := by
  have key : ∀ x, tocc x a → one v u x = tv x := fun x hx => one_else u (by rintro rfl; exact h hx)
  rw [tsub_congr a key, tsub_id a ha]
theorem one_fac {t : Int → Ty} {v : Int} {u : Ty} (h : t v = tsub t u) : Fac t (one v u) := fun x => by
  by_cases e : x = v
  · subst e; rw [one_same]; exact h.symm
  · rw [one_else u e, tsub_tv]
/-- Types for vars, with one var more that is a type. -/
def bind (s : Int → Ty) (v : Int) (u : Ty) : Int → Ty := fun x => tsub (one v u) (s x)
/-- Whoever goes through it goes through what was ahead of it, and makes the var and the type one; and back. -/
theorem bind_fac {s t : Int → Ty} {v : Int} {u : Ty} (hv : s v = tv v) : Fac t (bind s v u) ↔ Fac t s ∧ t v = tsub t u := by
  constructor
  · intro h
    have e : t v = tsub t u := by
      have := h v
      unfold bind at this
      rw [hv, tsub_tv, one_same] at this
      exact this.symm
    refine ⟨fun x => ?_, e⟩
    have := h x
    unfold bind at this
    rw [(one_fac e).term] at this
    exact this
  · rintro ⟨h, e⟩ x
    unfold bind
    rw [(one_fac e).term]
    exact h x
/-- It goes through itself, if the var was none yet and is not within the type. -/
theorem bind_idem {s : Int → Ty} {v : Int} {u : Ty} (hs : Fac s s) (hv : s v = tv v) (hu : tsub s u = u) (ht : teach u = true) (hn : ¬ tocc v u) : Fac (bind s v u) (bind s v u) := by
  refine (bind_fac hv).2 ⟨fun x => ?_, ?_⟩
  · have : tsub (bind s v u) (s x) = tsub (one v u) (tsub s (s x)) := by rw [tsub_comp]; rfl
    rw [this, hs x]
    rfl
  · have : tsub (bind s v u) u = tsub (one v u) (tsub s u) := by rw [tsub_comp]; rfl
    rw [this, hu, one_free ht hn]
    unfold bind
    rw [hv, tsub_tv, one_same]

/-! ### What is within -/
theorem tsizes_mem : ∀ (l : List Ty) (t : Ty), t ∈ l → t.size ≤ tsizes l
  | [], _, h => by cases h
  | x :: r, t, h => by
    rcases List.mem_cons.1 h with rfl | h
    · simp [tsizes]
    · have := tsizes_mem r t h; simp [tsizes]; omega
theorem tsub_size (t : Int → Ty) (a : Ty) : teach a = true → ∀ v, tocc v a → (t v).size ≤ (tsub t a).size ∧ (a.op ≠ tVar → (t v).size < (tsub t a).size) := by
  induction a using Ty.ind with
  | h op n l ih =>
    intro ha v hv
    by_cases ho : op = tVar
    · rw [tsub_var t ho]
      subst ho
      have hl := var_nil ha
      subst hl
      rcases (tocc_eq v tVar n []).1 hv with ⟨-, rfl⟩ | ⟨k, hk, -⟩
      · exact ⟨Nat.le_refl _, fun h => absurd rfl h⟩
      · cases hk
    · rw [tsub_else t ho]
      rcases (tocc_eq v op n l).1 hv with ⟨h1, -⟩ | ⟨k, hk, hvk⟩
      · exact absurd h1 ho
      · have h1 := (ih k hk (teach_kids ha k hk) v hvk).1
        have h2 := tsizes_mem (l.map (tsub t)) (tsub t k) (List.mem_map.2 ⟨k, hk, rfl⟩)
        rw [Ty.size]
        exact ⟨by omega, fun _ => by omega⟩
/-- A var is never made one with a type that has it within. -/
theorem occ_no {v : Int} {u : Ty} (hu : teach u = true) (ho : u.op ≠ tVar) (h : tocc v u) (t : Int → Ty) : t v ≠ tsub t u := fun e => by
  have := (tsub_size t u hu v h).2 ho
  rw [e] at this
  exact Nat.lt_irrefl _ this
/-- Types of two kinds are never made one; of one kind, just if their kids are. -/
theorem sub_kinds {t : Int → Ty} {op op' : List Int} {n n' : Int} {l l' : List Ty} (h : op ≠ tVar) (h' : op' ≠ tVar) : tsub t (.mk op n l) = tsub t (.mk op' n' l') ↔ op = op' ∧ n = n' ∧ l.map (tsub t) = l'.map (tsub t) := by
  rw [tsub_else t h, tsub_else t h']
  constructor
  · intro e
    injection e with e1 e2 e3
    exact ⟨e1, e2, e3⟩
  · rintro ⟨rfl, rfl, e⟩
    rw [e]
theorem teach_mk {op : List Int} {n : Int} {l l' : List Ty} (h : teach (.mk op n l) = true) (hl : l'.length = l.length) (hk : ∀ t ∈ l', teach t = true) : teach (.mk op n l') = true := by
  simp only [teach, Bool.and_eq_true, decide_eq_true_eq] at h ⊢
  obtain ⟨h1, h2, h3, -⟩ := h
  exact ⟨by rw [hl]; exact h1, h2, h3, (teachs_iff l').2 hk⟩
/-- With types for vars a type is a type. -/
theorem teach_sub {s : Int → Ty} (hs : ∀ x, teach (s x) = true) (a : Ty) : teach a = true → teach (tsub s a) = true := by
  induction a using Ty.ind with
  | h op n l ih =>
    intro ha
    by_cases ho : op = tVar
    · rw [tsub_var s ho]; exact hs n
    · rw [tsub_else s ho]
      refine teach_mk ha (by simp) fun t ht => ?_
      obtain ⟨k, hk, rfl⟩ := List.mem_map.1 ht
      exact ih k hk (teach_kids ha k hk)
theorem teach_one {v : Int} {u : Ty} (hu : teach u = true) (x : Int) (hx : 0 ≤ x) : teach (one v u x) = true := by
  unfold one
  split
  · exact hu
  · simp [tv, teach, teachs, hx]; decide
end Go.Em9

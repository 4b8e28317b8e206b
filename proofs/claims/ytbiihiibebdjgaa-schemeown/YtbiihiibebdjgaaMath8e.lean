/- Types with other names for their vars; what is normed. No program is named here. -/
import Derived.Test.YtbiihiibebdjgaaMath8b
import Derived.Test.YtbiihiibebdjgaaMath8c
namespace Go.Em8
open Go.Em5 Go.RowKit
set_option linter.unusedSimpArgs false

mutual
/-- The var is in the type. -/
def tocc (x : Int) : Ty → Prop
  | .mk op n ks => (op = tVar ∧ n = x) ∨ toccs x ks
def toccs (x : Int) : List Ty → Prop
  | [] => False
  | t :: r => tocc x t ∨ toccs x r
end
theorem toccs_iff (x : Int) : ∀ l, toccs x l ↔ ∃ t ∈ l, tocc x t
  | [] => by simp [toccs]
  | t :: r => by simp [toccs, toccs_iff x r]
theorem tocc_eq (x : Int) (op : List Int) (n : Int) (ks : List Ty) : tocc x (.mk op n ks) ↔ (op = tVar ∧ n = x) ∨ ∃ t ∈ ks, tocc x t := by rw [tocc, toccs_iff]
theorem tadd_iff (op : List Int) (n : Int) (out : List Int) (x : Int) : x ∈ tadd op n out ↔ x ∈ out ∨ (op = tVar ∧ n = x) := by
  unfold tadd
  split
  · rename_i h
    simp only [List.mem_append, List.mem_singleton]
    constructor
    · rintro (h1 | h1)
      · exact .inl h1
      · exact .inr ⟨h.1, h1.symm⟩
    · rintro (h1 | ⟨-, h1⟩)
      · exact .inl h1
      · exact .inr h1.symm
  · rename_i h
    constructor
    · exact .inl
    · rintro (h1 | ⟨h1, rfl⟩)
      · exact h1
      · exact Classical.byContradiction fun h2 => h ⟨h1, h2⟩
theorem tvars_iff (t : Ty) : ∀ (out : List Int) (x : Int), x ∈ tvars t out ↔ x ∈ out ∨ tocc x t := by
  induction t using Ty.ind with
  | h op n l ih =>
    intro out x
    have key : ∀ (l : List Ty), (∀ t ∈ l, ∀ (out : List Int) (x : Int), x ∈ tvars t out ↔ x ∈ out ∨ tocc x t) → ∀ out, x ∈ tvarss l out ↔ x ∈ out ∨ ∃ t ∈ l, tocc x t := by
      intro l
      induction l with
      | nil => intro _ out; simp [tvarss]
      | cons a r ihr =>
        intro h out
        simp only [tvarss]
        rw [ihr (fun t ht => h t (by simp [ht])), h a (by simp)]
        simp [or_assoc]
    rw [tvars_eq, key l ih, tadd_iff, tocc_eq, or_assoc]
theorem tadd_nodup {op : List Int} {n : Int} {out : List Int} (h : out.Nodup) : (tadd op n out).Nodup := by
  unfold tadd
  split
  · rename_i h1
    rw [List.nodup_append]
    exact ⟨h, by simp, fun a ha b hb => by simp at hb; subst hb; rintro rfl; exact h1.2 ha⟩
  · exact h
theorem tvars_nodup (t : Ty) : ∀ (out : List Int), out.Nodup → (tvars t out).Nodup := by
  induction t using Ty.ind with
  | h op n l ih =>
    intro out hout
    have key : ∀ (l : List Ty), (∀ t ∈ l, ∀ (out : List Int), out.Nodup → (tvars t out).Nodup) → ∀ out, out.Nodup → (tvarss l out).Nodup := by
      intro l
      induction l with
      | nil => intro _ out h; simpa [tvarss] using h
      | cons a r ihr =>
        intro h out ho
        simp only [tvarss]
        exact ihr (fun t ht => h t (by simp [ht])) _ (h a (by simp) _ ho)
    rw [tvars_eq]
    exact key l ih _ (tadd_nodup hout)

/-! ### Other names -/
mutual
def tren (f : Int → Int) : Ty → Ty
  | .mk op n ks => if op = tVar then .mk op (f n) ks else .mk op n (trens f ks)
def trens (f : Int → Int) : List Ty → List Ty
  | [] => []
  | t :: r => tren f t :: trens f r
end
theorem trens_map (f : Int → Int) : ∀ l, trens f l = l.map (tren f)
  | [] => rfl
  | t :: r => by simp [trens, trens_map f r]
theorem tren_var (f : Int → Int) {op : List Int} {n : Int} {ks : List Ty} (h : op = tVar) : tren f (.mk op n ks) = .mk op (f n) ks := by rw [tren, if_pos h]
theorem tren_else (f : Int → Int) {op : List Int} {n : Int} {ks : List Ty} (h : op ≠ tVar) : tren f (.mk op n ks) = .mk op n (ks.map (tren f)) := by rw [tren, if_neg h, trens_map]
/-- A var has no kids. -/
theorem var_nil {n : Int} {ks : List Ty} (h : teach (.mk tVar n ks) = true) : ks = [] := by
  rcases teach_cases h with ⟨ho, -, rfl⟩ | ⟨-, -, rfl⟩ | ⟨ho, -⟩ | ⟨ho, -⟩
  · rfl
  · rfl
  · rcases ho with e | e <;> simp [tVar, tList, tRef] at e
  · rcases ho with e | e <;> simp [tVar, tPair, tFun] at e
theorem teach_kids {op : List Int} {n : Int} {ks : List Ty} (h : teach (.mk op n ks) = true) : ∀ t ∈ ks, teach t = true := by
  rw [teach] at h
  simp only [Bool.and_eq_true] at h
  exact (teachs_iff ks).1 h.2.2.2
theorem tren_congr {f g : Int → Int} (t : Ty) : (∀ x, tocc x t → f x = g x) → tren f t = tren g t := by
  induction t using Ty.ind with
  | h op n ks ih =>
    intro h
    by_cases ho : op = tVar
    · rw [tren_var f ho, tren_var g ho, h n ((tocc_eq ..).2 (.inl ⟨ho, rfl⟩))]
    · rw [tren_else f ho, tren_else g ho]
      congr 1
      exact List.map_congr_left fun t ht => ih t ht fun x hx => h x ((tocc_eq ..).2 (.inr ⟨t, ht, hx⟩))
theorem tren_id (t : Ty) : tren (fun x => x) t = t := by
  induction t using Ty.ind with
  | h op n ks ih =>
    by_cases ho : op = tVar
    · rw [tren_var _ ho]
    · rw [tren_else _ ho]
      congr 1
      exact (List.map_congr_left ih).trans (List.map_id' ks)
theorem tren_comp (f g : Int → Int) (t : Ty) : tren g (tren f t) = tren (fun x => g (f x)) t := by
  induction t using Ty.ind with
  | h op n ks ih =>
    by_cases ho : op = tVar
    · rw [tren_var f ho, tren_var g ho, tren_var _ ho]
    · rw [tren_else f ho, tren_else g ho, tren_else _ ho]
      congr 1
      rw [List.map_map]
      exact List.map_congr_left ih
theorem tocc_ren (f : Int → Int) (t : Ty) : teach t = true → ∀ y, tocc y (tren f t) ↔ ∃ x, tocc x t ∧ f x = y := by
  induction t using Ty.ind with
  | h op n ks ih =>
    intro ht y
    by_cases ho : op = tVar
    · subst ho
      have hk := var_nil ht
      subst hk
      rw [tren_var f rfl, tocc_eq]
      simp only [List.not_mem_nil, false_and, exists_false, or_false, true_and]
      constructor
      · intro h; exact ⟨n, (tocc_eq ..).2 (.inl ⟨rfl, rfl⟩), h⟩
      · rintro ⟨x, hx, rfl⟩
        rw [tocc_eq] at hx
        simp at hx
        rw [hx]
    · rw [tren_else f ho, tocc_eq]
      constructor
      · rintro (⟨h, -⟩ | ⟨t, hm, hy⟩)
        · exact absurd h ho
        · obtain ⟨s, hs, rfl⟩ := List.mem_map.1 hm
          obtain ⟨x, hx, rfl⟩ := (ih s hs (teach_kids ht s hs) y).1 hy
          exact ⟨x, (tocc_eq ..).2 (.inr ⟨s, hs, hx⟩), rfl⟩
      · rintro ⟨x, hx, rfl⟩
        rw [tocc_eq] at hx
        rcases hx with ⟨h, -⟩ | ⟨s, hs, hx⟩
        · exact absurd h ho
        · exact .inr ⟨tren f s, List.mem_map.2 ⟨s, hs, rfl⟩, (ih s hs (teach_kids ht s hs) (f x)).2 ⟨x, hx, rfl⟩⟩
theorem tvars_ren (f : Int → Int) (t : Ty) : teach t = true → ∀ (out : List Int), (∀ x y, (x ∈ out ∨ tocc x t) → (y ∈ out ∨ tocc y t) → f x = f y → x = y) → tvars (tren f t) (out.map f) = (tvars t out).map f := by
  induction t using Ty.ind with
  | h op n ks ih =>
    intro ht out hf
    by_cases ho : op = tVar
    · subst ho
      have hk := var_nil ht
      subst hk
      rw [tren_var f rfl, tvars_eq, tvars_eq]
      simp only [tvarss]
      unfold tadd
      by_cases hm : n ∈ out
      · rw [if_neg (by simp [hm]; exact ⟨n, hm, rfl⟩), if_neg (by simp [hm])]
      · have hn : f n ∉ out.map f := by
          intro h
          obtain ⟨x, hx, e⟩ := List.mem_map.1 h
          have := hf x n (.inl hx) (.inr ((tocc_eq ..).2 (.inl ⟨rfl, rfl⟩))) e
          exact hm (this ▸ hx)
        rw [if_pos ⟨rfl, hn⟩, if_pos ⟨rfl, hm⟩]
        simp
    · have e1 : ∀ o, tadd op n o = o := fun o => by unfold tadd; rw [if_neg (fun h => ho h.1)]
      rw [tren_else f ho, tvars_eq, tvars_eq, e1, e1]
      have key : ∀ (l : List Ty), (∀ t ∈ l, t ∈ ks) → ∀ out, (∀ x y, (x ∈ out ∨ ∃ t ∈ l, tocc x t) → (y ∈ out ∨ ∃ t ∈ l, tocc y t) → f x = f y → x = y) → tvarss (l.map (tren f)) (out.map f) = (tvarss l out).map f := by
        intro l
        induction l with
        | nil => intro _ out _; simp [tvarss]
        | cons a r ihr =>
          intro hk out hfo
          simp only [List.map_cons, tvarss]
          rw [ih a (hk a (by simp)) (teach_kids ht a (hk a (by simp))) out (fun x y hx hy e => hfo x y (by rcases hx with h | h; exact .inl h; exact .inr ⟨a, by simp, h⟩) (by rcases hy with h | h; exact .inl h; exact .inr ⟨a, by simp, h⟩) e)]
          refine ihr (fun t ht => hk t (by simp [ht])) _ fun x y hx hy e => hfo x y ?_ ?_ e
          · rw [tvars_iff] at hx
            rcases hx with (h | h) | ⟨t, h1, h2⟩
            · exact .inl h
            · exact .inr ⟨a, by simp, h⟩
            · exact .inr ⟨t, by simp [h1], h2⟩
          · rw [tvars_iff] at hy
            rcases hy with (h | h) | ⟨t, h1, h2⟩
            · exact .inl h
            · exact .inr ⟨a, by simp, h⟩
            · exact .inr ⟨t, by simp [h1], h2⟩
      refine key ks (fun t h => h) out fun x y hx hy e => hf x y ?_ ?_ e
      · rcases hx with h | h
        · exact .inl h
        · exact .inr ((tocc_eq ..).2 (.inr h))
      · rcases hy with h | h
        · exact .inl h
        · exact .inr ((tocc_eq ..).2 (.inr h))

/-! ### Normed -/
theorem tput_ren {L : List Int} (t : Ty) : teach t = true → (∀ x, tocc x t → x ∈ L) → tput L ((List.range L.length).map fun i : Nat => Ty.mk tVar (i : Int) []) t = tren (fun x => (L.idxOf x : Int)) t := by
  induction t using Ty.ind with
  | h op n ks ih =>
    intro ht hL
    by_cases ho : op = tVar
    · subst ho
      have hk := var_nil ht
      subst hk
      have hn : n ∈ L := hL n ((tocc_eq ..).2 (.inl ⟨rfl, rfl⟩))
      have hlt : L.idxOf n < L.length := List.idxOf_lt_length_iff.2 hn
      rw [tren_var _ rfl, tput_var rfl, if_pos hn, List.getElem?_map, List.getElem?_range hlt]
      rfl
    · rw [tren_else _ ho, tput_else ho]
      congr 1
      exact List.map_congr_left fun t hm => ih t hm (teach_kids ht t hm) fun x hx => hL x ((tocc_eq ..).2 (.inr ⟨t, hm, hx⟩))
theorem tnorm_ren {t : Ty} (ht : teach t = true) : tnorm t = tren (fun x => ((tvars t []).idxOf x : Int)) t :=
  tput_ren t ht fun x hx => (tvars_iff t [] x).2 (.inr hx)
theorem idx_inj {L : List Int} {x y : Int} (hx : x ∈ L) (h : L.idxOf x = L.idxOf y) : x = y := by
  have h1 := List.idxOf_lt_length_iff.2 hx
  have e1 : L[L.idxOf x] = x := List.getElem_idxOf h1
  have hy : L.idxOf y < L.length := by rw [← h]; exact h1
  have e2 : L[L.idxOf y] = y := List.getElem_idxOf hy
  rw [← e1, ← e2]
  congr 1
theorem idx_map {L : List Int} (hn : L.Nodup) : L.map (fun x => (L.idxOf x : Int)) = (List.range L.length).map (fun i : Nat => (i : Int)) := by
  apply List.ext_getElem
  · simp
  · intro i h1 h2
    simp at h1
    simp [hn.idxOf_getElem i h1]
/-- What is normed has the vars 0, 1, .. -/
theorem tvars_norm {t : Ty} (ht : teach t = true) : tvars (tnorm t) [] = (List.range (tvars t []).length).map (fun i : Nat => (i : Int)) := by
  have h := tvars_ren (fun x => ((tvars t []).idxOf x : Int)) t ht [] (fun x y hx hy e => by
    rcases hx with hx | hx
    · cases hx
    · exact idx_inj ((tvars_iff t [] x).2 (.inr hx)) (by omega))
  rw [tnorm_ren ht]
  rw [List.map_nil] at h
  rw [h, idx_map (tvars_nodup t [] List.nodup_nil)]
theorem teach_ren (f : Int → Int) (hf : ∀ x, 0 ≤ f x) (t : Ty) : teach t = true → teach (tren f t) = true := by
  induction t using Ty.ind with
  | h op n ks ih =>
    intro ht
    have hk := teach_kids ht
    rw [teach] at ht
    simp only [Bool.and_eq_true, decide_eq_true_eq, Bool.or_eq_true] at ht
    obtain ⟨h1, h2, h3, h4⟩ := ht
    by_cases ho : op = tVar
    · rw [tren_var f ho, teach]
      simp only [Bool.and_eq_true, decide_eq_true_eq, Bool.or_eq_true]
      exact ⟨h1, hf n, .inl ho, h4⟩
    · rw [tren_else f ho, teach]
      simp only [Bool.and_eq_true, decide_eq_true_eq, Bool.or_eq_true]
      refine ⟨by rw [List.length_map]; exact h1, h2, h3, (teachs_iff _).2 fun s hs => ?_⟩
      obtain ⟨u, hu, rfl⟩ := List.mem_map.1 hs
      exact ih u hu (hk u hu)
theorem teach_norm {t : Ty} (ht : teach t = true) : teach (tnorm t) = true := by
  rw [tnorm_ren ht]; exact teach_ren _ (fun x => by omega) t ht
/-- Other names for vars, each for one: it is normed alike. -/
theorem tnorm_alike {f : Int → Int} {t : Ty} (ht : teach t = true) (ht' : teach (tren f t) = true) (hf : ∀ x y, tocc x t → tocc y t → f x = f y → x = y) : tnorm (tren f t) = tnorm t := by
  have h := tvars_ren f t ht [] (fun x y hx hy e => by
    rcases hx with hx | hx
    · cases hx
    · rcases hy with hy | hy
      · cases hy
      · exact hf x y hx hy e)
  rw [List.map_nil] at h
  rw [tnorm_ren ht', tnorm_ren ht, h, tren_comp]
  refine tren_congr t fun x hx => ?_
  have hmem : ∀ y, y ∈ tvars t [] ↔ tocc y t := fun y => by rw [tvars_iff]; simp
  have key : ∀ (L : List Int), (∀ y ∈ L, tocc y t) → (L.map f).idxOf (f x) = L.idxOf x := by
    intro L
    induction L with
    | nil => intro _; rfl
    | cons a r ih =>
      intro hL
      rw [List.map_cons, List.idxOf_cons, List.idxOf_cons]
      by_cases e : a = x
      · subst e; simp
      · have e2 : (a == x) = false := by simpa using e
        have e3 : (f a == f x) = false := by
          rw [beq_eq_false_iff_ne]; intro h; exact e (hf a x (hL a (by simp)) hx h)
        rw [e2, e3, cond_false, cond_false, ih fun y hy => hL y (by simp [hy])]
  rw [key _ fun y hy => (hmem y).1 hy]
/-- Normed twice it is as once. -/
theorem tnorm_idem {t : Ty} (ht : teach t = true) : tnorm (tnorm t) = tnorm t := by
  have h2 := teach_norm ht
  rw [tnorm_ren ht] at h2
  conv => lhs; rw [tnorm_ren ht]
  exact tnorm_alike ht h2 fun x y hx _ e => idx_inj ((tvars_iff t [] x).2 (.inr hx)) (by omega)
/-- Two types are normed alike just if one is the other with other names. -/
theorem tnorm_eq_iff {a b : Ty} (ha : teach a = true) (hb : teach b = true) : tnorm a = tnorm b ↔ ∃ f : Int → Int, b = tren f a ∧ ∀ x y, tocc x a → tocc y a → f x = f y → x = y := by
  constructor
  · intro h
    have hl : (tvars a []).length = (tvars b []).length := by
      have h1 := tvars_norm ha
      have h2 := tvars_norm hb
      rw [h, h2] at h1
      have := congrArg List.length h1
      simpa using this.symm
    have ma : ∀ y, y ∈ tvars a [] ↔ tocc y a := fun y => by rw [tvars_iff]; simp
    have mb : ∀ y, y ∈ tvars b [] ↔ tocc y b := fun y => by rw [tvars_iff]; simp
    let g : Int → Int := fun i => (tvars b [])[i.toNat]?.getD 0
    refine ⟨fun x => g ((tvars a []).idxOf x : Int), ?_, ?_⟩
    · have h1 : tren g (tnorm a) = tren (fun x => g ((tvars a []).idxOf x : Int)) a := by rw [tnorm_ren ha, tren_comp]
      have h2 : tren g (tnorm b) = b := by
        rw [tnorm_ren hb, tren_comp]
        rw [tren_congr (g := fun x => x) b ?_, tren_id]
        intro x hx
        have hx' := (mb x).2 hx
        have h1 := List.idxOf_lt_length_iff.2 hx'
        show (tvars b [])[((tvars b []).idxOf x : Int).toNat]?.getD 0 = x
        rw [Int.toNat_natCast, List.getElem?_eq_getElem h1, Option.getD_some]
        exact List.getElem_idxOf h1
      rw [← h1, h, h2]
    · intro x y hx hy e
      have hx' := List.idxOf_lt_length_iff.2 ((ma x).2 hx)
      have hy' := List.idxOf_lt_length_iff.2 ((ma y).2 hy)
      have e' : (tvars b [])[(tvars a []).idxOf x]?.getD 0 = (tvars b [])[(tvars a []).idxOf y]?.getD 0 := e
      rw [List.getElem?_eq_getElem (by omega), List.getElem?_eq_getElem (by omega), Option.getD_some, Option.getD_some] at e'
      have := (List.getElem_inj (tvars_nodup b [] List.nodup_nil)).1 e'
      exact idx_inj ((ma x).2 hx) this
  · rintro ⟨f, rfl, hf⟩
    exact (tnorm_alike ha hb hf).symm
end Go.Em8

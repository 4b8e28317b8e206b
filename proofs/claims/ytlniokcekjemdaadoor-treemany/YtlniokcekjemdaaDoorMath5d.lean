/- The plain mathematics of chapter 5 (tree): the document's free names rise, and are those that the program finds. No program is named here. -/
import Derived.Test.YtlniokcekjemdaaDoorMath5c
namespace Go.Em5
open Go.RowKit

/-! ### The order of texts -/
theorem lt_irrefl : ∀ a : List Int, lt a a = false
  | [] => rfl
  | a :: r => by simp [lt, lt_irrefl r]
theorem lt_trans : ∀ {a b c : List Int}, lt a b = true → lt b c = true → lt a c = true
  | _, [], _, h, _ => by simp [lt] at h
  | _, _ :: _, [], _, h => by simp [lt] at h
  | [], _ :: _, _ :: _, _, _ => rfl
  | a :: r, b :: s, c :: t, h, k => by
    simp only [lt, Bool.or_eq_true, Bool.and_eq_true, decide_eq_true_eq] at h k ⊢
    rcases h with h | ⟨h, h'⟩ <;> rcases k with k | ⟨k, k'⟩
    · left; omega
    · left; omega
    · left; omega
    · right; exact ⟨by omega, lt_trans h' k'⟩
theorem lt_total : ∀ (a b : List Int), lt a b = false → a ≠ b → lt b a = true
  | [], [], _, h => absurd rfl h
  | [], _ :: _, h, _ => by simp [lt] at h
  | _ :: _, [], _, _ => rfl
  | a :: r, b :: s, h, hn => by
    simp only [lt, Bool.or_eq_false_iff, Bool.and_eq_false_iff, decide_eq_false_iff_not] at h
    simp only [lt, Bool.or_eq_true, Bool.and_eq_true, decide_eq_true_eq]
    by_cases e : a = b
    · right
      refine ⟨e.symm, lt_total r s ?_ (fun e' => hn (by rw [e, e']))⟩
      rcases h.2 with h2 | h2
      · exact absurd e h2
      · exact h2
    · left; omega
theorem lt_bytes : ∀ (x y : List UInt8), lt (x.map fun c => (c.toNat : Int)) (y.map fun c => (c.toNat : Int)) = decide (x < y)
  | [], [] => rfl
  | [], b :: s => by simp [lt]
  | a :: r, [] => by simp [lt]
  | a :: r, b :: s => by
    simp only [List.map_cons, lt]
    rw [lt_bytes r s, Bool.eq_iff_iff]
    simp only [Bool.or_eq_true, Bool.and_eq_true, decide_eq_true_eq, List.cons_lt_cons_iff]
    have e1 : ((a.toNat : Int) < (b.toNat : Int)) ↔ a < b := by rw [UInt8.lt_iff_toNat_lt]; omega
    have e2 : ((a.toNat : Int) = (b.toNat : Int)) ↔ a = b := by rw [← UInt8.toNat_inj]; omega
    rw [e1, e2]

/-- Texts that rise. -/
def Rise (l : List (List Int)) : Prop := l.Pairwise (fun a b => lt a b = true)
theorem rise_ext : ∀ (l m : List (List Int)), Rise l → Rise m → (∀ x, x ∈ l ↔ x ∈ m) → l = m
  | [], [], _, _, _ => rfl
  | [], y :: m, _, _, h => by have := (h y).2 (by simp); simp at this
  | x :: l, [], _, _, h => by have := (h x).1 (by simp); simp at this
  | x :: l, y :: m, hl, hm, h => by
    have hl' := List.pairwise_cons.1 hl
    have hm' := List.pairwise_cons.1 hm
    have e : x = y := by
      have h1 := (h x).1 (by simp)
      have h2 := (h y).2 (by simp)
      simp only [List.mem_cons] at h1 h2
      rcases h1 with e | h1
      · exact e
      · rcases h2 with e | h2
        · exact e.symm
        · have := lt_trans (hm'.1 x h1) (hl'.1 y h2)
          rw [lt_irrefl] at this; cases this
    subst e
    rw [rise_ext l m hl'.2 hm'.2 (fun z => ?_)]
    have hz := h z
    simp only [List.mem_cons] at hz
    constructor
    · intro h1
      rcases hz.1 (.inr h1) with e | h2
      · subst e
        have := hl'.1 z h1
        rw [lt_irrefl] at this; cases this
      · exact h2
    · intro h1
      rcases hz.2 (.inr h1) with e | h2
      · subst e
        have := hm'.1 z h1
        rw [lt_irrefl] at this; cases this
      · exact h2
theorem mem_ins (x t : List Int) (out : List (List Int)) : t ∈ ins x out ↔ t = x ∨ t ∈ out := by
  unfold ins
  have e : t ∈ out ↔ t ∈ out.take (place x out) ∨ t ∈ out.drop (place x out) := by
    rw [← List.mem_append, List.take_append_drop]
  rw [e]
  simp only [List.mem_append, List.mem_singleton]
  constructor
  · rintro ((h | h) | h)
    · exact .inr (.inl h)
    · exact .inl h
    · exact .inr (.inr h)
  · rintro (h | h | h)
    · exact .inl (.inr h)
    · exact .inl (.inl h)
    · exact .inr h
theorem rise_ins {x : List Int} {out : List (List Int)} (h : Rise out) (hx : x ∉ out) : Rise (ins x out) := by
  have hsplit := List.take_append_drop (place x out) out
  have h' : Rise (out.take (place x out) ++ out.drop (place x out)) := by rw [hsplit]; exact h
  have hp := List.pairwise_append.1 h'
  have ht : ∀ a ∈ out.take (place x out), lt a x = true := by
    intro a ha
    obtain ⟨j, hj, e⟩ := List.getElem_of_mem ha
    have hj2 : j < place x out := by simp at hj; omega
    refine place_all x out j a hj2 ?_
    rw [List.getElem_take] at e
    rw [List.getElem?_eq_getElem (by simp at hj; omega), e]
  have hd : ∀ a ∈ out.drop (place x out), lt x a = true := by
    intro a ha
    obtain ⟨j, hj, e⟩ := List.getElem_of_mem ha
    simp only [List.length_drop] at hj
    have hfirst : lt out[place x out] x = false := place_stop x out _ (List.getElem?_eq_getElem (by omega))
    have hne : out[place x out] ≠ x := fun e => hx (e ▸ List.getElem_mem (by omega))
    have hlt := lt_total _ _ hfirst hne
    cases j with
    | zero =>
      simp only [List.getElem_drop, Nat.add_zero] at e
      rw [← e]; exact hlt
    | succ j =>
      simp only [List.getElem_drop] at e
      refine lt_trans hlt ?_
      rw [← e]
      exact (List.pairwise_iff_getElem.1 h) (place x out) (place x out + (j + 1)) (by omega) (by omega) (by omega)
  unfold ins Rise
  rw [List.append_assoc]
  refine List.pairwise_append.2 ⟨hp.1, ?_, ?_⟩
  · refine List.pairwise_append.2 ⟨by simp, hp.2.1, ?_⟩
    intro a ha b hb
    simp at ha; subst ha
    exact hd b hb
  · intro a ha b hb
    simp only [List.mem_append, List.mem_singleton] at hb
    rcases hb with rfl | hb
    · exact ht a ha
    · exact hp.2.2 a ha b hb
theorem own_rise {op nm : List Int} {b o : List (List Int)} (h : Rise o) : Rise (own op nm b o) ∧ ∀ x, x ∈ own op nm b o ↔ x ∈ o ∨ x ∈ (if op = oVar ∧ nm ∉ b then [nm] else []) := by
  unfold own
  by_cases h1 : op = oVar ∧ nm ∉ b
  · by_cases h2 : nm ∈ o
    · rw [if_neg (fun e => e.2.2 h2), if_pos h1]
      refine ⟨h, fun x => ⟨.inl, fun e => e.elim id (fun e => by simp at e; subst e; exact h2)⟩⟩
    · rw [if_pos ⟨h1.1, h1.2, h2⟩, if_pos h1]
      refine ⟨rise_ins h h2, fun x => ?_⟩
      rw [mem_ins]
      simp only [List.mem_singleton]
      exact Or.comm
  · rw [if_neg (fun e => h1 ⟨e.1, e.2.1⟩), if_neg h1]
    exact ⟨h, fun x => by simp⟩

theorem free_rise (T : Nd) : each T = true → ∀ b o, Rise o → Rise (freeR T b o) ∧ ∀ x, x ∈ freeR T b o ↔ x ∈ o ∨ x ∈ freeS T b := by
  induction T using Nd.ind with
  | h op nm ar n p l ih =>
    intro he b o ho
    rw [each] at he
    simp only [Bool.and_eq_true, decide_eq_true_eq] at he
    obtain ⟨hk, -, hes⟩ := he
    have key : ∀ (r : List Nd) (i : Nat), (∀ t ∈ r, t ∈ l) → i + r.length = l.length → ∀ o, Rise o → Rise (freeRs op nm ar i r b o) ∧ ∀ x, x ∈ freeRs op nm ar i r b o ↔ x ∈ o ∨ x ∈ freeSs op nm ar i r b := by
      intro r
      induction r with
      | nil => intro i _ _ o ho; simp only [freeRs, freeSs]; exact ⟨ho, fun x => by simp⟩
      | cons t r ihr =>
        intro i hm hi o ho
        simp only [freeRs, freeSs]
        have heq : bindsT op nm ar i = bindsL op nm ar i := binds_eq (by rw [hk]; simp at hi; omega)
        rw [heq]
        obtain ⟨h1, h2⟩ := ih t (hm t (by simp)) ((eachs_iff l).1 hes t (hm t (by simp))) (b ++ bindsL op nm ar i) o ho
        obtain ⟨h3, h4⟩ := ihr (i + 1) (fun t ht => hm t (by simp [ht])) (by simp at hi; omega) _ h1
        refine ⟨h3, fun x => ?_⟩
        rw [h4, h2, List.mem_append, or_assoc]
    rw [freeR, freeS]
    obtain ⟨h1, h2⟩ := own_rise (op := op) (nm := nm) (b := b) ho
    obtain ⟨h3, h4⟩ := key l 0 (fun t ht => ht) (by omega) _ h1
    refine ⟨h3, fun x => ?_⟩
    rw [h4, h2, List.mem_append, or_assoc]

/-- Different byte strings, sorted, are the document's free names, if they are those that were found. -/
theorem free_sorted {T : Nd} (he : each T = true) {ss : List (List UInt8)} (hnd : ss.Nodup) (hm : ∀ u : List UInt8, u ∈ ss ↔ (u.map fun c => (c.toNat : Int)) ∈ freeS T []) (hb : ∀ x ∈ freeS T [], ∃ u : List UInt8, x = u.map fun c => (c.toNat : Int)) :
    (ss.mergeSort (fun x y => decide (x ≤ y))).map (fun u => u.map fun c => (c.toNat : Int)) = freeR T [] [] := by
  obtain ⟨h1, h2⟩ := free_rise T he [] [] List.Pairwise.nil
  refine rise_ext _ _ ?_ h1 (fun x => ?_)
  · have hp := List.pairwise_mergeSort (le := fun x y : List UInt8 => decide (x ≤ y)) (fun a b c h k => decide_eq_true (List.le_trans (of_decide_eq_true h) (of_decide_eq_true k))) (fun a b => by simpa using List.le_total a b) ss
    have hn2 : (ss.mergeSort (fun x y => decide (x ≤ y))).Nodup := (List.mergeSort_perm ss _).symm.nodup hnd
    unfold Rise
    rw [List.pairwise_map]
    refine (hp.and hn2).imp ?_
    rintro a b ⟨h, hne⟩
    rw [lt_bytes]
    refine decide_eq_true ?_
    by_cases hab : a < b
    · exact hab
    · exact absurd (List.le_antisymm (of_decide_eq_true h) (List.not_lt.1 hab)) hne
  · rw [h2]
    simp only [List.not_mem_nil, false_or, List.mem_map, List.mem_mergeSort]
    constructor
    · rintro ⟨u, hu, rfl⟩
      exact (hm u).1 hu
    · intro hx
      obtain ⟨u, rfl⟩ := hb x hx
      exact ⟨u, (hm u).2 hx, rfl⟩
end Go.Em5

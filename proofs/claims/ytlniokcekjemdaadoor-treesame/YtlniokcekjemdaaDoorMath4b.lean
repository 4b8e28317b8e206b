/- More of chapter 4's mathematics: the bytes of tokens are bytes; blanks ahead move all, and nothing more. No program is named here. -/
import Derived.Test.YtlniokcekjemdaaDoorMath4
namespace Go.Em4
open Go.RowKit

def Byt (L : List Int) : Prop := ∀ x ∈ L, 0 ≤ x ∧ x ≤ 255
theorem sgn_mem (L : List Int) : sgn L = [] ∨ sgn L ∈ signs := by
  unfold sgn
  cases h : signs.find? fun s => s.isPrefixOf L with
  | none => exact .inl rfl
  | some s => exact .inr (List.mem_of_find?_eq_some h)
theorem tokAt_byt {L : List Int} (hL : Byt L) {k n : Int} {t : List Int} {m : Nat} (h : tokAt L = some (k, t, n, m)) : Byt t := by
  cases L with
  | nil => simp [tokAt] at h
  | cons c r =>
    simp only [tokAt] at h
    split at h
    · unfold nameAt at h
      simp only at h
      split at h
      · simp only [Option.some.injEq, Prod.mk.injEq] at h
        rw [← h.2.1]; exact fun x hx => hL x (List.mem_of_mem_take hx)
      · split at h
        · cases h
        · simp only [Option.some.injEq, Prod.mk.injEq] at h
          rw [← h.2.1]; exact fun x hx => hL x (List.mem_of_mem_take hx)
    · split at h
      · unfold numAt at h
        simp only at h
        split at h
        · cases h
        · simp only [Option.some.injEq, Prod.mk.injEq] at h
          rw [← h.2.1]; exact fun x hx => by cases hx
      · split at h
        · unfold strAt at h
          simp only at h
          split at h
          · cases h
          · simp only [Option.some.injEq, Prod.mk.injEq] at h
            rw [← h.2.1]; exact fun x hx => hL x (List.mem_of_mem_drop (List.mem_of_mem_take hx))
        · unfold sgnAt at h
          split at h
          · cases h
          · simp only [Option.some.injEq, Prod.mk.injEq] at h
            rw [← h.2.1]
            rcases sgn_mem (c :: r) with e | e
            · rw [e]; exact fun x hx => by cases hx
            · have : ∀ l ∈ signs, ∀ x ∈ l, (0 : Int) ≤ x ∧ x ≤ 255 := by decide
              exact this _ e
theorem toksF_byt : ∀ (f i : Nat) (L : List Int) (T : List Tok), Byt L → toksF f i L = .ok T → ∀ t ∈ T, Byt t.text
  | f, i, [], T, _, h => by
    cases f <;> (simp only [toksF, Except.ok.injEq] at h; subst h; intro t ht; simp at ht; subst ht; exact fun x hx => by cases hx)
  | 0, i, c :: r, T, _, h => by
    simp only [toksF, Except.ok.injEq] at h; subst h; intro t ht; cases ht
  | f + 1, i, c :: r, T, hL, h => by
    unfold toksF at h
    split at h
    · exact toksF_byt f (i + 1) r T (fun x hx => hL x (List.mem_cons_of_mem _ hx)) h
    · cases ht : tokAt (c :: r) with
      | none => rw [ht] at h; cases h
      | some p =>
        obtain ⟨k, t, n, m⟩ := p
        rw [ht] at h
        simp only at h
        cases hr : toksF f (i + m) ((c :: r).drop m) with
        | error j => rw [hr] at h; cases h
        | ok T' =>
          rw [hr] at h
          simp only [Except.ok.injEq] at h
          subst h
          intro t' ht'
          rcases List.mem_cons.1 ht' with e | e
          · subst e; exact tokAt_byt hL ht
          · exact toksF_byt f (i + m) _ T' (fun x hx => hL x (List.mem_of_mem_drop hx)) hr t' e
theorem toks_byt {L : List Int} {T : List Tok} (hL : Byt L) (h : toks L = .ok T) : ∀ t ∈ T, Byt t.text := toksF_byt _ _ _ _ hL h
theorem toksF_len : ∀ (f i : Nat) (L : List Int) (T : List Tok), toksF f i L = .ok T → T.length ≤ L.length + 1
  | f, i, [], T, h => by
    cases f <;> (simp only [toksF, Except.ok.injEq] at h; subst h; simp)
  | 0, i, c :: r, T, h => by
    simp only [toksF, Except.ok.injEq] at h; subst h; simp
  | f + 1, i, c :: r, T, h => by
    unfold toksF at h
    split at h
    · have := toksF_len f (i + 1) r T h
      simp; omega
    · cases ht : tokAt (c :: r) with
      | none => rw [ht] at h; cases h
      | some p =>
        obtain ⟨k, t, n, m⟩ := p
        rw [ht] at h
        simp only at h
        cases hr : toksF f (i + m) ((c :: r).drop m) with
        | error j => rw [hr] at h; cases h
        | ok T' =>
          rw [hr] at h
          simp only [Except.ok.injEq] at h
          subst h
          have h1 := toksF_len f (i + m) _ T' hr
          have h2 := tokAt_pos ht
          simp at h1 ⊢; omega
theorem toks_len {L : List Int} {T : List Tok} (h : toks L = .ok T) : T.length ≤ L.length + 1 := toksF_len _ _ _ _ h

theorem toksF_ne : ∀ (f i : Nat) (L : List Int) (T : List Tok), L.length ≤ f → toksF f i L = .ok T → 0 < T.length
  | f, i, [], T, _, h => by
    cases f <;> (simp only [toksF, Except.ok.injEq] at h; subst h; simp)
  | 0, i, c :: r, T, hf, h => by simp at hf
  | f + 1, i, c :: r, T, hf, h => by
    unfold toksF at h
    simp only [List.length_cons] at hf
    split at h
    · exact toksF_ne f (i + 1) r T (by omega) h
    · cases ht : tokAt (c :: r) with
      | none => rw [ht] at h; cases h
      | some p =>
        obtain ⟨k, t, n, m⟩ := p
        rw [ht] at h
        simp only at h
        cases hr : toksF f (i + m) ((c :: r).drop m) with
        | error j => rw [hr] at h; cases h
        | ok T' =>
          rw [hr] at h
          simp only [Except.ok.injEq] at h
          subst h; simp
theorem toks_ne {L : List Int} {T : List Tok} (h : toks L = .ok T) : 0 < T.length := toksF_ne _ _ _ _ (Nat.le_refl _) h
theorem toksF_pos : ∀ (f i : Nat) (L : List Int) (T : List Tok), toksF f i L = .ok T → ∀ t ∈ T, t.pos ≤ i + L.length
  | f, i, [], T, h => by
    cases f <;> (simp only [toksF, Except.ok.injEq] at h; subst h; intro t ht; simp at ht; subst ht; simp)
  | 0, i, c :: r, T, h => by
    simp only [toksF, Except.ok.injEq] at h; subst h; intro t ht; cases ht
  | f + 1, i, c :: r, T, h => by
    unfold toksF at h
    split at h
    · intro t ht
      have := toksF_pos f (i + 1) r T h t ht
      simp; omega
    · cases ht : tokAt (c :: r) with
      | none => rw [ht] at h; cases h
      | some p =>
        obtain ⟨k, t, n, m⟩ := p
        rw [ht] at h
        simp only at h
        cases hr : toksF f (i + m) ((c :: r).drop m) with
        | error j => rw [hr] at h; cases h
        | ok T' =>
          rw [hr] at h
          simp only [Except.ok.injEq] at h
          subst h
          intro t' ht'
          have h2 := tokAt_le ht
          rcases List.mem_cons.1 ht' with e | e
          · subst e; simp
          · have h1 := toksF_pos f (i + m) _ T' hr t' e
            rw [List.length_drop] at h1
            omega
theorem toks_pos {L : List Int} {T : List Tok} (h : toks L = .ok T) : ∀ t ∈ T, t.pos ≤ L.length := fun t ht => by
  have := toksF_pos _ _ _ _ h t ht; omega

/-! ### Blanks ahead -/
def Tok.mv (d : Nat) (t : Tok) : Tok := { t with pos := t.pos + d }
def mvR (d : Nat) : Except Nat (List Tok) → Except Nat (List Tok)
  | .error j => .error (j + d)
  | .ok l => .ok (l.map (Tok.mv d))
theorem toksF_mv (d : Nat) : ∀ (f i : Nat) (L : List Int), toksF f (i + d) L = mvR d (toksF f i L)
  | f, i, [] => by cases f <;> rfl
  | 0, i, c :: r => rfl
  | f + 1, i, c :: r => by
    unfold toksF
    split
    · rw [show i + d + 1 = (i + 1) + d by omega]; exact toksF_mv d f (i + 1) r
    · cases ht : tokAt (c :: r) with
      | none => rfl
      | some p =>
        obtain ⟨k, t, n, m⟩ := p
        simp only
        rw [show i + d + m = (i + m) + d by omega, toksF_mv d f (i + m) _]
        cases toksF f (i + m) ((c :: r).drop m) <;> rfl
theorem toks_blanks : ∀ (B L : List Int), (∀ c ∈ B, blank c = true) → toks (B ++ L) = mvR B.length (toks L)
  | [], L, _ => by
    simp only [List.nil_append, List.length_nil]
    cases h : toks L with
    | error j => rfl
    | ok l =>
      have : Tok.mv 0 = id := by funext t; cases t; rfl
      simp [mvR, this]
  | c :: B, L, hB => by
    have ih := toks_blanks B L (fun x hx => hB x (List.mem_cons_of_mem _ hx))
    have h1 : toks (c :: B ++ L) = toksF (B ++ L).length (0 + 1) (B ++ L) := by
      show toksF (c :: (B ++ L)).length 0 (c :: (B ++ L)) = _
      simp only [List.length_cons]
      conv => lhs; unfold toksF
      rw [if_pos (hB c (List.mem_cons_self ..))]
    rw [h1, toksF_mv 1 _ 0]
    show mvR 1 (toks (B ++ L)) = _
    rw [ih]
    cases toks L with
    | error j => simp [mvR]; omega
    | ok l => simp [mvR, Tok.mv, Function.comp_def]; intro t _; omega
end Go.Em4

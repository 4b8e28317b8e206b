/- The plain mathematics of chapter 5 (tree), as the program cuts it: a name or a text as the one token of a text; what a node of an op has. No program is named here. -/
import Derived.Test.YtlniokcekjemdaaDoorMath4b
import Derived.Test.YtlniokcekjemdaaDoorMath5
namespace Go.Em5
open Go.RowKit

/-- Is L one token of the kind k and the text T, with nothing around it? -/
def isTok (L : List Int) (k : Int) (T : List Int) : Bool :=
  if 2000 < L.length then false else match Em4.toks L with
    | .ok [t, _] => decide (t.kind = k) && decide (t.text = T)
    | _ => false

theorem tokAt_text {L : List Int} {k n : Int} {t : List Int} {m : Nat} (h : Em4.tokAt L = some (k, t, n, m)) : t.length ≤ L.length := by
  cases L with
  | nil => simp [Em4.tokAt] at h
  | cons c r =>
    simp only [Em4.tokAt] at h
    split at h
    · unfold Em4.nameAt at h
      simp only at h
      split at h
      · simp only [Option.some.injEq, Prod.mk.injEq] at h
        rw [← h.2.1]; simp only [List.length_take]; omega
      · split at h
        · cases h
        · simp only [Option.some.injEq, Prod.mk.injEq] at h
          rw [← h.2.1]; simp only [List.length_take]; omega
    · split at h
      · unfold Em4.numAt at h
        simp only at h
        split at h
        · cases h
        · simp only [Option.some.injEq, Prod.mk.injEq] at h
          rw [← h.2.1]; simp
      · split at h
        · unfold Em4.strAt at h
          simp only at h
          split at h
          · cases h
          · simp only [Option.some.injEq, Prod.mk.injEq] at h
            rw [← h.2.1]; simp only [List.length_take, List.length_drop]; omega
        · unfold Em4.sgnAt at h
          split at h
          · cases h
          · simp only [Option.some.injEq, Prod.mk.injEq] at h
            rw [← h.2.1]
            have := Em4.tokAt_le (L := c :: r) (k := 4) (n := 0) (t := Em4.sgn (c :: r)) (m := (Em4.sgn (c :: r)).length)
            have h2 := List.IsPrefix.length_le (List.isPrefixOf_iff_prefix.1 (Em4.sgn_pre (L := c :: r)))
            exact h2
theorem toksF_text : ∀ (f i : Nat) (L : List Int) (T : List Em4.Tok), Em4.toksF f i L = .ok T → ∀ t ∈ T, t.text.length ≤ L.length
  | f, i, [], T, h => by
    cases f <;> (simp only [Em4.toksF, Except.ok.injEq] at h; subst h; simp)
  | 0, i, c :: r, T, h => by
    simp only [Em4.toksF, Except.ok.injEq] at h; subst h; simp
  | f + 1, i, c :: r, T, h => by
    simp only [Em4.toksF] at h
    split at h
    · intro t ht
      have := toksF_text f (i + 1) r T h t ht
      simp only [List.length_cons]; omega
    · split at h
      · cases h
      · rename_i k tx n m hk
        split at h
        · cases h
        · rename_i l hl
          simp only [Except.ok.injEq] at h
          subst h
          intro t ht
          simp only [List.mem_cons] at ht
          rcases ht with rfl | ht
          · exact tokAt_text hk
          · have := toksF_text f (i + m) _ l hl t ht
            simp only [List.length_drop] at this
            omega
theorem ltr_blank {c : Int} (h : Em4.ltr c = true) : Em4.blank c = false := by
  simp only [Em4.ltr, Bool.and_eq_true, decide_eq_true_eq] at h
  simp only [Em4.blank, Bool.or_eq_false_iff, decide_eq_false_iff_not]
  omega
theorem toksF_nil (f i : Nat) : Em4.toksF f i [] = .ok [⟨5, [], 0, i⟩] := by cases f <;> rfl

theorem isTok_name (L : List Int) : isTok L 1 L = Em4.nameOk L := by
  rw [Bool.eq_iff_iff]
  constructor
  · intro h
    unfold isTok at h
    split at h
    · cases h
    · split at h
      · rename_i t u hT
        simp only [Bool.and_eq_true, decide_eq_true_eq] at h
        obtain ⟨hk, ht⟩ := h
        unfold Em4.toks at hT
        cases L with
        | nil => rw [toksF_nil] at hT; simp at hT
        | cons c r =>
          simp only [List.length_cons, Em4.toksF] at hT
          split at hT
          · have := toksF_text _ _ _ _ hT t (by simp)
            rw [ht] at this
            simp at this
            omega
          · split at hT
            · cases hT
            · rename_i k tx n m hm
              split at hT
              · cases hT
              · rename_i l hl
                simp only [Except.ok.injEq, List.cons.injEq] at hT
                obtain ⟨rfl, -⟩ := hT
                simp only at hk ht
                subst hk
                simp only [Em4.tokAt] at hm
                by_cases hc : Em4.ltr c = true
                · rw [if_pos hc] at hm
                  simp only [Em4.nameOk, hc, Bool.true_and]
                  rw [hm]
                  have hm' := hm
                  unfold Em4.nameAt at hm
                  simp only at hm
                  have hs := Em4.span_le Em4.nmc ((c :: r).drop 1)
                  simp only [List.length_drop] at hs
                  split at hm
                  · simp at hm
                  · split at hm
                    · cases hm
                    · simp only [Option.some.injEq, Prod.mk.injEq] at hm
                      obtain ⟨-, h2, -, h4⟩ := hm
                      rw [ht] at h2
                      have h5 := congrArg List.length h2
                      simp only [List.length_take] at h5
                      simp only [decide_true, Bool.true_and, decide_eq_true_eq]
                      simp only [List.length_cons] at hs h5 ⊢
                      omega
                · rw [if_neg hc] at hm
                  exfalso
                  split at hm
                  · unfold Em4.numAt at hm
                    simp only at hm
                    split at hm
                    · cases hm
                    · simp at hm
                  · split at hm
                    · unfold Em4.strAt at hm
                      simp only at hm
                      split at hm
                      · cases hm
                      · simp at hm
                    · unfold Em4.sgnAt at hm
                      split at hm
                      · cases hm
                      · simp at hm
      · cases h
  · intro h
    cases L with
    | nil => simp [Em4.nameOk] at h
    | cons c r =>
      simp only [Em4.nameOk, Bool.and_eq_true] at h
      obtain ⟨hc, h⟩ := h
      split at h
      · rename_i k tx n m hm
        simp only [Bool.and_eq_true, decide_eq_true_eq] at h
        obtain ⟨rfl, hml⟩ := h
        have hm' := hm
        unfold Em4.nameAt at hm
        simp only at hm
        split at hm
        · simp at hm
        · split at hm
          · cases hm
          · rename_i h12
            simp only [Option.some.injEq, Prod.mk.injEq, true_and] at hm
            obtain ⟨h2, h3, h4⟩ := hm
            have htx : tx = c :: r := by rw [← h2, h4, hml]; simp
            have hlen : (c :: r).length ≤ 12 := by omega
            have htk : Em4.toks (c :: r) = .ok [⟨1, c :: r, 0, 0⟩, ⟨5, [], 0, m⟩] := by
              unfold Em4.toks
              simp only [List.length_cons, Em4.toksF, ltr_blank hc]
              have : Em4.tokAt (c :: r) = some (1, tx, n, m) := by simp only [Em4.tokAt, hc, if_true]; exact hm'
              rw [this, htx, ← h3]
              simp only [hml, List.drop_length, toksF_nil]
              simp
            unfold isTok
            rw [if_neg (by omega), htk]
            simp
      · cases h

theorem span_pre {p : Int → Bool} : ∀ (L : List Int) (x : Int) (r : List Int), (∀ c ∈ L, p c = true) → p x = false → Em4.span p (L ++ x :: r) = L.length
  | [], x, r, _, hx => by simp [Em4.span, hx]
  | c :: L, x, r, h, hx => by
    simp only [List.cons_append, Em4.span, h c (by simp), if_true, List.length_cons]
    rw [span_pre L x r (fun c hc => h c (by simp [hc])) hx]
theorem isTok_text (L : List Int) : isTok (34 :: (L ++ [34])) 3 L = Em4.textOk L := by
  have hS : Em4.toks (34 :: (L ++ [34])) = match Em4.strAt (34 :: (L ++ [34])) with
      | none => .error 0
      | some (k, t, n, m) => match Em4.toksF (L.length + 1) (0 + m) ((34 :: (L ++ [34])).drop m) with
        | .error j => .error j
        | .ok l => .ok (⟨k, t, n, 0⟩ :: l) := by
    unfold Em4.toks
    have e : (34 :: (L ++ [34])).length = L.length + 1 + 1 := by simp
    rw [e]
    rfl
  rw [Bool.eq_iff_iff]
  constructor
  · intro h
    unfold isTok at h
    split at h
    · cases h
    · rw [hS] at h
      have hst : ∀ x, Em4.strAt (34 :: (L ++ [34])) = x → Em4.strAt (34 :: (L ++ [34])) = x := fun _ h => h
      cases hx : Em4.strAt (34 :: (L ++ [34])) with
      | none => rw [hx] at h; simp at h
      | some q =>
        obtain ⟨k, t, n, m⟩ := q
        rw [hx] at h
        simp only at h
        split at h
        · rename_i t1 u hT
          simp only [Bool.and_eq_true, decide_eq_true_eq] at h
          obtain ⟨hk, ht⟩ := h
          split at hT
          · cases hT
          · simp only [Except.ok.injEq, List.cons.injEq] at hT
            obtain ⟨rfl, -⟩ := hT
            simp only at hk ht
            subst ht
            unfold Em4.strAt at hx
            simp only [List.drop_succ_cons, List.drop_zero] at hx
            split at hx
            · cases hx
            · rename_i hno
              simp only [not_or, Bool.not_eq_false] at hno
              simp only [Option.some.injEq, Prod.mk.injEq] at hx
              rw [← hx.2.1]
              exact hno.2
        · cases h
  · intro h
    have hp : ∀ c ∈ L, Em4.prn c = true ∧ c ≠ 34 := by
      intro c hc
      simp only [Em4.textOk, Bool.and_eq_true, List.all_eq_true] at h
      have h1 := h.1 c hc
      refine ⟨h1, ?_⟩
      simp only [Em4.prn, Bool.and_eq_true, Bool.not_eq_true', decide_eq_false_iff_not] at h1
      exact h1.2.2
    have hl : L.length ≤ 40 := by
      simp only [Em4.textOk, Bool.and_eq_true, decide_eq_true_eq] at h
      exact h.2
    have hsp : Em4.span (fun c => !decide (c = 34)) (L ++ [34]) = L.length := span_pre L 34 [] (fun c hc => by simpa using (hp c hc).2) (by simp)
    have hst : Em4.strAt (34 :: (L ++ [34])) = some (3, L, 0, L.length + 2) := by
      unfold Em4.strAt
      simp only [List.drop_succ_cons, List.drop_zero, hsp]
      have e1 : (L ++ [34]).take L.length = L := by simp
      rw [e1, h]
      rw [if_neg (by simp)]
    unfold isTok
    rw [if_neg (by simp; omega), hS, hst]
    have e2 : (34 :: (L ++ [34])).drop (L.length + 2) = [] := by
      apply List.drop_eq_nil_of_le; simp
    simp only [e2, toksF_nil]
    simp

/-! ### What a node of an op has -/
def pName (op : List Int) : Int := if op = oVar ∨ op = oFun ∨ op = oLet ∨ op = oTry ∨ op = oRec ∨ op = oMatch then 1 else if op = oStr then 2 else 0
def pArg (op : List Int) : Int := if op = oRec ∨ op = oMatch then 1 else 0
def pMost (op : List Int) : Int := if op = oInt then 999999999999999999 else if op = oBool then 1 else 0
def pKids (op : List Int) : Int := if kidsN op = -1 then 0 else kidsN op
def pOk (op : List Int) : Bool := decide (kidsN op ≠ -1)
/-- Does a Name or an Arg hold what its kind may hold? -/
def hold (L : List Int) (k : Int) : Bool := if k = 1 then Em4.nameOk L else if k = 2 then Em4.textOk L else decide (L = [])
def partsOk (op nm ar : List Int) (n : Int) (len : Nat) : Bool := pOk op && (decide (0 ≤ n) && (decide (n ≤ pMost op) && (decide ((len : Int) = pKids op) && (hold nm (pName op) && hold ar (pArg op)))))
theorem nameA_hold (op nm : List Int) : nameA op nm = hold nm (pName op) := by
  unfold nameA hold pName
  by_cases h : op = oVar ∨ op = oFun ∨ op = oLet ∨ op = oTry ∨ op = oRec ∨ op = oMatch
  · simp [h]
  · rw [if_neg h, if_neg h]
    by_cases h2 : op = oStr
    · simp [h2]
    · simp [h2]
theorem nameB_hold (op ar : List Int) : nameB op ar = hold ar (pArg op) := by
  unfold nameB hold pArg
  by_cases h : op = oRec ∨ op = oMatch
  · simp [h]
  · simp [h]
theorem numOk_most (op : List Int) (n : Int) : numOk op n = (decide (0 ≤ n) && decide (n ≤ pMost op)) := by
  unfold numOk pMost
  by_cases h : op = oInt
  · simp [h]
  · rw [if_neg h, if_neg h]
    by_cases h2 : op = oBool
    · rw [if_pos h2, if_pos h2, Bool.eq_iff_iff]
      simp only [Bool.or_eq_true, Bool.and_eq_true, decide_eq_true_eq]
      omega
    · rw [if_neg h2, if_neg h2, Bool.eq_iff_iff]
      simp only [Bool.and_eq_true, decide_eq_true_eq]
      omega
theorem partsOk_eq (op nm ar : List Int) (n p : Int) (l : List Nd) : partsOk op nm ar n l.length = (decide (kidsN op = l.length) && namesOk (.mk op nm ar n p l)) := by
  unfold partsOk namesOk pOk pKids
  simp only [Nd.op, Nd.nm, Nd.ar, Nd.n]
  rw [nameA_hold, nameB_hold, numOk_most]
  by_cases h : kidsN op = -1
  · have h2 : ¬ kidsN op = (l.length : Int) := by omega
    simp only [h2, decide_false, Bool.false_and]
    simp [h]
  · have e : decide ((l.length : Int) = (if kidsN op = -1 then 0 else kidsN op)) = decide (kidsN op = (l.length : Int)) := by
      rw [if_neg h, decide_eq_decide]; omega
    rw [e, decide_eq_true h]
    cases decide (kidsN op = (l.length : Int)) <;> cases hold nm (pName op) <;> cases hold ar (pArg op) <;> cases decide (0 ≤ n) <;> cases decide (n ≤ pMost op) <;> rfl
end Go.Em5

/- The plain mathematics of chapter 4 (lex): tokens. No program is named here. -/
import Derived.Test.YtbiihiibebdjgaaStr
namespace Go.Em4
open Go.RowKit

def ltr (c : Int) : Bool := decide (97 ≤ c) && decide (c ≤ 122)
def dgt (c : Int) : Bool := decide (48 ≤ c) && decide (c ≤ 57)
def nmc (c : Int) : Bool := ltr c || (dgt c || (decide (c = 95) || decide (c = 39)))
def blank (c : Int) : Bool := decide (c = 32) || (decide (c = 9) || decide (c = 10))
/-- A byte that a string may have. -/
def prn (c : Int) : Bool := decide (32 ≤ c) && (decide (c ≤ 126) && !decide (c = 34))
def words : List (List Int) := [[108, 101, 116], [114, 101, 99], [105, 110], [102, 117, 110], [105, 102], [116, 104, 101, 110], [101, 108, 115, 101], [109, 97, 116, 99, 104], [119, 105, 116, 104], [116, 114, 121], [114, 97, 105, 115, 101], [116, 114, 117, 101], [102, 97, 108, 115, 101], [102, 115, 116], [115, 110, 100], [114, 101, 102], [99, 101, 108, 108], [116, 97, 103], [108, 105, 110, 107, 115], [108, 105, 110, 107], [115, 105, 122, 101], [112, 114, 105, 110, 116]]
def signs : List (List Int) := [[58, 61], [58, 58], [45, 62], [40], [41], [91], [93], [44], [59], [61], [60], [43], [45], [42], [94], [33], [124]]
/-- How many bytes there are ahead of the first one that is not such. -/
def span (p : Int → Bool) : List Int → Nat
  | [] => 0
  | c :: r => if p c then span p r + 1 else 0
def dec (L : List Int) : Int := L.foldl (fun v c => 10 * v + (c - 48)) 0
def sgn (L : List Int) : List Int := ((signs.find? fun s => s.isPrefixOf L).getD [])
/-- A token: its kind, its text, its number, where it begins. -/
structure Tok where
  kind : Int
  text : List Int
  num : Int
  pos : Nat
deriving DecidableEq

def textOk (L : List Int) : Bool := L.all prn && decide (L.length ≤ 40)
def nameAt (L : List Int) : Option (Int × List Int × Int × Nat) :=
  let n := 1 + span nmc (L.drop 1)
  if L.take n ∈ words then some (4, L.take n, 0, n) else if 12 < n then none else some (1, L.take n, 0, n)
def numAt (L : List Int) : Option (Int × List Int × Int × Nat) :=
  let n := span dgt L
  if 18 < n ∨ (1 < n ∧ L.head? = some 48) then none else some (2, [], dec (L.take n), n)
def strAt (L : List Int) : Option (Int × List Int × Int × Nat) :=
  let m := span (fun c => !decide (c = 34)) (L.drop 1)
  if m = L.length - 1 ∨ textOk ((L.drop 1).take m) = false then none else some (3, (L.drop 1).take m, 0, m + 2)
def sgnAt (L : List Int) : Option (Int × List Int × Int × Nat) :=
  if sgn L = [] then none else some (4, sgn L, 0, (sgn L).length)
/-- The token that stands at the head, and how many bytes it has. -/
def tokAt : List Int → Option (Int × List Int × Int × Nat)
  | [] => none
  | c :: r => if ltr c then nameAt (c :: r) else if dgt c then numAt (c :: r) else if c = 34 then strAt (c :: r) else sgnAt (c :: r)

/-- All tokens from the place i on, or the place of the first error. -/
def toksF : Nat → Nat → List Int → Except Nat (List Tok)
  | _, i, [] => .ok [⟨5, [], 0, i⟩]
  | 0, _, _ :: _ => .ok []
  | f + 1, i, c :: r =>
    if blank c then toksF f (i + 1) r
    else match tokAt (c :: r) with
      | none => .error i
      | some (k, t, n, m) => match toksF f (i + m) ((c :: r).drop m) with
        | .error j => .error j
        | .ok l => .ok (⟨k, t, n, i⟩ :: l)
def toks (L : List Int) : Except Nat (List Tok) := toksF L.length 0 L

/-- Is it one whole name? -/
def nameOk (L : List Int) : Bool := match L with
  | [] => false
  | c :: _ => ltr c && (match nameAt L with
    | some (k, _, _, m) => decide (k = 1) && decide (m = L.length)
    | none => false)

/-! ### Spans -/
theorem span_le (p : Int → Bool) : ∀ L, span p L ≤ L.length
  | [] => by simp [span]
  | c :: r => by
    unfold span
    have := span_le p r
    split <;> simp <;> omega
theorem span_all (p : Int → Bool) : ∀ (L : List Int) (j : Nat), j < span p L → p (L[j]?.getD 0) = true
  | [], j, h => by simp [span] at h
  | c :: r, j, h => by
    unfold span at h
    split at h
    · rename_i hc
      cases j with
      | zero => simpa using hc
      | succ j => simpa using span_all p r j (by omega)
    · omega
theorem span_stop (p : Int → Bool) : ∀ (L : List Int), span p L < L.length → p (L[span p L]?.getD 0) = false
  | [], h => by simp [span] at h
  | c :: r, h => by
    unfold span at h ⊢
    split
    · rename_i hc
      simp only [hc, if_true] at h
      simpa using span_stop p r (by simpa using h)
    · rename_i hc
      simpa using hc
/-- A span ends where the first byte that is not such stands, or where all ends. -/
theorem span_eq {p : Int → Bool} {L : List Int} {n : Nat} (hn : n ≤ L.length) (h1 : ∀ j, j < n → p (L[j]?.getD 0) = true) (h2 : n < L.length → p (L[n]?.getD 0) = false) : span p L = n := by
  rcases Nat.lt_trichotomy (span p L) n with h | h | h
  · have := span_stop p L (by omega)
    rw [h1 _ h] at this
    cases this
  · exact h
  · have := span_all p L n h
    have hs := span_le p L
    rw [h2 (by omega)] at this
    cases this
theorem tokAt_pos {L : List Int} {k n : Int} {t : List Int} {m : Nat} (h : tokAt L = some (k, t, n, m)) : 0 < m := by
  cases L with
  | nil => simp [tokAt] at h
  | cons c r =>
    simp only [tokAt] at h
    split at h
    · unfold nameAt at h
      simp only at h
      split at h
      · simp at h; omega
      · split at h
        · cases h
        · simp at h; omega
    · split at h
      · rename_i hd
        unfold numAt at h
        simp only at h
        split at h
        · cases h
        · simp only [Option.some.injEq, Prod.mk.injEq] at h
          rw [← h.2.2.2]; unfold span; rw [if_pos hd]; omega
      · split at h
        · unfold strAt at h
          simp only at h
          split at h
          · cases h
          · simp at h; omega
        · unfold sgnAt at h
          split at h
          · cases h
          · rename_i hs
            simp only [Option.some.injEq, Prod.mk.injEq] at h
            rw [← h.2.2.2]; exact List.length_pos_iff.2 hs
theorem sgn_pre {L : List Int} : (sgn L).isPrefixOf L = true := by
  unfold sgn
  cases h : signs.find? fun s => s.isPrefixOf L with
  | none => simp
  | some s => simpa using List.find?_some h
theorem tokAt_le {L : List Int} {k n : Int} {t : List Int} {m : Nat} (h : tokAt L = some (k, t, n, m)) : m ≤ L.length := by
  cases L with
  | nil => simp [tokAt] at h
  | cons c r =>
    simp only [tokAt] at h
    split at h
    · unfold nameAt at h
      simp only at h
      have hs := span_le nmc ((c :: r).drop 1)
      simp only [List.drop_succ_cons, List.drop_zero] at hs h
      split at h
      · simp at h; simp; omega
      · split at h
        · cases h
        · simp at h; simp; omega
    · split at h
      · unfold numAt at h
        simp only at h
        have hs := span_le dgt (c :: r)
        split at h
        · cases h
        · simp only [Option.some.injEq, Prod.mk.injEq] at h
          rw [← h.2.2.2]; exact hs
      · split at h
        · unfold strAt at h
          simp only at h
          have hs := span_le (fun c => !decide (c = 34)) ((c :: r).drop 1)
          simp only [List.drop_succ_cons, List.drop_zero, List.length_cons, Nat.add_sub_cancel] at hs h
          split at h
          · cases h
          · rename_i hn
            simp only [Option.some.injEq, Prod.mk.injEq] at h
            simp only [List.length_cons]
            omega
        · unfold sgnAt at h
          split at h
          · cases h
          · simp only [Option.some.injEq, Prod.mk.injEq] at h
            rw [← h.2.2.2]
            have := sgn_pre (L := c :: r)
            rw [List.isPrefixOf_iff_prefix] at this
            exact this.length_le
/-- The fuel does not matter, if there is enough. -/
theorem toksF_more : ∀ (f g i : Nat) (L : List Int), L.length ≤ f → L.length ≤ g → toksF f i L = toksF g i L
  | f, g, i, [], _, _ => by cases f <;> cases g <;> rfl
  | 0, g, i, c :: r, h, _ => by simp at h
  | f + 1, 0, i, c :: r, _, h => by simp at h
  | f + 1, g + 1, i, c :: r, hf, hg => by
    unfold toksF
    simp only [List.length_cons] at hf hg
    split
    · exact toksF_more f g (i + 1) r (by omega) (by omega)
    · cases ht : tokAt (c :: r) with
      | none => rfl
      | some p =>
        obtain ⟨k, t, n, m⟩ := p
        have hm := tokAt_pos ht
        have hl : ((c :: r).drop m).length ≤ r.length := by simp; omega
        simp only
        rw [toksF_more f g (i + m) ((c :: r).drop m) (by omega) (by omega)]
theorem toks_blank {L : List Int} {i : Nat} {c : Int} {r : List Int} (hd : L.drop i = c :: r) (hb : blank c = true) : toksF (L.drop i).length i (L.drop i) = toksF (L.drop (i + 1)).length (i + 1) (L.drop (i + 1)) := by
  have e : L.drop (i + 1) = r := by rw [← List.drop_drop, hd]; rfl
  rw [hd, e]
  simp only [List.length_cons]
  conv => lhs; unfold toksF
  rw [if_pos hb]
theorem toks_none {L : List Int} {i : Nat} {c : Int} {r : List Int} (hd : L.drop i = c :: r) (hb : blank c = false) (ht : tokAt (c :: r) = none) : toksF (L.drop i).length i (L.drop i) = .error i := by
  rw [hd]
  simp only [List.length_cons]
  unfold toksF
  rw [if_neg (by rw [hb]; decide), ht]
/-- A token ahead. -/
def cns (t : Tok) : Except Nat (List Tok) → Except Nat (List Tok)
  | .error j => .error j
  | .ok l => .ok (t :: l)
theorem toks_some {L : List Int} {i : Nat} {c : Int} {r : List Int} {k n : Int} {t : List Int} {m : Nat} (hd : L.drop i = c :: r) (hb : blank c = false) (ht : tokAt (c :: r) = some (k, t, n, m)) :
    toksF (L.drop i).length i (L.drop i) = cns ⟨k, t, n, i⟩ (toksF (L.drop (i + m)).length (i + m) (L.drop (i + m))) := by
  have e : L.drop (i + m) = (c :: r).drop m := by rw [← List.drop_drop, hd]
  have hm := tokAt_pos ht
  rw [e, hd]
  simp only [List.length_cons]
  conv => lhs; unfold toksF
  rw [if_neg (by rw [hb]; decide), ht]
  simp only
  rw [toksF_more r.length ((c :: r).drop m).length (i + m) _ (by simp; omega) (Nat.le_refl _)]
  rfl
theorem toks_end {L : List Int} {i : Nat} (h : i = L.length) : toksF (L.drop i).length i (L.drop i) = .ok [⟨5, [], 0, L.length⟩] := by
  rw [h, List.drop_length]; rfl
/-! ### Numbers -/
theorem dec_snoc (L : List Int) (c : Int) : dec (L ++ [c]) = 10 * dec L + (c - 48) := by simp [dec]
theorem take_snoc {L : List Int} {k : Nat} (h : k < L.length) : L.take (k + 1) = L.take k ++ [L[k]?.getD 0] := by
  rw [List.take_succ_eq_append_getElem h, List.getElem?_eq_getElem h]; rfl
theorem dec_bd : ∀ (n : Nat) (L : List Int), n ≤ L.length → (∀ j, j < n → dgt (L[j]?.getD 0) = true) → 0 ≤ dec (L.take n) ∧ dec (L.take n) < 10 ^ n
  | 0, L, _, _ => by simp [dec]
  | n + 1, L, hn, h => by
    have ih := dec_bd n L (by omega) (fun j hj => h j (by omega))
    have hd := h n (by omega)
    rw [take_snoc (by omega), dec_snoc]
    simp only [dgt, Bool.and_eq_true, decide_eq_true_eq] at hd
    rw [Int.pow_succ]
    omega
end Go.Em4

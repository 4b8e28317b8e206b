/- The plain mathematics of chapter 1, more: what Put makes Get reads; what is no number; the document's own test. -/
import Derived.Test.YtecoopclaogoiaaMath1
namespace Go.Em1
open Go.RowKit

theorem pow9 : (128 : Nat) ^ 9 = 9223372036854775808 := by decide

/-- A number below the bound, k groups up, is small where k is great. -/
theorem k_small {k v : Nat} (h : v * 128 ^ k < 18446744073709551616) (hv : 128 ≤ v) : k ≤ 8 := by
  apply Classical.byContradiction
  intro hk
  have h1 : (128 : Nat) ^ 9 ≤ 128 ^ k := Nat.pow_le_pow_right (by decide) (by omega)
  have h2 : 128 * 128 ^ 9 ≤ v * 128 ^ k := Nat.mul_le_mul hv h1
  rw [pow9] at h2
  omega
theorem v_small {v : Nat} (h : v * 128 ^ 9 < 18446744073709551616) : v ≤ 1 := by
  rw [pow9] at h; omega

/-- Get of Put, whatever stands behind it. -/
theorem getR_put : ∀ (f v k X : Nat) (more : List Int), v < 128 ^ (f + 1) → v * 128 ^ k < 18446744073709551616 → k ≤ 9 → (0 < k → 0 < v) →
    getR k X (putF f v ++ more) = some (X + v * 128 ^ k, k + (putF f v).length) := by
  intro f
  induction f with
  | zero =>
    intro v k X more hf hb hk h0
    simp at hf
    have hv := putF_small 0 v hf
    rw [hv]
    have e : ((v : Int) % 128).toNat = v := by omega
    have := getR_end k X (v : Int) more (by rcases Nat.lt_or_ge k 9 with h | h
                                            · exact .inl h
                                            · right; have : k = 9 := by omega
                                              subst this; have := v_small hb; omega) (by omega) (by by_cases h : 0 < k
                                                                                                    · left; have := h0 h; omega
                                                                                                    · right; omega)
    rw [e] at this
    simpa using this
  | succ f ih =>
    intro v k X more hf hb hk h0
    by_cases hs : v < 128
    · rw [putF_small _ v hs]
      have e : ((v : Int) % 128).toNat = v := by omega
      have := getR_end k X (v : Int) more (by rcases Nat.lt_or_ge k 9 with h | h
                                              · exact .inl h
                                              · right; have : k = 9 := by omega
                                                subst this; have := v_small hb; omega) (by omega) (by by_cases h : 0 < k
                                                                                                      · left; have := h0 h; omega
                                                                                                      · right; omega)
      rw [e] at this
      simpa using this
    · rw [putF_big f v (by omega)]
      have hk8 := k_small hb (by omega)
      have e : (((v % 128 + 128 : Nat) : Int) % 128).toNat = v % 128 := by omega
      have hon := getR_on k X ((v % 128 + 128 : Nat) : Int) (putF f (v / 128) ++ more) (by omega) (by omega)
      rw [e] at hon
      have hsplit : v / 128 * 128 ^ (k + 1) + v % 128 * 128 ^ k = v * 128 ^ k := by
        rw [Nat.pow_succ, Nat.mul_comm (128 ^ k) 128, ← Nat.mul_assoc, ← Nat.add_mul]
        congr 1
        omega
      have hi := ih (v / 128) (k + 1) (X + v % 128 * 128 ^ k) more (by
        rw [Nat.pow_succ] at hf
        exact Nat.div_lt_of_lt_mul (by rw [Nat.mul_comm]; exact hf)) (by omega) (by omega) (by omega)
      show getR k X (((v % 128 + 128 : Nat) : Int) :: (putF f (v / 128) ++ more)) = _
      rw [hon, hi]
      simp only [List.length_cons, Option.some.injEq, Prod.mk.injEq]
      omega
theorem get_put (v : Nat) (more : List Int) (h : v < 18446744073709551616) : get (put v ++ more) = some (v, (put v).length) := by
  have := getR_put 10 v 0 0 more (Nat.lt_of_lt_of_le h pow_big) (by simpa using h) (by omega) (by omega)
  simpa [get, put] using this

/-- Bytes that all go on are no number. -/
theorem getR_on_all : ∀ (L : List Int) (k X : Nat), (∀ x ∈ L, 128 ≤ x) → k ≤ 9 → getR k X L = none
  | [], _, _, _, _ => rfl
  | c :: r, k, X, h, hk => by
    have hc := h c (by simp)
    by_cases h9 : k = 9
    · exact getR_great k X c r h9 (by omega)
    · rw [getR_on k X c r (by omega) hc]
      exact getR_on_all r (k + 1) _ (fun x hx => h x (by simp [hx])) (by omega)
/-- .. nor with a nought group at their end. -/
theorem getR_nought : ∀ (L : List Int) (k X : Nat), (∀ x ∈ L, 128 ≤ x) → k ≤ 9 → (L = [] → 0 < k) → getR k X (L ++ [0]) = none
  | [], k, X, _, _, h0 => getR_zero k X 0 [] rfl (h0 rfl)
  | c :: r, k, X, h, hk, _ => by
    have hc := h c (by simp)
    by_cases h9 : k = 9
    · exact getR_great k X c _ h9 (by omega)
    · show getR k X (c :: (r ++ [0])) = none
      rw [getR_on k X c _ (by omega) hc]
      exact getR_nought r (k + 1) _ (fun x hx => h x (by simp [hx])) (by omega) (by omega)

/-- Put's bytes: all but the last go on. -/
theorem putF_parts : ∀ (f v : Nat), v < 128 ^ (f + 1) → ∃ (P : List Int) (c : Int), putF f v = P ++ [c] ∧ (∀ x ∈ P, 128 ≤ x ∧ x ≤ 255) ∧ 0 ≤ c ∧ c < 128 ∧ (0 < v → c ≠ 0) := by
  intro f
  induction f with
  | zero =>
    intro v h
    simp at h
    exact ⟨[], v, by rw [putF_small 0 v h]; rfl, by simp, by omega, by omega, by omega⟩
  | succ f ih =>
    intro v h
    by_cases hs : v < 128
    · exact ⟨[], v, by rw [putF_small _ v hs]; rfl, by simp, by omega, by omega, by omega⟩
    · obtain ⟨P, c, e, hP, h0, h1, h2⟩ := ih (v / 128) (by
        rw [Nat.pow_succ] at h
        exact Nat.div_lt_of_lt_mul (by rw [Nat.mul_comm]; exact h))
      refine ⟨((v % 128 + 128 : Nat) : Int) :: P, c, by rw [putF_big f v (by omega), e]; rfl, ?_, h0, h1, fun _ => h2 (by omega)⟩
      intro x hx
      simp only [List.mem_cons] at hx
      rcases hx with rfl | hx
      · omega
      · exact hP x hx

/-- Cut short, or with a nought group at its end, a number is none. -/
theorem least (v : Nat) (h : v < 18446744073709551616) : ∃ (P : List Int) (c : Int), put v = P ++ [c] ∧ 0 ≤ c ∧ c < 128 ∧ get P = none ∧ get (P ++ [c + 128] ++ [0]) = none ∧ (∀ x ∈ P ++ [c + 128] ++ [0], 0 ≤ x ∧ x ≤ 255) := by
  obtain ⟨P, c, e, hP, h0, h1, -⟩ := putF_parts 10 v (Nat.lt_of_lt_of_le h pow_big)
  refine ⟨P, c, e, h0, h1, getR_on_all P 0 0 (fun x hx => (hP x hx).1) (by omega), getR_nought (P ++ [c + 128]) 0 0 ?_ (by omega) (by simp), ?_⟩
  · intro x hx
    simp only [List.mem_append, List.mem_singleton] at hx
    rcases hx with hx | rfl
    · exact (hP x hx).1
    · omega
  · intro x hx
    simp only [List.mem_append, List.mem_singleton] at hx
    rcases hx with (hx | rfl) | rfl
    · have := hP x hx; omega
    · omega
    · omega
theorem or128_small (c : Int) (h0 : 0 ≤ c) (h1 : c < 128) : bits .or .u8 c 128 = c + 128 := u8_or128_right c h0 h1

/-! ### The document's own test: Put of the number is what it was read of -/
theorem val_snoc : ∀ (P : List Int) (c : Int), val (P ++ [c]) = val P + (c % 128).toNat * 128 ^ P.length
  | [], c => by simp [val]
  | p :: P, c => by
    simp only [List.cons_append, val, val_snoc P c, List.length_cons, Nat.pow_succ]
    rw [Nat.mul_add, ← Nat.mul_assoc, ← Nat.mul_assoc, Nat.mul_comm 128 ((c % 128).toNat), Nat.mul_assoc _ 128, Nat.mul_assoc _ (128 ^ P.length), Nat.mul_comm 128 (128 ^ P.length)]
    omega
theorem val_lt : ∀ (P : List Int), val P < 128 ^ P.length
  | [] => by simp [val]
  | p :: P => by
    have := val_lt P
    simp only [val, List.length_cons, Nat.pow_succ]
    have h : (p % 128).toNat < 128 := by omega
    have h2 : val P + 1 ≤ 128 ^ P.length := this
    have h3 : (val P + 1) * 128 ≤ 128 ^ P.length * 128 := Nat.mul_le_mul_right _ h2
    omega
theorem putF_val : ∀ (P : List Int) (c : Int) (f : Nat), (∀ x ∈ P, 128 ≤ x ∧ x ≤ 255) → 0 ≤ c → c < 128 → (c ≠ 0 ∨ P = []) → P.length ≤ f → putF f (val (P ++ [c])) = P ++ [c] ∧ (P ≠ [] ∨ c ≠ 0 → 0 < val (P ++ [c]))
  | [], c, f, _, h0, h1, hc, _ => by
    have e : val ([] ++ [c]) = c.toNat := by simp [val]; omega
    rw [e]
    refine ⟨?_, by intro h; simp at h; omega⟩
    rw [putF_small f _ (by omega)]
    simp; omega
  | p :: P, c, f, hP, h0, h1, hc, hf => by
    have hcn : c ≠ 0 := by rcases hc with h | h
                           · exact h
                           · cases h
    have hp := hP p (by simp)
    cases f with
    | zero => simp at hf
    | succ f =>
      obtain ⟨ih, ihp⟩ := putF_val P c f (fun x hx => hP x (by simp [hx])) h0 h1 (.inl hcn) (by simpa using hf)
      have hpos := ihp (.inr hcn)
      have e : val (p :: P ++ [c]) = (p % 128).toNat + 128 * val (P ++ [c]) := rfl
      rw [e]
      refine ⟨?_, by intro _; omega⟩
      rw [putF_big f _ (by omega)]
      have e1 : ((p % 128).toNat + 128 * val (P ++ [c])) / 128 = val (P ++ [c]) := by omega
      have e2 : ((((p % 128).toNat + 128 * val (P ++ [c])) % 128 + 128 : Nat) : Int) = p := by omega
      rw [e1, e2, ih]
      rfl
theorem val_putF (f v : Nat) (h : v < 128 ^ (f + 1)) : val (putF f v) = v := by
  induction f generalizing v with
  | zero => simp at h; rw [putF_small 0 v h]; simp [val]; omega
  | succ f ih =>
    by_cases hs : v < 128
    · rw [putF_small _ v hs]; simp [val]; omega
    · rw [putF_big f v (by omega)]
      have := ih (v / 128) (by
        rw [Nat.pow_succ] at h
        exact Nat.div_lt_of_lt_mul (by rw [Nat.mul_comm]; exact h))
      simp only [val, this]
      omega

/-- The document's Get: the groups P go on, c ends them, V is what they come to in 64 digits. -/
theorem doc_test {P : List Int} {c : Int} {V k X : Nat} {r : List Int} (hP : ∀ x ∈ P, 128 ≤ x ∧ x ≤ 255) (hk : P.length = k) (hk9 : k ≤ 9) (h0 : 0 ≤ c) (h1 : c < 128) (hX : X = val P)
    (hV : V < 18446744073709551616) (hVs : (k = 9 → c ≤ 1) → V = X + (c % 128).toNat * 128 ^ k) :
    (put V = P ++ [c] → getR k X (c :: r) = some (V, k + 1)) ∧ (put V ≠ P ++ [c] → getR k X (c :: r) = none) := by
  constructor
  · intro h
    have hval : V = val (P ++ [c]) := by rw [← h]; exact (val_putF 10 V (Nat.lt_of_lt_of_le hV pow_big)).symm
    have hvs := val_snoc P c
    have h9 : k = 9 → c ≤ 1 := by
      intro e
      rw [hk, e, pow9] at hvs
      omega
    have hVe := hVs h9
    rw [getR_end k X c r (by omega) h1 (by
      by_cases hk0 : k = 0
      · exact .inr hk0
      · left
        intro hc
        subst hc
        obtain ⟨P', c', e, -, -, -, hne⟩ := putF_parts 10 V (Nat.lt_of_lt_of_le hV pow_big)
        have e2 : P' ++ [c'] = P ++ [0] := by rw [← e]; exact h
        have e3 := List.append_inj' e2 rfl
        have hc' : c' = 0 := by simpa using e3.2
        have hV0 : V = 0 := by
          apply Classical.byContradiction
          intro hn
          exact hne (by omega) hc'
        rw [hV0] at h
        have : (put 0).length = (P ++ [0]).length := by rw [h]
        have hp0 : (put 0).length = 1 := by decide
        rw [hp0] at this
        simp only [List.length_append, List.length_cons, List.length_nil] at this
        omega)]
    rw [← hVe]
  · intro h
    by_cases h9 : k = 9 ∧ 1 < c
    · exact getR_great k X c r h9.1 h9.2
    · have hVe := hVs (by omega)
      by_cases hz : c = 0 ∧ 0 < k
      · exact getR_zero k X c r hz.1 hz.2
      · exfalso
        apply h
        have hvs := val_snoc P c
        rw [hk, ← hX] at hvs
        rw [hVe, ← hvs]
        exact (putF_val P c 10 hP h0 h1 (by
          by_cases hk0 : 0 < k
          · left; intro hc; exact hz ⟨hc, hk0⟩
          · right; exact List.length_eq_zero_iff.1 (by omega)) (by omega)).1

/-- v | uint64(c)<<(7*k) in 64 digits, whatever c: a number of 64 digits; where it fits, the sum. -/
theorem or_any (k X : Nat) (m : Int) (hk : k ≤ 9) (hX : X < 128 ^ k) (h0 : 0 ≤ m) (h1 : m < 128) :
    ∃ V : Nat, bits .or .u64 (X : Int) (IntKind.u64.wrap (m * 2 ^ (7 * k))) = (V : Int) ∧ V < 18446744073709551616 ∧ ((k = 9 → m ≤ 1) → V = X + m.toNat * 128 ^ k) := by
  by_cases h : k = 9 → m ≤ 1
  · obtain ⟨e1, -, e3⟩ := or_shift k X m hk hX h0 h1 h
    exact ⟨_, e1, e3, fun _ => rfl⟩
  · have hX2 : X < 18446744073709551616 := by
      have h2 : (128 : Nat) ^ k ≤ 128 ^ 9 := Nat.pow_le_pow_right (by decide) hk
      rw [pow9] at h2; omega
    have hw : 0 ≤ IntKind.u64.wrap (m * 2 ^ (7 * k)) ∧ IntKind.u64.wrap (m * 2 ^ (7 * k)) < 18446744073709551616 := by
      rw [IntKind.wrap_u64]; omega
    rw [u64_or _ _ (by omega) (by omega) hw.1 hw.2]
    refine ⟨_, rfl, ?_, fun hh => absurd hh h⟩
    have := Nat.or_lt_two_pow (n := 64) (x := (X : Int).toNat) (y := (IntKind.u64.wrap (m * 2 ^ (7 * k))).toNat) (by omega) (by omega)
    omega
theorem take_snoc {L : List Int} {k : Nat} (h : k < L.length) : L.take (k + 1) = L.take k ++ [L[k]?.getD 0] := by
  rw [List.take_add_one]
  simp [h]
end Go.Em1

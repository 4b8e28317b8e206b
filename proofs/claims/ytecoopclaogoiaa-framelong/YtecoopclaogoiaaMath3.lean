/- The plain mathematics of chapter 3 (frame): a message as bytes. No program is named here. -/
import Derived.Test.YtecoopclaogoiaaMath1b
import Derived.Test.YtecoopclaogoiaaMath2
namespace Go.Em3
open Go.RowKit

/-- A number in four bytes, the highest first. -/
def be4 (x : Int) : List Int := [x / 16777216 % 256, x / 65536 % 256, x / 256 % 256, x % 256]
/-- All but the sum. -/
def head (k : Int) (B : List Int) : List Int := k :: (Em1.put B.length ++ B)
/-- The frame. -/
def frm (k : Int) (B : List Int) : List Int := head k B ++ be4 (Em2.adler (head k B))
/-- What stands at the head of some bytes. -/
def fget : List Int → Option (Int × List Int × Nat)
  | [] => none
  | k :: r => match Em1.get r with
    | none => none
    | some (v, n) => if 4000 < v ∨ r.length + 1 < n + v + 5 then none
      else if frm k ((r.drop n).take v) = (k :: r).take (frm k ((r.drop n).take v)).length then some (k, (r.drop n).take v, (frm k ((r.drop n).take v)).length) else none

theorem be4_len (x : Int) : (be4 x).length = 4 := rfl
theorem be4_bytes (x : Int) : ∀ c ∈ be4 x, 0 ≤ c ∧ c ≤ 255 := by
  intro c hc; simp only [be4, List.mem_cons, List.not_mem_nil, or_false] at hc; omega
theorem be4_inj {x y : Int} (hx : 0 ≤ x) (hx2 : x ≤ 4293984240) (hy : 0 ≤ y) (hy2 : y ≤ 4293984240) (h : be4 x = be4 y) : x = y := by
  simp only [be4, List.cons.injEq, and_true] at h; omega
theorem head_len (k : Int) (B : List Int) : (head k B).length = 1 + (Em1.put B.length).length + B.length := by
  simp [head]; omega
theorem frm_len (k : Int) (B : List Int) : (frm k B).length = (Em1.put B.length).length + B.length + 5 := by
  simp [frm, head_len, be4_len]; omega
theorem head_bytes {k : Int} {B : List Int} (h0 : 0 ≤ k) (h1 : k ≤ 255) (hB : ∀ c ∈ B, 0 ≤ c ∧ c ≤ 255) (hl : B.length < 18446744073709551616) : ∀ c ∈ head k B, 0 ≤ c ∧ c ≤ 255 := by
  intro c hc
  simp only [head, List.mem_cons, List.mem_append] at hc
  rcases hc with rfl | hc | hc
  · exact ⟨h0, h1⟩
  · exact Em1.put_bytes _ hl c hc
  · exact hB c hc
theorem frm_bytes {k : Int} {B : List Int} (h0 : 0 ≤ k) (h1 : k ≤ 255) (hB : ∀ c ∈ B, 0 ≤ c ∧ c ≤ 255) (hl : B.length < 18446744073709551616) : ∀ c ∈ frm k B, 0 ≤ c ∧ c ≤ 255 := by
  intro c hc
  simp only [frm, List.mem_append] at hc
  rcases hc with hc | hc
  · exact head_bytes h0 h1 hB hl c hc
  · exact be4_bytes _ c hc

/-- What a number's bytes are read as is a number of 64 digits, and these are its bytes. -/
theorem getR_sound : ∀ (L : List Int) (k X : Nat) (P : List Int) (v n : Nat), P.length = k → (∀ x ∈ P, 128 ≤ x ∧ x ≤ 255) → X = Em1.val P → (∀ x ∈ L, 0 ≤ x ∧ x ≤ 255) → k ≤ 9 → Em1.getR k X L = some (v, n) →
    k < n ∧ n - k ≤ L.length ∧ Em1.put v = P ++ L.take (n - k) ∧ v < 18446744073709551616
  | [], k, X, P, v, n, _, _, _, _, _, h => by simp [Em1.getR] at h
  | c :: r, k, X, P, v, n, hk, hP, hX, hL, h9, h => by
    have hc := hL c (by simp)
    by_cases hg : k = 9 ∧ 1 < c
    · rw [Em1.getR_great k X c r hg.1 hg.2] at h; cases h
    by_cases h128 : 128 ≤ c
    · have hk9 : k < 9 := by omega
      rw [Em1.getR_on k X c r hk9 h128] at h
      obtain ⟨a1, a2, a3, a4⟩ := getR_sound r (k + 1) _ (P ++ [c]) v n (by simp [hk]) (by
        intro x hx
        simp only [List.mem_append, List.mem_singleton] at hx
        rcases hx with hx | rfl
        · exact hP x hx
        · omega) (by rw [Em1.val_snoc, hk, ← hX]) (fun x hx => hL x (by simp [hx])) (by omega) h
      refine ⟨by omega, by simp; omega, ?_, a4⟩
      rw [a3, show n - k = (n - (k + 1)) + 1 by omega, List.take_succ_cons]
      simp
    · by_cases hz : c = 0 ∧ 0 < k
      · rw [Em1.getR_zero k X c r hz.1 hz.2] at h; cases h
      rw [Em1.getR_end k X c r (by omega) (by omega) (by omega)] at h
      simp only [Option.some.injEq, Prod.mk.injEq] at h
      obtain ⟨h1, h2⟩ := h
      have hv : v = Em1.val (P ++ [c]) := by rw [Em1.val_snoc, hk, ← hX]; exact h1.symm
      have hp := (Em1.putF_val P c 10 hP hc.1 (by omega) (by
        by_cases h0 : c = 0
        · right; exact List.length_eq_zero_iff.1 (by omega)
        · left; exact h0) (by omega)).1
      refine ⟨by omega, by simp; omega, ?_, ?_⟩
      · rw [show n - k = 1 by omega, hv]; simpa [Em1.put] using hp
      · have hlt := Em1.val_lt P
        rw [hk, ← hX] at hlt
        rw [← h1]
        have hcm : (c % 128).toNat = c.toNat := by omega
        rw [hcm]
        by_cases hk9 : k = 9
        · subst hk9
          rw [Em1.pow9] at *
          have : c.toNat ≤ 1 := by omega
          omega
        · have e1 : 128 ^ (k + 1) ≤ 128 ^ 9 := Nat.pow_le_pow_right (by omega) (by omega)
          rw [Em1.pow9] at e1
          have e2 : c.toNat * 128 ^ k ≤ 127 * 128 ^ k := Nat.mul_le_mul_right _ (by omega)
          rw [Nat.pow_succ] at e1
          omega
theorem get_sound {L : List Int} {v n : Nat} (hL : ∀ x ∈ L, 0 ≤ x ∧ x ≤ 255) (h : Em1.get L = some (v, n)) : 0 < n ∧ n ≤ L.length ∧ Em1.put v = L.take n ∧ v < 18446744073709551616 := by
  have := getR_sound L 0 0 [] v n rfl (by simp) rfl hL (by omega) h
  simpa using this
theorem get_len {L : List Int} {v n : Nat} (hL : ∀ x ∈ L, 0 ≤ x ∧ x ≤ 255) (h : Em1.get L = some (v, n)) : n = (Em1.put v).length := by
  obtain ⟨-, h2, h3, -⟩ := get_sound hL h
  rw [h3]; simp; omega

/-- A frame is had back, whatever stands behind it. -/
theorem fget_frm (k : Int) (B more : List Int) (hB : B.length ≤ 4000) : fget (frm k B ++ more) = some (k, B, (frm k B).length) := by
  have e : frm k B ++ more = k :: (Em1.put B.length ++ (B ++ be4 (Em2.adler (head k B)) ++ more)) := by simp [frm, head]
  have hb : ((Em1.put B.length ++ (B ++ be4 (Em2.adler (head k B)) ++ more)).drop (Em1.put B.length).length).take B.length = B := by simp
  rw [e]
  simp only [fget]
  rw [Em1.get_put B.length _ (by omega)]
  simp only
  rw [if_neg (by simp [be4_len]; omega), hb, ← e]
  simp
/-- What is had is a frame. -/
theorem fget_sound {b : List Int} {k : Int} {B : List Int} {n : Nat} (h : fget b = some (k, B, n)) : B.length ≤ 4000 ∧ n = (frm k B).length ∧ n ≤ b.length ∧ b.take n = frm k B ∧ b = frm k B ++ b.drop n := by
  cases b with
  | nil => simp [fget] at h
  | cons k0 r =>
    simp only [fget] at h
    cases hg : Em1.get r with
    | none => rw [hg] at h; simp at h
    | some p =>
      obtain ⟨v, m⟩ := p
      rw [hg] at h
      simp only at h
      split at h
      · cases h
      · split at h
        · rename_i h1 h2
          simp only [Option.some.injEq, Prod.mk.injEq] at h
          obtain ⟨rfl, rfl, rfl⟩ := h
          have h3 : (frm k0 ((r.drop m).take v)).length ≤ (k0 :: r).length := by
            have := congrArg List.length h2
            rw [List.length_take] at this
            omega
          refine ⟨by simp; omega, rfl, h3, h2.symm, ?_⟩
          have h4 := (List.take_append_drop (frm k0 ((r.drop m).take v)).length (k0 :: r)).symm
          rw [← h2] at h4
          exact h4
        · cases h
theorem fget_none {b : List Int} (h : ∀ k B more, B.length ≤ 4000 → b ≠ frm k B ++ more) : fget b = none := by
  cases hg : fget b with
  | none => rfl
  | some p =>
    obtain ⟨k, B, n⟩ := p
    obtain ⟨h1, -, -, -, h2⟩ := fget_sound hg
    exact absurd h2 (h k B _ h1)

/-- The same, by cutting the bytes at the sum. -/
theorem fget_cut {k : Int} {r : List Int} {v n : Nat} (hr : ∀ x ∈ r, 0 ≤ x ∧ x ≤ 255) (hg : Em1.get r = some (v, n)) (hv : v ≤ 4000) (hs : n + v + 5 ≤ r.length + 1) :
    fget (k :: r) = if ((k :: r).drop (1 + n + v)).take 4 = be4 (Em2.adler ((k :: r).take (1 + n + v))) then some (k, ((k :: r).drop (1 + n)).take v, 1 + n + v + 4) else none := by
  obtain ⟨g1, g2, g3, g4⟩ := get_sound hr hg
  have gl := get_len hr hg
  have hBl : ((r.drop n).take v).length = v := by simp; omega
  have hH : head k ((r.drop n).take v) = (k :: r).take (1 + n + v) := by
    unfold head
    rw [hBl, g3, show 1 + n + v = (n + v) + 1 by omega, List.take_succ_cons, List.take_add]
  have hF : (frm k ((r.drop n).take v)).length = 1 + n + v + 4 := by rw [frm_len, hBl, ← gl]; omega
  have hT : (k :: r).take (1 + n + v + 4) = (k :: r).take (1 + n + v) ++ ((k :: r).drop (1 + n + v)).take 4 := by rw [List.take_add]
  simp only [fget, hg]
  rw [if_neg (by omega), hF, hT, show (k :: r).drop (1 + n) = r.drop n by rw [Nat.add_comm, List.drop_succ_cons]]
  unfold frm
  rw [hH]
  by_cases h : ((k :: r).drop (1 + n + v)).take 4 = be4 (Em2.adler ((k :: r).take (1 + n + v)))
  · rw [if_pos h, if_pos (by rw [h])]
  · rw [if_neg h, if_neg (fun e => h (List.append_cancel_left e).symm)]

/-- One byte turned: it is not the whole of a frame. -/
theorem fget_turned {k : Int} {B : List Int} {i : Nat} {x : Int} (h0 : 0 ≤ k) (h1 : k ≤ 255) (hB : ∀ c ∈ B, 0 ≤ c ∧ c ≤ 255) (hl : B.length ≤ 4000) (hi : i < (frm k B).length) (x0 : 0 ≤ x) (x1 : x ≤ 255) (hx : x ≠ (frm k B)[i]?.getD 0) {k' : Int} {B' : List Int} {n : Nat}
    (h : fget ((frm k B).set i x) = some (k', B', n)) : n ≠ (frm k B).length := by
  intro hn
  obtain ⟨a1, a2, a3, a4, -⟩ := fget_sound h
  have hlen : ((frm k B).set i x).length = (frm k B).length := by simp
  rw [List.take_of_length_le (by omega)] at a4
  have hhl : (head k B).length = (head k' B').length := by
    have : (frm k B).length = (frm k' B').length := by omega
    simp only [frm, List.length_append, be4_len] at this
    omega
  have hbd := Em2.adler_bd (head k B)
  have hbd' := Em2.adler_bd (head k' B')
  by_cases hih : i < (head k B).length
  · unfold frm at a4
    rw [List.set_append_left _ _ hih] at a4
    obtain ⟨e1, e2⟩ := List.append_inj a4 (by simp [hhl])
    have := be4_inj hbd.1 hbd.2 hbd'.1 hbd'.2 e2
    rw [← e1] at this
    refine Em2.adler_turn hih (head_bytes h0 h1 hB (by omega)) x0 x1 ?_ this.symm
    intro e; apply hx
    rw [e]; unfold frm; rw [List.getElem?_append_left hih]
  · unfold frm at a4
    rw [List.set_append_right _ _ (by omega)] at a4
    obtain ⟨e1, e2⟩ := List.append_inj a4 hhl
    rw [← e1] at e2
    have h3 : i - (head k B).length < 4 := by
      have := hi; simp only [frm, List.length_append, be4_len] at this; omega
    apply hx
    unfold frm
    rw [List.getElem?_append_right (by omega)]
    have := congrArg (fun l : List Int => l[i - (head k B).length]?.getD 0) e2
    simp only [List.getElem?_set_self (show i - (head k B).length < (be4 (Em2.adler (head k B))).length from h3), Option.getD_some] at this
    exact this
end Go.Em3

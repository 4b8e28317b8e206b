/- The plain mathematics of chapter 1 (varint): numbers as groups of seven digits, zig and zag. No program is named here. -/
import Derived.WalkKit
namespace Go.Em1
open Go.RowKit

/-! ### Zig, Zag -/
def zig (v : Int) : Int := if 0 ≤ v then 2 * v else -2 * v - 1
def zag (u : Int) : Int := if u % 2 = 0 then u / 2 else -(u / 2) - 1

theorem xor_ones (a : Nat) (ha : a < 18446744073709551616) : a ^^^ 18446744073709551615 = 18446744073709551615 - a := by
  have h : (BitVec.ofNat 64 a ^^^ BitVec.allOnes 64).toNat = (~~~ BitVec.ofNat 64 a).toNat := by rw [BitVec.xor_allOnes]
  rw [BitVec.toNat_xor, BitVec.toNat_not, BitVec.toNat_ofNat, BitVec.toNat_allOnes] at h
  rw [Nat.mod_eq_of_lt (by omega)] at h
  simpa using h

theorem zig_bits (v : Int) (h1 : -9223372036854775808 ≤ v) (h2 : v ≤ 9223372036854775807) :
    bits .xor .u64 (IntKind.u64.wrap (IntKind.u64.wrap v * 2)) (IntKind.u64.wrap (v / 9223372036854775808)) = zig v := by
  rw [IntKind.wrap_u64, IntKind.wrap_u64, IntKind.wrap_u64]
  by_cases h : 0 ≤ v
  · have e1 : v / 9223372036854775808 % 18446744073709551616 = 0 := by omega
    have e2 : v % 18446744073709551616 * 2 % 18446744073709551616 = 2 * v := by omega
    rw [e1, e2, u64_xor _ _ (by omega) (by omega) (by omega) (by omega)]
    simp [zig, h]
    omega
  · have e1 : v / 9223372036854775808 % 18446744073709551616 = 18446744073709551615 := by omega
    have e2 : v % 18446744073709551616 * 2 % 18446744073709551616 = 2 * v + 18446744073709551616 := by omega
    rw [e1, e2, u64_xor _ _ (by omega) (by omega) (by omega) (by omega)]
    have e3 : (18446744073709551615 : Int).toNat = 18446744073709551615 := rfl
    rw [e3, xor_ones _ (by omega)]
    simp only [zig, h, if_false]
    omega

theorem ofInt64 (a : Int) : (BitVec.ofInt 64 a).toNat = (a % 18446744073709551616).toNat := by
  rw [BitVec.toNat_ofInt]; rfl

theorem zag_bits (v : Int) (h1 : 0 ≤ v) (h2 : v ≤ 18446744073709551615) :
    bits .xor .i64 (v / 2) (wrap64 (-wrap64 (bits .and .u64 v 1))) = zag v := by
  have e0 : bits .and .u64 v 1 = v % 2 := by
    rw [u64_and _ _ (by omega) (by omega) (by omega) (by omega)]
    have : (1 : Int).toNat = 1 := rfl
    rw [this, nat_mask1]
    omega
  rw [e0]
  by_cases h : v % 2 = 0
  · have e1 : wrap64 (-wrap64 (v % 2)) = 0 := by rw [h]; unfold wrap64; omega
    rw [e1]
    have key : (BitVec.ofInt 64 (v / 2) ^^^ BitVec.ofInt 64 0).toNat = (v / 2).toNat := by
      rw [BitVec.toNat_xor, ofInt64, ofInt64]
      have : (v / 2) % 18446744073709551616 = v / 2 := by omega
      rw [this]; simp
    show IntKind.i64.wrap ((BitVec.ofInt 64 (v / 2) ^^^ BitVec.ofInt 64 0).toNat : Int) = _
    rw [key, IntKind.wrap_i64]
    simp only [zag, h, if_true]
    omega
  · have e2 : v % 2 = 1 := by omega
    have e1 : wrap64 (-wrap64 (v % 2)) = -1 := by rw [e2]; unfold wrap64; omega
    rw [e1]
    have key : (BitVec.ofInt 64 (v / 2) ^^^ BitVec.ofInt 64 (-1)).toNat = 18446744073709551615 - (v / 2).toNat := by
      rw [BitVec.toNat_xor, ofInt64, ofInt64]
      have e3 : (v / 2) % 18446744073709551616 = v / 2 := by omega
      have e4 : ((-1 : Int) % 18446744073709551616).toNat = 18446744073709551615 := by decide
      rw [e3, e4, xor_ones _ (by omega)]
    show IntKind.i64.wrap ((BitVec.ofInt 64 (v / 2) ^^^ BitVec.ofInt 64 (-1)).toNat : Int) = _
    rw [key, IntKind.wrap_i64]
    simp only [zag, h, if_false]
    omega

theorem zig_bd (v : Int) (h1 : -9223372036854775808 ≤ v) (h2 : v ≤ 9223372036854775807) : 0 ≤ zig v ∧ zig v ≤ 18446744073709551615 := by
  unfold zig; split <;> omega
theorem zag_bd (u : Int) (h1 : 0 ≤ u) (h2 : u ≤ 18446744073709551615) : -9223372036854775808 ≤ zag u ∧ zag u ≤ 9223372036854775807 := by
  unfold zag; split <;> omega
theorem zag_zig (v : Int) : zag (zig v) = v := by
  unfold zig zag; split <;> split <;> omega
theorem zig_zag (u : Int) (h : 0 ≤ u) : zig (zag u) = u := by
  unfold zig zag; split <;> split <;> omega
theorem zig_small (v : Int) (h1 : -1000 ≤ v) (h2 : v ≤ 1000) : zig v ≤ 2000 := by
  unfold zig; split <;> omega

/-! ### Put: groups of seven digits -/
def putF : Nat → Nat → List Int
  | 0, v => [(v : Int)]
  | f + 1, v => if v < 128 then [(v : Int)] else ((v % 128 + 128 : Nat) : Int) :: putF f (v / 128)
/-- The bytes of v. -/
def put (v : Nat) : List Int := putF 10 v

theorem putF_small (f v : Nat) (h : v < 128) : putF f v = [(v : Int)] := by
  cases f <;> simp [putF, h]
theorem putF_big (f v : Nat) (h : 128 ≤ v) : putF (f + 1) v = ((v % 128 + 128 : Nat) : Int) :: putF f (v / 128) := by
  simp [putF, Nat.not_lt.2 h]
theorem putF_ne (f v : Nat) : putF f v ≠ [] := by
  cases f with
  | zero => simp [putF]
  | succ f => unfold putF; split <;> simp
theorem putF_len (f v : Nat) : 1 ≤ (putF f v).length ∧ (putF f v).length ≤ f + 1 := by
  induction f generalizing v with
  | zero => simp [putF]
  | succ f ih =>
    unfold putF; split
    · simp
    · have := ih (v / 128); simp; omega
theorem put_len (v : Nat) : 1 ≤ (put v).length ∧ (put v).length ≤ 11 := putF_len 10 v
theorem putF_bytes (f v : Nat) (h : v < 128 ^ (f + 1)) : ∀ x ∈ putF f v, 0 ≤ x ∧ x ≤ 255 := by
  induction f generalizing v with
  | zero => intro x hx; simp [putF] at hx; subst hx; simp at h; omega
  | succ f ih =>
    intro x hx
    unfold putF at hx; split at hx
    · simp at hx; omega
    · simp only [List.mem_cons] at hx
      rcases hx with hx | hx
      · omega
      · refine ih (v / 128) ?_ x hx
        rw [Nat.pow_succ] at h
        exact Nat.div_lt_of_lt_mul (by rw [Nat.mul_comm]; exact h)
theorem pow_big : (18446744073709551616 : Nat) ≤ 128 ^ 11 := by decide
theorem put_bytes (v : Nat) (h : v < 18446744073709551616) : ∀ x ∈ put v, 0 ≤ x ∧ x ≤ 255 := putF_bytes 10 v (Nat.lt_of_lt_of_le h pow_big)

theorem put_round {f c : Nat} (h : c < 128 ^ f) (h128 : 128 ≤ c) : ∃ f', f = f' + 1 ∧ c / 128 < 128 ^ f' ∧ putF f c = ((c % 128 + 128 : Nat) : Int) :: putF f' (c / 128) := by
  cases f with
  | zero => simp at h; omega
  | succ f =>
    refine ⟨f, rfl, ?_, putF_big f c h128⟩
    rw [Nat.pow_succ] at h
    exact Nat.div_lt_of_lt_mul (by rw [Nat.mul_comm]; exact h)
theorem pow_ten : (18446744073709551616 : Nat) ≤ 128 ^ 10 := by decide

/-! ### The bytes as the code makes them -/
theorem or128 (v : Nat) : bits .or .u8 (IntKind.u8.wrap (v : Int)) 128 = ((v % 128 + 128 : Nat) : Int) := by
  rw [IntKind.wrap_u8, u8_or _ _ (by omega) (by omega) (by omega) (by omega)]
  have e : (128 : Int).toNat = 128 := rfl
  rw [e]
  have h256 : ((v : Int) % 256).toNat = v % 256 := by omega
  rw [h256]
  have hb : ∀ n : Nat, n < 256 → n ||| 128 = n % 128 + 128 := by decide +kernel
  rw [hb _ (by omega)]
  omega
theorem ref128 (v : Nat) (h : v < 18446744073709551616) : bits .or .u64 (bits .and .u64 (v : Int) 127) 128 = ((v % 128 + 128 : Nat) : Int) := by
  rw [u64_and _ _ (by omega) (by omega) (by omega) (by omega)]
  have e : (127 : Int).toNat = 127 := rfl
  rw [e, nat_mask7, u64_or _ _ (by omega) (by omega) (by omega) (by omega)]
  have e2 : (128 : Int).toNat = 128 := rfl
  rw [e2]
  have hb : ∀ n : Nat, n < 128 → n ||| 128 = n % 128 + 128 := by decide +kernel
  simp only [Int.toNat_natCast]
  rw [hb _ (by omega)]
  omega

/-! ### Get -/
/-- The number that groups of seven are, the lowest first. -/
def val : List Int → Nat
  | [] => 0
  | c :: r => (c % 128).toNat + 128 * val r

/-- What stands from place i on, v being what stands ahead of it. -/
def getR : Nat → Nat → List Int → Option (Nat × Nat)
  | _, _, [] => none
  | i, v, c :: r =>
    if i = 9 ∧ 1 < c then none
    else if 128 ≤ c then getR (i + 1) (v + (c % 128).toNat * 128 ^ i) r
    else if c = 0 ∧ 0 < i then none
    else some (v + (c % 128).toNat * 128 ^ i, i + 1)
/-- The number that bytes begin with, and how many it has. -/
def get (L : List Int) : Option (Nat × Nat) := getR 0 0 L

theorem getR_on (k X : Nat) (c : Int) (r : List Int) (h9 : k < 9) (h : 128 ≤ c) : getR k X (c :: r) = getR (k + 1) (X + (c % 128).toNat * 128 ^ k) r := by
  rw [getR, if_neg (by omega), if_pos h]
theorem getR_end (k X : Nat) (c : Int) (r : List Int) (h9 : k < 9 ∨ c ≤ 1) (h : c < 128) (h0 : c ≠ 0 ∨ k = 0) : getR k X (c :: r) = some (X + (c % 128).toNat * 128 ^ k, k + 1) := by
  rw [getR, if_neg (by omega), if_neg (by omega), if_neg (by omega)]
theorem getR_zero (k X : Nat) (c : Int) (r : List Int) (h : c = 0) (hk : 0 < k) : getR k X (c :: r) = none := by
  rw [getR, if_neg (by omega), if_neg (by omega), if_pos ⟨h, hk⟩]
theorem getR_great (k X : Nat) (c : Int) (r : List Int) (h9 : k = 9) (h : 1 < c) : getR k X (c :: r) = none := by
  rw [getR, if_pos ⟨h9, h⟩]

theorem drop_step {L : List Int} {k : Nat} (hk : k < L.length) : L.drop k = L[k]?.getD 0 :: L.drop (k + 1) := by
  rw [List.drop_eq_getElem_cons hk]
  simp [hk]

theorem pow7 (k : Nat) : 2 ^ (7 * k) = 128 ^ k := by rw [Nat.pow_mul]

theorem mask127 {c : Int} (h₀ : 0 ≤ c) (h₁ : c ≤ 255) : bits .and .u8 c 127 = c % 128 := bits_mask .u8 8 (by decide) wraps_u8 7 (by decide) c h₀ (by omega)

/-- v | uint64(c)<<(7*k), where v stands below and c fits. -/
theorem or_shift (k X : Nat) (m : Int) (hk : k ≤ 9) (hX : X < 128 ^ k) (h0 : 0 ≤ m) (h1 : m < 128) (h9 : k = 9 → m ≤ 1) :
    bits .or .u64 (X : Int) (IntKind.u64.wrap (m * 2 ^ (7 * k))) = ((X + m.toNat * 128 ^ k : Nat) : Int) ∧ X + m.toNat * 128 ^ k < 128 ^ (k + 1) ∧ X + m.toNat * 128 ^ k < 18446744073709551616 := by
  obtain ⟨m, rfl⟩ := Int.eq_ofNat_of_zero_le h0
  have hp : (2 : Int) ^ (7 * k) = ((128 ^ k : Nat) : Int) := by rw [← pow7]; simp
  rw [hp]
  have hcast : ((m : Int) * ((128 ^ k : Nat) : Int)) = ((m * 128 ^ k : Nat) : Int) := by simp
  rw [hcast, IntKind.wrap_u64]
  have hmul : m * 128 ^ k + 128 ^ k ≤ 128 ^ (k + 1) := by
    rw [Nat.pow_succ, Nat.mul_comm (128 ^ k) 128]
    have : (m + 1) * 128 ^ k ≤ 128 * 128 ^ k := Nat.mul_le_mul_right _ (by omega)
    rw [Nat.add_mul] at this; omega
  have hlt : X + m * 128 ^ k < 128 ^ (k + 1) := by omega
  have hbig : X + m * 128 ^ k < 18446744073709551616 := by
    by_cases e : k = 9
    · subst e
      have e9 : (128 : Nat) ^ 9 = 9223372036854775808 := by decide
      rw [e9] at hX ⊢
      have : m ≤ 1 := by have := h9 rfl; omega
      have : m * 9223372036854775808 ≤ 1 * 9223372036854775808 := Nat.mul_le_mul_right _ this
      omega
    · have h2 : (128 : Nat) ^ (k + 1) ≤ 128 ^ 9 := Nat.pow_le_pow_right (by decide) (by omega)
      have e9 : (128 : Nat) ^ 9 = 9223372036854775808 := by decide
      omega
  have hmod : ((m * 128 ^ k : Nat) : Int) % 18446744073709551616 = ((m * 128 ^ k : Nat) : Int) := by omega
  rw [hmod, u64_or_nat _ _ (by omega) (by omega)]
  refine ⟨?_, by simpa using hlt, by simpa using hbig⟩
  have hj : m * 128 ^ k ||| X = m * 128 ^ k + X := nat_join (7 * k) _ _ (by rw [pow7]; exact Nat.mul_mod_left _ _) (by rw [pow7]; exact hX)
  rw [Nat.or_comm, hj, Nat.add_comm]
  simp
end Go.Em1

/- What the document's own 'number' and 'quoted' answer. -/
import Derived.Test.YtlniokcekjemdaaDoorRLexN
namespace Go.Proofs.YtlniokcekjemdaaDoor
open Go.RowKit
set_option linter.unusedSimpArgs false

theorem dgt_true {c : Int} (h : Em4.dgt c = true) : 48 ≤ c ∧ c ≤ 57 := by
  simpa [Em4.dgt] using h
theorem pow18 : (10 : Int) ^ 18 = 1000000000000000000 := by decide
theorem dec_17 {L : List Int} {k : Nat} (hk : k ≤ 17) (hl : k ≤ L.length) (h : ∀ j, j < k → Em4.dgt (L[j]?.getD 0) = true) : 0 ≤ Em4.dec (L.take k) ∧ Em4.dec (L.take k) ≤ 99999999999999999 := by
  have h1 := Em4.dec_bd k L hl h
  have h2 : (10 : Nat) ^ k ≤ 10 ^ 17 := Nat.pow_le_pow_right (by omega) hk
  have h3 : (10 : Nat) ^ 17 = 100000000000000000 := by decide
  have h4 : ((10 : Nat) ^ k : Int) = (10 : Int) ^ k := by simp
  have h5 : (((10 : Nat) ^ k : Nat) : Int) = (10 : Int) ^ k := by simp
  omega
theorem dec_18 {L : List Int} {k : Nat} (hk : k ≤ 18) (hl : k ≤ L.length) (h : ∀ j, j < k → Em4.dgt (L[j]?.getD 0) = true) : 0 ≤ Em4.dec (L.take k) ∧ Em4.dec (L.take k) ≤ 999999999999999999 := by
  have h1 := Em4.dec_bd k L hl h
  have h2 : (10 : Nat) ^ k ≤ 10 ^ 18 := Nat.pow_le_pow_right (by omega) hk
  have h3 : (10 : Nat) ^ 18 = 1000000000000000000 := by decide
  have h5 : (((10 : Nat) ^ k : Nat) : Int) = (10 : Int) ^ k := by simp
  omega

end Go.Proofs.YtlniokcekjemdaaDoor

/- What varint.Get answers, for any bytes. -/
import Derived.Test.YtecoopclaogoiaaOwn
import Derived.Test.YtecoopclaogoiaaMath1
import Derived.WalkKit
import Derived.WalkSpells
import Derived.WalkLawsBesides
namespace Go.Proofs.Ytecoopclaogoiaa
open Go.RowKit

set_option maxHeartbeats 1000000 in
theorem get_some (b off cap : Nat) (L : List Int) (w : World) (hlen : L.length ≤ 9223372036854775807) (hL : ∀ x ∈ L, 0 ≤ x ∧ x ≤ 255)
    (hc : ∀ j, j < L.length → w.cell? ⟨b, off + j, none⟩ = some (.int .u8 (L.getD j 0))) :
    Calls Try.prog 17 #[.slice (some ⟨b, off, none⟩) L.length cap] w fun e w' => e = .returned (getRes (Em1.get L)) ∧ w' = w := by
  go_enter Try.func17, Try.ntmps17
  go_wp2
  go_loop [2, 9] (fun x i => ∃ (k X : Nat), k ≤ L.length ∧ k ≤ 9 ∧ i = .int .i64 k ∧ x = .int .u64 X ∧ Hid (X < 128 ^ k) ∧ Hid (Em1.get L = Em1.getR k X (L.drop k))) (fun _ i => L.length - (intOf i).toNat)
  case atStart => exact ⟨0, 0, by omega, by omega, rfl, rfl, by simp [Hid], rfl⟩
  case round =>
    obtain ⟨k, X, hk, hk9, rfl, rfl, hX, HD⟩ := hrel
    by_cases hlt : k < L.length
    · obtain ⟨c, hcd⟩ : ∃ c, c = L[k]?.getD 0 := ⟨_, rfl⟩
      have hcell : w.cell? ⟨b, off + k, none⟩ = some (.int .u8 c) := by rw [hc k hlt, hcd]; simp
      have hb := Em.getD_bd hL k
      rw [← hcd] at hb
      obtain ⟨hb0, hb1⟩ := hb
      have hmask := Em1.mask127 hb0 hb1
      have HS : Hid (L.drop k = c :: L.drop (k + 1)) := by rw [hcd]; exact Em1.drop_step hlt
      clear hc hL hcd
      have HO : Hid ((k = 9 → c ≤ 1) → bits .or .u64 (X : Int) (IntKind.u64.wrap (c % 128 * 2 ^ (7 * k))) = ((X + (c % 128).toNat * 128 ^ k : Nat) : Int) ∧ X + (c % 128).toNat * 128 ^ k < 128 ^ (k + 1)) := by
        intro h
        have := Em1.or_shift k X (c % 128) hk9 hX.out (by omega) (by omega) (by intro e; have := h e; omega)
        exact ⟨this.1, this.2.1⟩
      have HV : Hid (Em1.get L = Em1.getR k X (c :: L.drop (k + 1))) := by rw [← HS.out]; exact HD
      clear HD HS
      by_cases h9 : k < 9
      · by_cases h128 : 128 ≤ c
        · go_wp2
          go_round
          case rel =>
            obtain ⟨e1, e2⟩ := HO.out (by omega)
            exact ⟨k + 1, X + (c % 128).toNat * 128 ^ k, by omega, by omega, by go_num, congrArg (Value.int .u64) e1, e2, by rw [HV.out, Em1.getR_on k X c _ (by omega) h128]; rfl⟩
          case measure => simp [intOf]; omega
        · by_cases hc1 : 1 ≤ c
          · go_wp2
            go_ret3
            obtain ⟨e1, e2⟩ := HO.out (by omega)
            exact ⟨by rw [HV.out, Em1.getR_end k X c _ (by omega) (by omega) (by omega), e1]; simp [getRes], rfl⟩
          · by_cases hk0 : 0 < k
            · go_wp2
              go_ret3
              exact ⟨by rw [HV.out, Em1.getR_zero k X c _ (by omega) hk0]; rfl, rfl⟩
            · go_wp2
              go_ret3
              obtain ⟨e1, e2⟩ := HO.out (by omega)
              have hc0 : c = 0 := by omega
              have e3 : bits .or .u64 (X : Int) (IntKind.u64.wrap 0) = ((X + (c % 128).toNat * 128 ^ k : Nat) : Int) := by rw [← e1, hc0]; simp
              exact ⟨by rw [HV.out, Em1.getR_end k X c _ (by omega) (by omega) (by omega), e3]; simp [getRes], rfl⟩
      · by_cases hc1 : 1 < c
        · go_wp2
          go_ret3
          exact ⟨by rw [HV.out, Em1.getR_great k X c _ (by omega) (by omega)]; rfl, rfl⟩
        · by_cases hc0 : c < 1
          · go_wp2
            go_ret3
            exact ⟨by rw [HV.out, Em1.getR_zero k X c _ (by omega) (by omega)]; rfl, rfl⟩
          · go_wp2
            go_ret3
            obtain ⟨e1, e2⟩ := HO.out (by omega)
            have hk : k = 9 := by omega
            have e3 : bits .or .u64 (X : Int) (c % 128 * 9223372036854775808) = ((X + (c % 128).toNat * 128 ^ k : Nat) : Int) := by
              rw [← e1, hk, IntKind.wrap_u64]
              have : c % 128 * 2 ^ (7 * 9) % 18446744073709551616 = c % 128 * 9223372036854775808 := by omega
              rw [this]
            exact ⟨by rw [HV.out, Em1.getR_end k X c _ (by omega) (by omega) (by omega), e3]; simp [getRes, hk], rfl⟩
    · go_wp2
      go_ret3
      exact ⟨by rw [HD.out, List.drop_eq_nil_of_le (by omega)]; rfl, rfl⟩

set_option maxHeartbeats 400000 in
theorem get_empty (a : Option Addr) (cap : Nat) (w : World) :
    Calls Try.prog 17 #[.slice a 0 cap] w fun e w' => e = .returned (getRes none) ∧ w' = w := by
  go_enter Try.func17, Try.ntmps17
  go_wp2
  refine wp_loop_rounds 1 ?_
  rw [rounds_succ]
  go_wp2
  go_ret3
  exact ⟨rfl, rfl⟩

/-- varint.Get, of any bytes. -/
theorem get_any (u : Value) (L : List Int) (w : World) (h : Em.IsBytes w u L) :
    Calls Try.prog 17 #[u] w fun e w' => e = .returned (getRes (Em1.get L)) ∧ w' = w := by
  by_cases hp : 0 < L.length
  · obtain ⟨b, off, cap, rfl, -, -, hc⟩ := h.plain hp
    exact get_some b off cap L w h.len h.bd hc
  · have h0 : L.length = 0 := by omega
    obtain ⟨a, cap, rfl, -, -⟩ := h.empty h0
    have : L = [] := List.length_eq_zero_iff.1 h0
    subst this
    exact get_empty a cap w
end Go.Proofs.Ytecoopclaogoiaa

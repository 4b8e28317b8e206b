/- What sum.Adler answers, for any rows. -/
import Derived.Test.YtecoopclaogoiaaProg
import Derived.Test.YtecoopclaogoiaaMath2
import Derived.Test.YtecoopclaogoiaaRows2
import Derived.WalkKit
import Derived.WalkSpells
import Derived.WalkLawsBesides
namespace Go.Proofs.Ytecoopclaogoiaa
open Go.RowKit

set_option maxRecDepth 100000 in
set_option maxHeartbeats 1000000 in
theorem adler_some (b off cap : Nat) (R : List (List Int)) (w : World) (hlen : R.length ≤ 9223372036854775807)
    (hc : ∀ j, j < R.length → ∃ s, w.cell? ⟨b, off + j, none⟩ = some s ∧ Em.IsBytes w s (R[j]?.getD [])) :
    Calls Try.prog 21 #[.slice (some ⟨b, off, none⟩) R.length cap] w fun e w' => e = .returned (.int .u32 (Em2.adler R.flatten)) ∧ w' = w := by
  have HC : Hid (∀ j, j < R.length → ∃ s, w.cell? ⟨b, off + j, none⟩ = some s ∧ Em.IsBytes w s (R[j]?.getD [])) := hc
  clear hc
  go_enter Try.func21, Try.ntmps21
  go_wp2
  go_loop [3, 4, 11] (fun x y i => ∃ (k : Nat) (A B : Int), k ≤ R.length ∧ i = .int .i64 k ∧ x = .int .u32 A ∧ y = .int .u32 B ∧ 0 ≤ A ∧ A < 65521 ∧ 0 ≤ B ∧ B < 65521 ∧ Hid (Em2.adl 1 0 R.flatten = Em2.adl A B (R.drop k).flatten)) (fun _ _ i => R.length - (intOf i).toNat)
  case atStart => exact ⟨0, 1, 0, by omega, rfl, rfl, rfl, by omega, by omega, by omega, by omega, rfl⟩
  case round =>
    obtain ⟨k, A, B, hk, rfl, rfl, rfl, hA0, hA1, hB0, hB1, HD⟩ := hrel
    by_cases hlt : k < R.length
    · obtain ⟨s, hcell, hs⟩ := HC.out k hlt
      have HS : Hid (Em2.adl 1 0 R.flatten = Em2.adl A B (R[k]?.getD [] ++ (R.drop (k + 1)).flatten)) := by rw [← Em2.rows_step hlt]; exact HD
      clear HD
      generalize R[k]?.getD [] = L at hs HS
      have hll := hs.len
      by_cases hp : 0 < L.length
      · obtain ⟨b', off', cap', rfl, -, -, hc'⟩ := hs.plain hp
        have hL := hs.bd
        have HC' : Hid (∀ j, j < L.length → w.cell? ⟨b', off' + j, none⟩ = some (.int .u8 (L.getD j 0))) := hc'
        have HL : Hid (∀ x ∈ L, 0 ≤ x ∧ x ≤ 255) := hL
        clear hc' hL hs
        go_wp2
        go_loop [3, 4, 17] (fun x y i => ∃ (j : Nat) (A B : Int), j ≤ L.length ∧ i = .int .i64 j ∧ x = .int .u32 A ∧ y = .int .u32 B ∧ 0 ≤ A ∧ A < 65521 ∧ 0 ≤ B ∧ B < 65521 ∧ Hid (Em2.adl 1 0 R.flatten = Em2.adl A B (L.drop j ++ (R.drop (k + 1)).flatten))) (fun _ _ i => L.length - (intOf i).toNat)
        case atStart => exact ⟨0, A, B, by omega, rfl, rfl, rfl, hA0, hA1, hB0, hB1, HS⟩
        case round =>
          obtain ⟨j, A, B, hj, rfl, rfl, rfl, hA0, hA1, hB0, hB1, HD⟩ := hrel
          by_cases hlt' : j < L.length
          · obtain ⟨c, hcd⟩ : ∃ c, c = L[j]?.getD 0 := ⟨_, rfl⟩
            have hcell' : w.cell? ⟨b', off' + j, none⟩ = some (.int .u8 c) := by rw [HC'.out j hlt', hcd]; simp
            have hb := Em.getD_bd HL.out j
            rw [← hcd] at hb
            obtain ⟨hb0, hb1⟩ := hb
            have HV : Hid (Em2.adl 1 0 R.flatten = Em2.adl ((A + c) % 65521) ((B + (A + c) % 65521) % 65521) (L.drop (j + 1) ++ (R.drop (k + 1)).flatten)) := by rw [hcd, ← Em2.adl_cons, ← List.cons_append, ← Em2.drop_step hlt']; exact HD
            clear hcd HD HS
            go_wp2
            go_round
            case rel => exact ⟨j + 1, (A + c) % 65521, (B + (A + c) % 65521) % 65521, by omega, by go_num, by go_num, by go_num, by omega, by omega, by omega, by omega, HV⟩
            case measure => simp [intOf]; omega
          · have HV : Hid (Em2.adl 1 0 R.flatten = Em2.adl A B (R.drop (k + 1)).flatten) := by rw [Hid, HD.out, List.drop_eq_nil_of_le (by omega)]; rfl
            clear HD HS
            go_wp2
            go_round
            case rel => exact ⟨k + 1, A, B, by omega, by go_num, rfl, rfl, hA0, hA1, hB0, hB1, HV⟩
            case measure => simp [intOf]; omega
      · have h0 : L.length = 0 := by omega
        obtain ⟨a', cap', rfl, -, -⟩ := hs.empty h0
        have hn : L = [] := List.length_eq_zero_iff.1 h0
        subst hn
        clear hs
        go_wp2
        refine wp_loop_rounds 1 ?_
        rw [rounds_succ]
        go_wp2
        go_round
        case rel => exact ⟨k + 1, A, B, by omega, by go_num, rfl, rfl, hA0, hA1, hB0, hB1, HS⟩
        case measure => simp [intOf]; omega
    · have HV : Hid (Em2.adler R.flatten = B * 65536 + A) := by unfold Em2.adler; rw [Hid, HD.out, List.drop_eq_nil_of_le (by omega)]; rfl
      go_wp2
      go_ret
      exact ⟨by rw [HV.out]; rfl, rfl⟩
set_option maxHeartbeats 400000 in
theorem adler_empty (a : Option Addr) (cap : Nat) (w : World) :
    Calls Try.prog 21 #[.slice a 0 cap] w fun e w' => e = .returned (.int .u32 (Em2.adler [])) ∧ w' = w := by
  go_enter Try.func21, Try.ntmps21
  go_wp2
  refine wp_loop_rounds 1 ?_
  rw [rounds_succ]
  go_wp2
  go_ret
  exact ⟨rfl, rfl⟩

/-- sum.Adler, of any rows. -/
theorem adler_any (u : Value) (R : List (List Int)) (w : World) (h : Em.IsRows w u R) :
    Calls Try.prog 21 #[u] w fun e w' => e = .returned (.int .u32 (Em2.adler R.flatten)) ∧ w' = w := by
  by_cases hp : 0 < R.length
  · obtain ⟨b, off, cap, rfl, -, -, hc⟩ := h.plain hp
    exact adler_some b off cap R w h.len hc
  · have h0 : R.length = 0 := by omega
    obtain ⟨a, cap, rfl, -, -⟩ := h.empty h0
    have : R = [] := List.length_eq_zero_iff.1 h0
    subst this
    exact adler_empty a cap w
end Go.Proofs.Ytecoopclaogoiaa

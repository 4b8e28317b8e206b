/- What the document's own Adler answers, for any bytes. -/
import Derived.Test.YtecoopclaogoiaaProg
import Derived.Test.YtecoopclaogoiaaMath2
import Derived.Test.YtecoopclaogoiaaBytes
import Derived.WalkKit
import Derived.WalkSpells
import Derived.WalkLawsBesides
namespace Go.Proofs.Ytecoopclaogoiaa
open Go.RowKit

set_option maxRecDepth 100000 in
set_option maxHeartbeats 1000000 in
theorem radler_some (b off cap : Nat) (L : List Int) (w : World) (hlen : L.length ≤ 9223372036854775807) (hL : ∀ x ∈ L, 0 ≤ x ∧ x ≤ 255)
    (hc : ∀ j, j < L.length → w.cell? ⟨b, off + j, none⟩ = some (.int .u8 (L.getD j 0))) :
    Calls Try.prog 16 #[.slice (some ⟨b, off, none⟩) L.length cap] w fun e w' => e = .returned (.int .u32 (Em2.adler L)) ∧ w' = w := by
  have HC : Hid (∀ j, j < L.length → w.cell? ⟨b, off + j, none⟩ = some (.int .u8 (L.getD j 0))) := hc
  have HL : Hid (∀ x ∈ L, 0 ≤ x ∧ x ≤ 255) := hL
  clear hc hL
  go_enter Try.func16, Try.ntmps16
  go_wp2
  go_loop [3, 4, 5] (fun x y i => ∃ (j : Nat) (A B : Int), j ≤ L.length ∧ i = .int .i64 j ∧ x = .int .i64 A ∧ y = .int .i64 B ∧ 0 ≤ A ∧ A < 65521 ∧ 0 ≤ B ∧ B < 65521 ∧ Hid (Em2.adl 1 0 L = Em2.adl A B (L.drop j))) (fun _ _ i => L.length - (intOf i).toNat)
  case atStart => exact ⟨0, 1, 0, by omega, rfl, rfl, rfl, by omega, by omega, by omega, by omega, rfl⟩
  case round =>
    obtain ⟨j, A, B, hj, rfl, rfl, rfl, hA0, hA1, hB0, hB1, HD⟩ := hrel
    by_cases hlt' : j < L.length
    · obtain ⟨c, hcd⟩ : ∃ c, c = L[j]?.getD 0 := ⟨_, rfl⟩
      have hcell' : w.cell? ⟨b, off + j, none⟩ = some (.int .u8 c) := by rw [HC.out j hlt', hcd]; simp
      have hb := Em.getD_bd HL.out j
      rw [← hcd] at hb
      obtain ⟨hb0, hb1⟩ := hb
      have HV : Hid (Em2.adl 1 0 L = Em2.adl ((A + c) % 65521) ((B + (A + c) % 65521) % 65521) (L.drop (j + 1))) := by rw [hcd, ← Em2.adl_cons, ← Em2.drop_step hlt']; exact HD
      clear hcd HD
      go_wp2
      go_round
      case rel => exact ⟨j + 1, (A + c) % 65521, (B + (A + c) % 65521) % 65521, by omega, by go_num, by go_num, by go_num, by omega, by omega, by omega, by omega, HV⟩
      case measure => simp [intOf]; omega
    · have HV : Hid (Em2.adler L = B * 65536 + A) := by unfold Em2.adler; rw [Hid, HD.out, List.drop_eq_nil_of_le (by omega)]; rfl
      go_wp2
      go_ret
      exact ⟨by rw [HV.out]; rfl, rfl⟩

set_option maxHeartbeats 400000 in
theorem radler_empty (a : Option Addr) (cap : Nat) (w : World) :
    Calls Try.prog 16 #[.slice a 0 cap] w fun e w' => e = .returned (.int .u32 (Em2.adler [])) ∧ w' = w := by
  go_enter Try.func16, Try.ntmps16
  go_wp2
  refine wp_loop_rounds 1 ?_
  rw [rounds_succ]
  go_wp2
  go_ret
  exact ⟨rfl, rfl⟩

/-- The document's own Adler, of any bytes. -/
theorem radler_any (u : Value) (L : List Int) (w : World) (h : Em.IsBytes w u L) :
    Calls Try.prog 16 #[u] w fun e w' => e = .returned (.int .u32 (Em2.adler L)) ∧ w' = w := by
  by_cases hp : 0 < L.length
  · obtain ⟨b, off, cap, rfl, -, -, hc⟩ := h.plain hp
    exact radler_some b off cap L w h.len h.bd hc
  · have h0 : L.length = 0 := by omega
    obtain ⟨a, cap, rfl, -, -⟩ := h.empty h0
    have : L = [] := List.length_eq_zero_iff.1 h0
    subst this
    exact radler_empty a cap w
end Go.Proofs.Ytecoopclaogoiaa

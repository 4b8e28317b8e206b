/- What varint.Zig, varint.Zag and the document's own Zig, Zag answer: contracts of the four functions. -/
import Derived.Test.YtiipbpeagaeidaaRows
import Derived.Test.YtiipbpeagaeidaaMath1
import Derived.WalkKit
import Derived.WalkSpells
import Derived.WalkLawsBesides
namespace Go.Proofs.Ytiipbpeagaeidaa
open Go.RowKit

theorem ret_int {k : IntKind} {a b : Int} (h : a = b) : Ending.returned (.int k a) = .returned (.int k b) := by rw [h]

set_option maxHeartbeats 400000 in
theorem zig_any (v : Int) (w : World) (h1 : -9223372036854775808 ≤ v) (h2 : v ≤ 9223372036854775807) :
    Calls Try.prog 12 #[.int .i64 v] w fun e w' => e = .returned (.int .u64 (Em1.zig v)) ∧ w' = w := by
  go_enter Try.func12, Try.ntmps12
  go_wp2
  go_ret
  exact ⟨ret_int (Em1.zig_bits v h1 h2), rfl⟩
set_option maxHeartbeats 400000 in
theorem rzig_any (v : Int) (w : World) (h1 : -9223372036854775808 ≤ v) (h2 : v ≤ 9223372036854775807) :
    Calls Try.prog 13 #[.int .i64 v] w fun e w' => e = .returned (.int .u64 (Em1.zig v)) ∧ w' = w := by
  by_cases h : 0 ≤ v
  · go_enter Try.func13, Try.ntmps13
    go_wp2
    go_ret
    exact ⟨ret_int (by unfold Em1.zig; rw [if_pos h]), rfl⟩
  · go_enter Try.func13, Try.ntmps13
    go_wp2
    go_ret
    exact ⟨ret_int (by unfold Em1.zig; rw [if_neg (by omega)]; omega), rfl⟩
set_option maxHeartbeats 400000 in
theorem zag_any (v : Int) (w : World) (h1 : 0 ≤ v) (h2 : v ≤ 18446744073709551615) :
    Calls Try.prog 14 #[.int .u64 v] w fun e w' => e = .returned (.int .i64 (Em1.zag v)) ∧ w' = w := by
  go_enter Try.func14, Try.ntmps14
  go_wp2
  go_ret
  exact ⟨ret_int (Em1.zag_bits v h1 h2), rfl⟩
set_option maxHeartbeats 400000 in
theorem rzag_any (v : Int) (w : World) (h1 : 0 ≤ v) (h2 : v ≤ 18446744073709551615) :
    Calls Try.prog 15 #[.int .u64 v] w fun e w' => e = .returned (.int .i64 (Em1.zag v)) ∧ w' = w := by
  by_cases h : v % 2 = 0
  · have hb : (v % 2 == 0) = true := by simp [h]
    have H : Hid (v % 2 = 0) := h
    clear h
    go_enter Try.func15, Try.ntmps15
    go_wp2
    go_ret
    exact ⟨ret_int (by unfold Em1.zag; rw [if_pos H.out]), rfl⟩
  · have hb : (v % 2 == 0) = false := by simp [h]
    go_enter Try.func15, Try.ntmps15
    go_wp2
    go_ret
    exact ⟨ret_int (by unfold Em1.zag; rw [if_neg h]), rfl⟩
end Go.Proofs.Ytiipbpeagaeidaa

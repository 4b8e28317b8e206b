/- What the law's own 'known' answers: true. -/
import Derived.Test.YtiipbpeagaeidaaZig
import Derived.Test.YtiipbpeagaeidaaGet
import Derived.Test.YtiipbpeagaeidaaPut
namespace Go.Proofs.Ytiipbpeagaeidaa
open Go.RowKit

theorem bytes_known (w : World) : Em.IsBytes (w.alloc (.cells #[.int .u8 172, .int .u8 2, .int .u8 7] 5)) (.slice (some ⟨w.heap.size, 0, none⟩) 3 3) [172, 2, 7] := by
  refine ⟨some ⟨w.heap.size, 0, none⟩, 3, rfl, by simp, by simp [maxLen], (fun h => by cases h), by decide, fun j hj => ⟨_, rfl, ?_⟩⟩
  match j, hj with
  | 0, _ => simp [Addr.add]
  | 1, _ => simp [Addr.add]
  | 2, _ => simp [Addr.add]
  | j + 3, hj => simp at hj; omega

theorem get_known : Em1.get [172, 2, 7] = some (300, 2) := by decide +kernel
theorem put_known : Em1.put 300 = [172, 2] := by decide +kernel
theorem str_known : ((Em.str [172, 2]).toList == [172, 2]) = true := by decide +kernel
theorem zig_known : Em1.zig (-2) = 3 := by decide

set_option maxRecDepth 100000 in
set_option maxHeartbeats 1000000 in
theorem known_any (w : World) : Calls Try.prog 10 #[] w fun e w' => e = .returned (.bool true) ∧ Below w.heap.size w w' := by
  go_enter Try.func10, Try.ntmps10
  go_wp2_with fail
  refine (get_any _ _ _ (bytes_known w)).mono ?_
  rintro e w1 ⟨rfl, rfl⟩
  rw [get_known]
  simp only [getRes]
  go_wp2_with fail
  refine (put_any 300 _ (by decide)).mono ?_
  rintro e w2 ⟨u, rfl, hown, hbel⟩
  rw [put_known] at hown
  have hs := Em.run_str (P := Try.prog) 23 9 5 Try.underlying23 Try.underlying5 Try.underlying9 (Em.IsBytes.own (by decide) hown)
  have hk := str_known
  have hb : Below w.heap.size w w2 := ((Below.refl _ _).alloc (Nat.le_refl _) _).trans (hbel.mono (by simp))
  clear hown hbel
  go_wp2_with fail
  refine (zig_any (-2) _ (by decide) (by decide)).mono ?_
  rintro e w3 ⟨rfl, rfl⟩
  rw [zig_known]
  go_wp2_with fail
  go_ret
  exact ⟨rfl, hb⟩
end Go.Proofs.Ytiipbpeagaeidaa

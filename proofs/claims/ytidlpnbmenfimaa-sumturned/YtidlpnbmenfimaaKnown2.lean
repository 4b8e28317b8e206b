/- What the law's own 'known' answers: true. -/
import Derived.Test.YtidlpnbmenfimaaSum
import Derived.Lib.SlBytesConst
namespace Go.Proofs.Ytidlpnbmenfimaa
open Go.RowKit

theorem bytes_known2 (w : World) (fr : Nat × Nat) : Em.IsBytes (w.alloc (.cells #[.int .u8 87, .int .u8 105, .int .u8 107, .int .u8 105, .int .u8 112, .int .u8 101, .int .u8 100, .int .u8 105, .int .u8 97] 5 fr)) (.slice (some ⟨w.heap.size, 0, none⟩) 9 9) [87, 105, 107, 105, 112, 101, 100, 105, 97] := by
  refine ⟨some ⟨w.heap.size, 0, none⟩, 9, rfl, by simp, by simp [maxLen], (fun h => by cases h), by decide, fun j hj => ⟨_, rfl, ?_⟩⟩
  match j, hj with
  | 0, _ => simp [Addr.add, World.cell?_alloc_mark]
  | 1, _ => simp [Addr.add, World.cell?_alloc_mark]
  | 2, _ => simp [Addr.add, World.cell?_alloc_mark]
  | 3, _ => simp [Addr.add, World.cell?_alloc_mark]
  | 4, _ => simp [Addr.add, World.cell?_alloc_mark]
  | 5, _ => simp [Addr.add, World.cell?_alloc_mark]
  | 6, _ => simp [Addr.add, World.cell?_alloc_mark]
  | 7, _ => simp [Addr.add, World.cell?_alloc_mark]
  | 8, _ => simp [Addr.add, World.cell?_alloc_mark]
  | j + 9, hj => simp at hj; omega

theorem adler_known : Em2.adler (List.flatten [[87, 105, 107, 105, 112, 101, 100, 105, 97]]) = 300286872 := by decide +kernel
theorem mark_known : Em2.mark (List.flatten []) = 14695981039346656037 := rfl

set_option maxRecDepth 100000 in
set_option maxHeartbeats 1000000 in
theorem known2_any (w : World) : Calls Try.prog 11 #[] w fun e w' => e = .returned (.bool true) ∧ Below w.heap.size w w' := by
  have kc := fun (w : World) (C : Array Value) (n c : Nat) => Lib.run_convert_bytes_const (P := Try.prog) w 22 5 C n c Try.underlying22 Try.underlying5
  have hb : Below w.heap.size w (w.alloc (.cells #[.int .u8 87, .int .u8 105, .int .u8 107, .int .u8 105, .int .u8 112, .int .u8 101, .int .u8 100, .int .u8 105, .int .u8 97] 5 (9, 10))) := (Below.refl _ _).alloc (Nat.le_refl _) _
  go_enter Try.func11, Try.ntmps11
  go_wp2_with fail
  refine (adler_any _ _ _ (Em.rows_one _ 22 (by simp) (bytes_known2 w (9, 10)))).mono ?_
  rintro e w1 ⟨rfl, rfl⟩
  rw [adler_known]
  go_wp2_with fail
  refine (mark_any _ _ _ (Em.IsRows.nil _)).mono ?_
  rintro e w1 ⟨rfl, rfl⟩
  rw [mark_known]
  go_wp2_with fail
  go_ret
  exact ⟨rfl, hb.alloc (by simp) _⟩
end Go.Proofs.Ytidlpnbmenfimaa

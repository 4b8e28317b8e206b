/- What frame's tail, bytes.Equal and bytes.Clone answer, for any bytes. -/
import Derived.Test.YtecoopclaogoiaaOwn
import Derived.Test.YtecoopclaogoiaaAdler
import Derived.Test.YtecoopclaogoiaaMath3
import Derived.Lib.SliceRun
namespace Go.Proofs.Ytecoopclaogoiaa
open Go.RowKit

theorem str_beq (L M : List Int) (hL : ∀ x ∈ L, 0 ≤ x ∧ x ≤ 255) (hM : ∀ x ∈ M, 0 ≤ x ∧ x ≤ 255) : ((Em.str L).toList == (Em.str M).toList) = decide (L = M) := by
  by_cases h : L = M
  · subst h; simp
  · rw [decide_eq_false h, beq_eq_false_iff_ne]
    intro e
    exact h (Em.str_inj hL hM (Em.toList_inj e))

set_option maxRecDepth 100000 in
set_option maxHeartbeats 400000 in
theorem equal_any (u v : Value) (L M : List Int) (w : World) (hu : Em.IsBytes w u L) (hv : Em.IsBytes w v M) :
    Calls Try.prog 18 #[u, v] w fun e w' => e = .returned (.bool (decide (L = M))) ∧ w' = w := by
  have h1 := Em.run_str (P := Try.prog) 22 9 5 Try.underlying22 Try.underlying5 Try.underlying9 hu
  have h2 := Em.run_str (P := Try.prog) 22 9 5 Try.underlying22 Try.underlying5 Try.underlying9 hv
  have h3 := str_beq L M hu.bd hv.bd
  obtain ⟨a, cap, rfl, -⟩ := hu
  obtain ⟨a', cap', rfl, -⟩ := hv
  obtain ⟨q, hq⟩ : ∃ q, q = decide (L = M) := ⟨_, rfl⟩
  rw [← hq] at h3 ⊢
  clear hq
  go_enter Try.func18, Try.ntmps18
  go_wp2_with fail
  go_ret
  exact ⟨rfl, rfl⟩

set_option maxRecDepth 100000 in
set_option maxHeartbeats 400000 in
theorem clone_any (u : Value) (L : List Int) (w : World) (hu : Em.IsBytes w u L) (hl : L.length ≤ 140737488355328) :
    Calls Try.prog 19 #[u] w fun e w' => ∃ v, e = .returned v ∧ Own w' w.heap.size v L ∧ Below w.heap.size w w' := by
  have qT : ∀ (w : World) (a : Option Addr) (n c n' c' : Nat), (binOp .eql 22 (.slice a n c) (.slice none n' c')).run Try.prog w = .ok (.bool a.isNone) w := fun w a n c n' c' => Lib.run_eql_slice_nil w _ _ a n c n' c' Try.underlying22
  have o1 : Own (w.alloc (.cells #[] 5)) w.heap.size (.slice (some ⟨w.heap.size, 0, none⟩) 0 0) [] := World.ownsRow_made w #[] 0 (Nat.le_refl _) (by simp [maxLen]) rfl
  have bel1 : Below w.heap.size w (w.alloc (.cells #[] 5)) := (Below.refl _ _).alloc (Nat.le_refl _) _
  have n1 := hu.below bel1
  obtain ⟨a, cap, rfl, hc1, hc2, hc3, -⟩ := id hu
  cases a with
  | none =>
    have h0 := hc3 rfl
    subst h0
    have hL : L = [] := List.length_eq_zero_iff.1 (by omega)
    subst hL
    clear hc3 o1 bel1 n1 hu
    go_enter Try.func19, Try.ntmps19
    go_wp2_with fail
    go_ret
    exact ⟨_, rfl, World.ownsRow_nil _ _ _ _, Below.refl _ _⟩
  | some ad =>
    clear hc3 hu
    go_enter Try.func19, Try.ntmps19
    go_wp2_with (at_builtin; refine wpList_app rfl (.tmp 5) (.tmp 6) rfl w.heap.size _ [] rfl o1 _ L rfl n1 (by simp; omega) bel1.size ?_; intro v2 w2 o3 _ hb3; have bel3 := bel1.trans hb3; clear o1 n1 hb3)
    go_ret
    exact ⟨_, rfl, by simpa using o3, bel3⟩

theorem own_four (w : World) (x : Int) (hx0 : 0 ≤ x) (hx1 : x ≤ 4293984240) : Own (w.alloc (.cells #[.int .u8 (x / 16777216), .int .u8 (x / 65536 % 256), .int .u8 (x / 256 % 256), .int .u8 (x % 256)] 5)) w.heap.size (.slice (some ⟨w.heap.size, 0, none⟩) 4 4) (Em3.be4 x) := by
  have e : (Em3.be4 x).map (Value.int .u8) = [.int .u8 (x / 16777216), .int .u8 (x / 65536 % 256), .int .u8 (x / 256 % 256), .int .u8 (x % 256)] := by
    simp [Em3.be4]; omega
  unfold Own
  rw [e]
  exact World.ownsRow_lit w #[.int .u8 (x / 16777216), .int .u8 (x / 65536 % 256), .int .u8 (x / 256 % 256), .int .u8 (x % 256)] 4 (Nat.le_refl _) (by simp [maxLen]) rfl

set_option maxRecDepth 100000 in
set_option maxHeartbeats 400000 in
/-- frame's tail, of any bytes. -/
theorem tail_any (u : Value) (L : List Int) (w : World) (hu : Em.IsBytes w u L) :
    Calls Try.prog 14 #[u] w fun e w' => ∃ v, e = .returned v ∧ Own w' w.heap.size v (Em3.be4 (Em2.adler L)) ∧ Below w.heap.size w w' := by
  obtain ⟨a, cap, rfl, -⟩ := id hu
  have b1 : Below w.heap.size w (w.alloc (.cells #[.slice a L.length cap] 22)) := (Below.refl _ _).alloc (Nat.le_refl _) _
  go_enter Try.func14, Try.ntmps14
  go_wp2_with fail
  refine (adler_any _ _ _ (Em.rows_one _ 22 (by simp) hu)).mono ?_
  rintro e w1 ⟨rfl, rfl⟩
  rw [show List.flatten [L] = L by simp]
  obtain ⟨x, hx⟩ : ∃ x, x = Em2.adler L := ⟨_, rfl⟩
  obtain ⟨hx0, hx1⟩ := Em2.adler_bd L
  rw [← hx] at hx0 hx1 ⊢
  have HX : Hid (x = Em2.adler L) := hx
  clear hx hu
  have o2 := own_base (own_four (w.alloc (.cells #[.slice a L.length cap] 22)) x hx0 hx1) b1.size
  go_wp2_with fail
  go_ret
  exact ⟨_, rfl, by rw [← HX.out]; simpa using o2, b1.alloc b1.size _⟩
end Go.Proofs.Ytecoopclaogoiaa

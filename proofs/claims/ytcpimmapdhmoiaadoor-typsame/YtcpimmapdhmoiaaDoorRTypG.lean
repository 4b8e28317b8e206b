/- What the document's own 'digits' answers. -/
import Derived.Test.YtcpimmapdhmoiaaDoorRTypS
import Derived.Test.YtcpimmapdhmoiaaDoorMath8
import Derived.Test.YtcpimmapdhmoiaaDoorStrA
import Derived.Deep.RegionHeld
namespace Go.Proofs.YtcpimmapdhmoiaaDoor
open Go.RowKit
set_option linter.unusedSimpArgs false

set_option maxRecDepth 100000 in
set_option maxHeartbeats 1000000 in
theorem rdigits_any (n : Nat) : ∀ (w : World), n ≤ 9223372036854775807 →
    Calls Tryd.prog 35 #[.int .i64 n] w fun e w' => e = .returned (.string (Em.str (Em8.tdigs n))) ∧ Below w.heap.size w w' := by
  induction n using Nat.strongRecOn with
  | ind n ih =>
    intro w hn
    have hc : (convert 44 9 (.slice (some ⟨w.heap.size, 0, none⟩) 1 1)).run Tryd.prog (w.alloc (.cells #[.int .u8 (48 + (n : Int) % 10)] 5)) = .ok (.string (Em.str [48 + (n : Int) % 10])) (w.alloc (.cells #[.int .u8 (48 + (n : Int) % 10)] 5)) :=
      Em.run_str 44 9 5 Tryd.underlying44 Tryd.underlying5 Tryd.underlying9 (isBytes_one w _ _ (by omega))
    have HBE : Hid (Below w.heap.size w (w.alloc (.cells #[.int .u8 (48 + (n : Int) % 10)] 5))) := (Below.refl _ _).alloc (Nat.le_refl _) _
    by_cases h10 : n < 10
    · have HR : Hid (Em8.tdigs n = [48 + (n : Int) % 10]) := by rw [Hid, Em8.tdigs_lt h10]; congr 1; omega
      go_enter Tryd.func35, Tryd.ntmps35
      go_wp2
      go_ret
      exact ⟨by rw [HR.out]; rfl, HBE.out⟩
    · have HR : Hid (Em8.tdigs n = Em8.tdigs (n / 10) ++ [48 + (n : Int) % 10]) := by rw [Hid, Em8.tdigs_ge h10]; congr 2
      have HI : Hid (∀ (w : World), Calls Tryd.prog 35 #[.int .i64 ((n / 10 : Nat) : Int)] w fun e w' => e = .returned (.string (Em.str (Em8.tdigs (n / 10)))) ∧ Below w.heap.size w w') := fun w => ih (n / 10) (by omega) w (by omega)
      clear ih
      have hdiv : (n : Int).tdiv 10 = ((n / 10 : Nat) : Int) := by rw [Int.tdiv_eq_ediv_of_nonneg (by omega)]; simp
      go_enter Tryd.func35, Tryd.ntmps35
      go_wp2_with fail
      refine (HI.out _).mono ?_
      rintro e w1 ⟨rfl, hb1⟩
      have HB1 : Hid (Below w.heap.size w w1) := HBE.out.trans (hb1.mono HBE.out.size)
      clear hb1 hc
      have hsz : ¬ 9223372036854775807 < (Em.str (Em8.tdigs (n / 10))).size + (Em.str [48 + (n : Int) % 10]).size := by
        have := Em8.tdigs_len64 (n := n / 10) (by omega)
        rw [str_size, str_size]; simp; omega
      go_wp2
      go_ret
      exact ⟨by rw [HR.out, ← str_app]; rfl, HB1.out⟩
end Go.Proofs.YtcpimmapdhmoiaaDoor

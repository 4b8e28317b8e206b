/- What frame.Get answers, for any bytes; what the law's own 'known' answers: true. -/
import Derived.Test.YtecoopclaogoiaaFGet
namespace Go.Proofs.Ytecoopclaogoiaa
open Go.RowKit

/-- frame.Get, of any bytes. -/
theorem fget_any (u : Value) (L : List Int) (w : World) (h : Em.IsBytes w u L) :
    Calls Try.prog 10 #[u] w fun e w' => FGot w' e (Em3.fget L) ∧ Below w.heap.size w w' := by
  cases L with
  | nil =>
    obtain ⟨a, cap, rfl, -, -⟩ := h.empty rfl
    exact fget_empty a cap w
  | cons k r =>
    obtain ⟨b, off, cap, rfl, h1, h2, hc⟩ := h.plain (by simp)
    exact fget_some b off cap k r w h

set_option maxRecDepth 100000 in
set_option maxHeartbeats 400000 in
theorem known3_any (w : World) : Calls Try.prog 11 #[] w fun e w' => e = .returned (.bool true) ∧ Below w.heap.size w w' := by
  have hl : (Em3.frm 1 []).length = 6 := by decide +kernel
  go_enter Try.func11, Try.ntmps11
  go_wp2_with fail
  refine (fput_any 1 _ [] _ (by omega) (by omega) (Em.IsBytes.nil _) (by simp)).mono ?_
  rintro e w1 ⟨u1, rfl, hown1, hbel1⟩
  obtain ⟨a, c, rfl⟩ := own_form hown1
  rw [hl]
  clear hown1 hl
  go_wp2_with fail
  go_ret
  exact ⟨rfl, hbel1⟩
end Go.Proofs.Ytecoopclaogoiaa

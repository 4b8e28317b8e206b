/- 'undo' of an attempt (package unify). -/
import Derived.Test.YtadhjnbhcenocaaUfUa
namespace Go.Proofs.Ytadhjnbhcenocaa
open Go.RowKit Go.Shelf Go.Em8 Go.Em9
set_option linter.unusedSimpArgs false
set_option linter.unusedVariables false
attribute [local go_sem] Oper.semAt_some

set_option maxRecDepth 100000 in
set_option maxHeartbeats 1000000 in
theorem ubackward_in (F : Fence) (n : Nat) (hF : F.fn 41) (hro : F.round = none) (a : Option Addr) (k c : Nat) (w : World) :
    CallsIn F n Try.prog 41 #[.slice a k c] w fun e w' => e = .returned (.func (.func 44) #[] #[.pointer (some ⟨w.heap.size, 0, none⟩)]) ∧ w' = w.alloc (.cells #[.slice a k c] 54) := by
  refine callsIn_of_wp Try.func41 rfl hF ?_ hro
  simp only [Try.ntmps41, List.size_toArray, List.length_cons, List.length_nil, Nat.reduceAdd, Nat.reduceSub, Array.replicate_succ, Array.replicate_zero, List.push_toArray, List.append_toArray, List.nil_append, List.cons_append]
  gi_wp2
  go_ret
  exact ⟨rfl, rfl⟩

/-- While terms are parted again: k of J are left. -/
structure UnI (w W : World) (K : Nat → Prop) (F : Fo) (cm sn : Nat → Int) (is0 : Nat → Option Nat) (J : List Nat) (k : Nat) (is : Nat → Option Nat) : Prop where
  tms : Tms W K F is cm sn
  kept : Kept (fun q => q ∈ F.L) w W
  left : ∀ j ∈ J.take k, is j = is0 j

theorem UnI.below {X W W' : World} {K : Nat → Prop} {F : Fo} {cm sn : Nat → Int} {is0 is : Nat → Option Nat} {J : List Nat} {k : Nat} (h : UnI X W K F cm sn is0 J k is) (hL : ∀ b ∈ F.L, b < X.heap.size) (hK : ∀ b, K b → b < X.heap.size) (hb : Below X.heap.size W W') : UnI X W' K F cm sn is0 J k is := by
  have kk : Kept (fun q => X.heap.size ≤ q) W W' := ⟨hb.os, hb.tape, hb.output, hb.size, fun q hq hn => hb.block q (by omega)⟩
  exact ⟨h.tms.turn kk (fun b hm e => by have := hL b hm; omega) (fun b hm e => by have := hK b hm; omega), h.kept.trans kk (fun b hb2 e => by omega), h.left⟩
end Go.Proofs.Ytadhjnbhcenocaa

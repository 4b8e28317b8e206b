/- What the document's own 'Var' and 'T' make. -/
import Derived.Test.YtbiihiibebdjgaaRTypC
namespace Go.Proofs.Ytbiihiibebdjgaa
open Go.RowKit
set_option linter.unusedSimpArgs false

theorem isTy_var (w : World) (n : Int) (hn : Em5.I64 n) : Em8.IsTy w (.mk Em8.tVar n []) (.agg #[.string (Em.str Em8.tVar), .int .i64 n, .slice none 0 0]) := by
  unfold Em8.IsTy
  exact ⟨none, 0, rfl, ⟨by decide, by decide⟩, hn, by simp, by simp, by simp⟩

set_option maxRecDepth 100000 in
set_option maxHeartbeats 1000000 in
theorem rtVar_any (n : Int) (w : World) :
    Calls Try.prog 30 #[.int .i64 n] w fun e w' => e = .returned (.agg #[.string (Em.str Em8.tVar), .int .i64 n, .slice none 0 0]) ∧ Below w.heap.size w w' := by
  go_enter Try.func30, Try.ntmps30
  go_wp2
  refine bodyPost_ret (v := .agg #[.string (Em.str Em8.tVar), .int .i64 n, .slice none 0 0]) (by simp [results, Try.results30, go_sem]; rfl) rfl ⟨rfl, (Below.refl _ _).alloc (Nat.le_refl _) _⟩

set_option maxRecDepth 100000 in
set_option maxHeartbeats 1000000 in
theorem rtT_any (op : List Int) (a : Option Addr) (n cap : Nat) (w : World) :
    Calls Try.prog 31 #[.string (Em.str op), .slice a n cap] w fun e w' => e = .returned (.agg #[.string (Em.str op), .int .i64 0, .slice a n cap]) ∧ Below w.heap.size w w' := by
  go_enter Try.func31, Try.ntmps31
  go_wp2
  refine bodyPost_ret (v := .agg #[.string (Em.str op), .int .i64 0, .slice a n cap]) (by simp [results, Try.results31, go_sem]) rfl ⟨rfl, (Below.refl _ _).alloc (Nat.le_refl _) _⟩
end Go.Proofs.Ytbiihiibebdjgaa

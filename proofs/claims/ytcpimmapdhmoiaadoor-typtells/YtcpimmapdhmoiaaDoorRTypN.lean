/- What the document's own 'Var' and 'T' make. -/
import Derived.Test.YtcpimmapdhmoiaaDoorRTypC
namespace Go.Proofs.YtcpimmapdhmoiaaDoor
open Go.RowKit
set_option linter.unusedSimpArgs false

theorem isTy_var (w : World) (n : Int) (hn : Em5.I64 n) : Em8.IsTy w (.mk Em8.tVar n []) (.agg #[.string (Em.str Em8.tVar), .int .i64 n, .slice none 0 0]) := by
  unfold Em8.IsTy
  exact ⟨none, 0, rfl, ⟨by decide, by decide⟩, hn, by simp, by simp, by simp⟩

set_option maxRecDepth 100000 in
set_option maxHeartbeats 1000000 in
theorem rtVar_any (n : Int) (w : World) :
    Calls Tryd.prog 23 #[.int .i64 n] w fun e w' => e = .returned (.agg #[.string (Em.str Em8.tVar), .int .i64 n, .slice none 0 0]) ∧ Below w.heap.size w w' := by
  go_enter Tryd.func23, Tryd.ntmps23
  go_wp2
  refine bodyPost_ret (v := .agg #[.string (Em.str Em8.tVar), .int .i64 n, .slice none 0 0]) (by simp [results, Tryd.results23, go_sem]; rfl) rfl ⟨rfl, (Below.refl _ _).alloc (Nat.le_refl _) _⟩

set_option maxRecDepth 100000 in
set_option maxHeartbeats 1000000 in
theorem rtT_any (op : List Int) (a : Option Addr) (n cap : Nat) (w : World) :
    Calls Tryd.prog 24 #[.string (Em.str op), .slice a n cap] w fun e w' => e = .returned (.agg #[.string (Em.str op), .int .i64 0, .slice a n cap]) ∧ Below w.heap.size w w' := by
  go_enter Tryd.func24, Tryd.ntmps24
  go_wp2
  refine bodyPost_ret (v := .agg #[.string (Em.str op), .int .i64 0, .slice a n cap]) (by simp [results, Tryd.results24, go_sem]) rfl ⟨rfl, (Below.refl _ _).alloc (Nat.le_refl _) _⟩
end Go.Proofs.YtcpimmapdhmoiaaDoor

/- What operations of a literal of types leave (chapter 9): loads, rows of one or two types, calls of T, pairs. -/
import Derived.Test.YtadhjnbhcenocaaRegInv
import Derived.Test.YtadhjnbhcenocaaFramePr
import Derived.Test.YtadhjnbhcenocaaUfW
import Derived.WalkKit
import Derived.WalkSpells
import Derived.WalkLawsBesides
import Derived.Deep.RegionHeld
namespace Go.Proofs.Ytadhjnbhcenocaa
open Go.RowKit Go.Em8 Go.Em9
set_option linter.unusedSimpArgs false
set_option linter.unusedVariables false

section
variable {o : Oper} {a : Act} {w : World} {K : Value → World → Prop}
theorem res_load (x : Operand) (ho : o.op = .load 25 x) {b : Nat} {s : ByteArray} {n : Int} {ka : Option Addr} {kl kc : Nat} (hx : a.eval x = .pointer (some ⟨b, 0, none⟩)) (k0 : w.cell? ⟨b, 0, none⟩ = some (.string s)) (k1 : w.cell? ⟨b, 1, none⟩ = some (.int .i64 n)) (k2 : w.cell? ⟨b, 2, none⟩ = some (.slice ka kl kc))
    (hK : K (.agg #[.string s, .int .i64 n, .slice ka kl kc]) w) : Res Try.prog o a w K := by
  refine .inl ⟨_, w, ?_, hK⟩
  unfold execOp
  simp only [ho, hx]
  go_simp
theorem res_row1 (x : Operand) (ho : o.op = .buildSlice 23 1 #[(0, x)]) {s : ByteArray} {n : Int} {ka : Option Addr} {kl kc : Nat} (hx : a.eval x = .agg #[.string s, .int .i64 n, .slice ka kl kc])
    (hK : K (.slice (some ⟨w.heap.size, 0, none⟩) 1 1) (w.alloc (.cells #[.string s, .int .i64 n, .slice ka kl kc] 25))) : Res Try.prog o a w K := by
  refine .inl ⟨_, _, ?_, hK⟩
  unfold execOp
  simp only [ho, List.map_toArray, List.map_cons, List.map_nil, hx]
  go_simp
theorem res_row2 (x y : Operand) (ho : o.op = .buildSlice 23 2 #[(0, x), (1, y)]) {s : ByteArray} {n : Int} {ka : Option Addr} {kl kc : Nat} {s' : ByteArray} {n' : Int} {ka' : Option Addr} {kl' kc' : Nat} (hx : a.eval x = .agg #[.string s, .int .i64 n, .slice ka kl kc]) (hy : a.eval y = .agg #[.string s', .int .i64 n', .slice ka' kl' kc'])
    (hK : K (.slice (some ⟨w.heap.size, 0, none⟩) 2 2) (w.alloc (.cells #[.string s, .int .i64 n, .slice ka kl kc, .string s', .int .i64 n', .slice ka' kl' kc'] 25))) : Res Try.prog o a w K := by
  refine .inl ⟨_, _, ?_, hK⟩
  unfold execOp
  simp only [ho, List.map_toArray, List.map_cons, List.map_nil, hx, hy]
  go_simp
theorem res_pair (x y : Operand) (ho : o.op = .build 37 #[(0, x), (1, y)]) {s : ByteArray} {n : Int} {ka : Option Addr} {kl kc : Nat} {s' : ByteArray} {n' : Int} {ka' : Option Addr} {kl' kc' : Nat} (hx : a.eval x = .agg #[.string s, .int .i64 n, .slice ka kl kc]) (hy : a.eval y = .agg #[.string s', .int .i64 n', .slice ka' kl' kc'])
    (hK : K (.agg #[.string s, .int .i64 n, .slice ka kl kc, .string s', .int .i64 n', .slice ka' kl' kc']) w) : Res Try.prog o a w K := by
  refine .inl ⟨_, _, ?_, hK⟩
  unfold execOp
  simp only [ho, List.map_toArray, List.map_cons, List.map_nil, hx, hy]
  go_simp
set_option maxRecDepth 100000 in
theorem res_T (s : ByteArray) (x : Operand) (ts : Array TypeId) (ho : o.op = .call { callee := .value (.func 25), args := #[.const (.string s), x], argTypes := ts }) {r : Option Addr} {n c : Nat} (hx : a.eval x = .slice r n c)
    (hK : ∀ w', Below w.heap.size w w' → K (.agg #[.string s, .int .i64 0, .slice r n c]) w') : Res Try.prog o a w K := by
  refine .inr ⟨25, #[.string s, .slice r n c], w, ?_, (rtTc_any s r n c w).mono ?_⟩
  · have e1 : a.eval (.const (.string s)) = .string s := rfl
    have e2 : a.eval (.func 25) = .func (.func 25) #[] #[] := rfl
    unfold execOp
    simp only [ho]
    unfold resolve
    simp only [List.map_toArray, List.map_cons, List.map_nil, hx, e1, e2]
    go_simp
  · rintro e w' ⟨rfl, hb⟩
    exact ⟨_, rfl, hK w' hb⟩
theorem res_assign (x : Operand) (ho : o.op = .assign x) (hK : K (a.eval x) w) : Res Try.prog o a w K := by
  refine .inl ⟨_, w, ?_, hK⟩
  unfold execOp
  simp only [ho]
  go_simp
end
end Go.Proofs.Ytadhjnbhcenocaa

/- What holds ahead of each round of the parser's loops. -/
import Derived.Test.YtoekhejpompjlaaDoorRPa2
namespace Go.Proofs.YtoekhejpompjlaaDoor
open Go.RowKit Go.Em5 Go.Em6

/-- What holds ahead of each round. -/
def LoopI (C : List Em4.Tok → R) (G : (List Em4.Tok → R) → Nat → Nd → List Em4.Tok → R) (pb tb : Nat) (w : World) (s : St) (g : Nat) (wr : World) : Prop :=
  ∃ (n : Nd) (s' : St) (x0 x1 x2 : ByteArray) (xm xp : Int) (xa : Option Addr) (xl xc : Nat), Six wr g (.string x0) (.string x1) (.string x2) (.int .i64 xm) (.int .i64 xp) (.slice xa xl xc) ∧
    Six wr w.heap.size (.string ⟨#[]⟩) (.string ⟨#[]⟩) (.string ⟨#[]⟩) (.int .i64 0) (.int .i64 0) (.slice none 0 0) ∧ IsSt wr pb tb s' ∧ Bes pb w wr ∧
    NdQ (w.heap.size + 1) g wr n (.agg #[.string x0, .string x1, .string x2, .int .i64 xm, .int .i64 xp, .slice xa xl xc]) ∧
    (∀ (m : Nd) (s'' : St), Fits (thn s' (fun L => G C L.length n L)) m s'' → Fits (thn s (fun L => bnd (C L) fun a L1 => G C L1.length a L1)) m s'')

theorem fits_len1 {F : List Em4.Tok → R} (hF : Shr F) {s : St} {n : Nd} {s' : St} (h : Fits (thn s F) n s') : lenS s' < lenS s + 1 := by
  cases s' with
  | error e => exact Nat.succ_pos _
  | ok L => exact Nat.lt_succ_of_lt (fits_shr hF h)
end Go.Proofs.YtoekhejpompjlaaDoor

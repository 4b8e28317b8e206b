/- What the document's own Tokens answers. -/
import Derived.Test.YtlniokcekjemdaaDoorRLexO
import Derived.Test.YtlniokcekjemdaaDoorOwn
namespace Go.Proofs.YtlniokcekjemdaaDoor
open Go.RowKit
set_option linter.unusedSimpArgs false

/-- A token's cells, as they lie in memory. -/
def tokCells (t : Em4.Tok) : List Value := [.int .i64 t.kind, .string (Em.str t.text), .int .i64 t.num, .int .i64 t.pos]
/-- Tokens in a row of memory that begins at block B or behind it. -/
def OwnToks (w : World) (B : Nat) (v : Value) (l : List Em4.Tok) : Prop := w.ownsRow B 65 4 v l.length (l.flatMap tokCells)
theorem infoTok : (Tryd.prog.info? 65).map (fun i => (i.zero, i.size, i.bytes)) = some (some (.agg #[.int .i64 0, .string ⟨#[]⟩, .int .i64 0, .int .i64 0]), 4, 40) := by kernel_rfl
theorem cells_four (w : World) (t : TypeId) {g : Nat} (hg : g = w.heap.size) (a b c d : Value) : ∀ j u, [a, b, c, d][j]? = some u → (w.alloc (.cells #[a, b, c, d] t)).cell? ((⟨g, 0, none⟩ : Addr).add j) = some u := by
  subst hg
  intro j u hj
  match j, hj with
  | 0, hj => simpa [Addr.add] using hj
  | 1, hj => simpa [Addr.add] using hj
  | 2, hj => simpa [Addr.add] using hj
  | 3, hj => simpa [Addr.add] using hj
  | j + 4, hj => simp at hj

/-- 'append(l, t)' onto tokens of one's own. -/
theorem wpList_app_tok {w : World} {ops : Array Oper} {rest : List Oper} {o : Oper} {a : Act} {Q : Exit → Act → World → Prop} (hgd : o.guard = none) (s x : Operand)
    (ho : o.op = .call { callee := .builtin .append, args := #[s, x], argTypes := #[82, 82] })
    (B : Nat) (v : Value) (l : List Em4.Tok) (hs : a.eval s = v) (hown : OwnToks w B v l) (t : Em4.Tok) (g : Nat) (hg : g = w.heap.size) (hx : a.eval x = .slice (some ⟨g, 0, none⟩) 1 1) (hsz : l.length ≤ 1000000) (hb : B ≤ w.heap.size)
    (h : ∀ v' w', OwnToks w' B v' (l ++ [t]) → Below B w w' → wpList Tryd.prog ops Q rest (a.put o.dst v') w') :
    wpList Tryd.prog ops Q (o :: rest) a (w.alloc (.cells #[.int .i64 t.kind, .string (Em.str t.text), .int .i64 t.num, .int .i64 t.pos] 65)) := by
  obtain ⟨i0, hi, hz0, hz1, hz2⟩ := info_parts infoTok
  have ho2 := hown.alloc (.cells #[.int .i64 t.kind, .string (Em.str t.text), .int .i64 t.num, .int .i64 t.pos] 65)
  refine wpList_append_own _ hgd s x 82 ho B 65 i0 _ 4 40 Tryd.underlying82 hi hz0 hz1 hz2 rfl (by decide) v _ _ hs ho2 ⟨g, 0, none⟩ 1 1 (tokCells t) hx rfl (cells_four w _ hg _ _ _ _) (by intro u hu; simp only [tokCells, List.mem_cons, List.not_mem_nil, or_false] at hu; rcases hu with rfl | rfl | rfl | rfl <;> rfl) (by unfold maxLen; omega) (by omega) (by simp; omega) ?_
  intro v' w' h1 h2 _
  refine h v' w' ?_ ?_
  · unfold OwnToks; simpa using h1
  · exact ((Below.refl _ _).alloc hb _).grown h2 (by simp; omega) (fun k hk => (hown.lt k hk).1)

theorem drop_step {L : List Int} {k : Nat} (h : k < L.length) : L.drop k = L[k]?.getD 0 :: L.drop (k + 1) := by
  rw [List.getElem?_eq_getElem h]; simp
/-- What stands ahead, and what comes. -/
def pre (l : List Em4.Tok) : Except Nat (List Em4.Tok) → Except Nat (List Em4.Tok)
  | .error j => .error j
  | .ok r => .ok (l ++ r)
theorem pre_nil (r : Except Nat (List Em4.Tok)) : pre [] r = r := by cases r <;> rfl
theorem pre_snoc (l : List Em4.Tok) (t : Em4.Tok) (r : Except Nat (List Em4.Tok)) : pre l (Em4.cns t r) = pre (l ++ [t]) r := by
  cases r <;> simp [pre, Em4.cns]

/-- What Tokens hands back. -/
def ToksGot (w : World) (B : Nat) (e : Ending) (n : Nat) (r : Except Nat (List Em4.Tok)) : Prop :=
  match r with
  | .error i => e = .returned (.tuple #[.slice none 0 0, .int .i64 i, .int .i64 2])
  | .ok l => ∃ v, e = .returned (.tuple #[v, .int .i64 n, .int .i64 0]) ∧ OwnToks w B v l

end Go.Proofs.YtlniokcekjemdaaDoor

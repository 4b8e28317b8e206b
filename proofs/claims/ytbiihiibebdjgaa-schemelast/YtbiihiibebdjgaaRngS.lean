/- A range over a function whose rounds come in one order, and whose body may return: package scheme's Look. -/
import Derived.Test.YtbiihiibebdjgaaProg
import Derived.Test.YtbiihiibebdjgaaRndR
import Derived.RangeFuncNested
import Derived.RangeFuncBound
import Derived.RangeFuncCalls
import Derived.RangeFuncLeaves
import Derived.RangeFuncKeeps
import Derived.Shelf.Abstract
import Derived.Shelf.RegionOpen
import Derived.WalkKit
import Derived.OwnWalkIn
import Derived.TacticsInMore
import Derived.LoopNIn
import Derived.LoopIn
namespace Go.Proofs.Ytbiihiibebdjgaa
open Go.RowKit Go.Shelf
set_option linter.unusedSimpArgs false
set_option linter.unusedVariables false
attribute [local go_sem] Oper.semAt_some

/-- A loop over a function whose rounds come in one order, as many as m; whose variables may be laid anew in each round (Ax); and whose body may return in a round. What holds when k rounds have passed is I k; where a round has returned, Ix. -/
theorem range_search {F : Fence} {n : Nat} {P : Program} {g : Operand} {ps : Array Tmp} {assign body : Code} {Q : Exit → Act → World → Prop} {a : Act} {w : World} (hro : F.round = none) (h1 : 1 ≤ n) {gf : Nat} {lb : Array Value} (hg : a.eval g = .func (.func gf) #[] lb) (hFg : F.fn gf)
    (eg : ∀ args w, (callFunc gf args).run P w = .ok (.enter gf args) w) (args : Nat → Array Value) (m : Nat) (hps : ∀ k, (args k).size = ps.size) (I : Nat → World → Prop) (Ix : World → Prop) (Ax : Nat → Act → World → Prop)
    (hI : ∀ k W W', I k W → Below W.heap.size W W' → I k W') (hI2 : ∀ k W q o o', w.heap.size ≤ q → W.heap[q]? = some o → o.isCells = false → o.isWalk = false → I k W → I k (W.putObj q o')) (hIx : ∀ W q o o', w.heap.size ≤ q → W.heap[q]? = some o → o.isCells = false → o.isWalk = false → Ix W → Ix (W.putObj q o')) (hAx : ∀ k a' W q o o', W.heap[q]? = some o → o.isCells = false → Ax k a' W → Ax k a' (W.putObj q o')) (h0 : I 0 w)
    (hiter : ∀ (l : Nat) (J : Nat → World → Prop) (Jx : World → Prop) (W : World), (∀ k W, J k W → I k W) → (∀ k W1, J k W1 → k < m → YieldAt F (n - 1 - 1) P l (args k) W1 fun e W' => (e = .returned (.bool true) ∧ J (k + 1) W') ∨ (e = .returned (.bool false) ∧ Jx W')) → J 0 W → CallsIn F (n - 1) P gf (#[.func (.yield l) #[] #[]] ++ lb) W fun e W' => (∃ v, e = .returned v) ∧ (J m W' ∨ Jx W'))
    (hassign : ∀ (l k : Nat) (W : World) (K : Act → World → Prop), I k W → k < m → (∀ a' W', Below W.heap.size W W' → Ax k a' W' → K a' W') → assign.wpIn (F.inRound l) (n - 1 - 1) P (Exit.then K (fun _ _ _ => False)) { tmps := (ps.zip (args k)).foldl (fun t (p, v) => t.setIfInBounds p v) a.tmps, defers := [] } W)
    (hbody : ∀ (l k : Nat) (a' : Act) (W : World), I k W → Ax k a' W → k < m → body.wpIn (F.inRound l) (n - 1 - 1) P (fun e _ W' => ((e = .normal ∧ I (k + 1) W') ∨ (e = .ret ∧ Ix W')) ∧ W.heap.size ≤ W'.heap.size ∧ ∀ q, w.heap.size ≤ q → q < W.heap.size → (∀ o, W.heap[q]? = some o → o.isCells = false → W'.heap[q]? = W.heap[q]?)) a' W)
    (hdone : ∀ (d : Nat) (W : World), w.heap.size ≤ d → I m W → W.heap[d]? = some (.deferred (some [])) → Q .normal { a with defers := { target := .collected d, args := #[] } :: a.defers } W)
    (hret : ∀ (d : Nat) (W : World), w.heap.size ≤ d → Ix W → W.heap[d]? = some (.deferred (some [])) → Q .ret { a with defers := { target := .collected d, args := #[] } :: a.defers } W) : (Code.rangeFunc g ps assign body).wpIn F n P Q a w := by
  have hlt0 : ∀ {W : World} {k : Nat} {o : Obj}, W.heap[k]? = some o → k < W.heap.size := fun h => (Array.getElem?_eq_some_iff.1 h).1
  refine wpIn_rangeFunc fun fn hfn => ?_
  rw [hro]
  let r (st : LoopState) (pe : Option Code) : Loop := { state := st, pending := pe, fn, tmps := a.tmps, params := ps, assign, body, defers := w.heap.size }
  let V : World := (w.alloc (.deferred (some []))).alloc (.loop (r .ready none))
  have zV : V.heap.size = w.heap.size + 2 := by simp [V]
  have bV : Below w.heap.size w V := ((Below.refl _ w).alloc (Nat.le_refl _) _).alloc (by simp) _
  have cl : V.heap[w.heap.size + 1]? = some (.loop (r .ready none)) := by
    have h := World.alloc_heap_new (w.alloc (.deferred (some []))) (.loop (r .ready none))
    rwa [World.size_alloc] at h
  have cd : V.heap[w.heap.size]? = some (.deferred (some [])) := (Below.heap_alloc _ _ _ (by simp)).trans (World.alloc_heap_new w _)
  refine ⟨w.heap.size + 1, [{ target := .collected w.heap.size, args := #[] }], V, { target := .fn (.func gf) lb, args := #[.func (.yield (w.heap.size + 1)) #[] #[]] }, V, gf, #[.func (.yield (w.heap.size + 1)) #[] #[]] ++ lb, V, run_enterLoop_outer _ _ _ _ _, ?_, ?_, ?_, fun _ => h1, ?_⟩
  · simp only [resolve, hg]
    simp [go_sem]
  · intro f' hf'
    simp [Target.leads] at hf'
    subst hf'; exact hFg
  · simp [invoke, go_sem, eg]
  · refine (hiter (w.heap.size + 1) (fun k W => I k W ∧ W.heap[w.heap.size + 1]? = some (.loop (r .ready none)) ∧ W.heap[w.heap.size]? = some (.deferred (some []))) (fun W => Ix W ∧ W.heap[w.heap.size + 1]? = some (.loop (r .done (some .ret))) ∧ W.heap[w.heap.size]? = some (.deferred (some []))) V (fun k W h => h.1) ?_ ⟨hI 0 w V h0 bV, cl, cd⟩).mono ?_
    · rintro k W ⟨hi, hl, hd⟩ hk
      have hlt : w.heap.size + 1 < W.heap.size := hlt0 hl
      refine ⟨fn, _, assign, body, run_yield hl (hps k), roundIn_of_wpIn hfn (hassign _ k W _ hi hk ?_)⟩
      intro a' W1 hb1 hx1
      have hl1 : W1.heap[w.heap.size + 1]? = some (.loop (r .ready none)) := (hb1.block _ hlt).trans hl
      have hd1 : W1.heap[w.heap.size]? = some (.deferred (some [])) := (hb1.block _ (by omega)).trans hd
      have hi1 : I k W1 := hI k W W1 hi hb1
      refine ⟨_, run_beginRound hl1 rfl, ?_⟩
      have e1 : (W1.putObj (w.heap.size + 1) (.loop { r .ready none with state := .busy })).heap[w.heap.size + 1]? = some (.loop { r .ready none with state := .busy }) := World.putObj_heap_same (hlt0 hl1)
      have e2 : (W1.putObj (w.heap.size + 1) (.loop { r .ready none with state := .busy })).heap[w.heap.size]? = some (.deferred (some [])) := (World.putObj_heap_other (by omega)).trans hd1
      refine wpIn_mono (hbody _ k a' _ (hI2 k _ _ _ _ (by omega) hl1 rfl rfl hi1) (hAx k a' _ _ _ _ hl1 rfl hx1) hk) ?_
      rintro e a3 W3 ⟨hend, hs3, hf3⟩
      have e3 : W3.heap[w.heap.size + 1]? = some (.loop { r .ready none with state := .busy }) := (hf3 _ (by omega) (hlt0 e1) _ e1 rfl).trans e1
      have e4 : W3.heap[w.heap.size]? = some (.deferred (some [])) := (hf3 _ (Nat.le_refl _) (hlt0 e2) _ e2 rfl).trans e2
      rcases hend with ⟨rfl, hi3⟩ | ⟨rfl, hi3⟩
      · exact ⟨_, _, run_endRound none e3, .inl ⟨rfl, hI2 _ _ _ _ _ (by omega) e3 rfl rfl hi3, World.putObj_heap_same (hlt0 e3), (World.putObj_heap_other (by omega)).trans e4⟩⟩
      · exact ⟨_, _, run_endRound (some .ret) e3, .inr ⟨rfl, hIx _ _ _ _ (by omega) e3 rfl rfl hi3, World.putObj_heap_same (hlt0 e3), (World.putObj_heap_other (by omega)).trans e4⟩⟩
    · rintro e W2 ⟨⟨v, rfl⟩, ⟨hi, hl, hd⟩ | ⟨hi, hl, hd⟩⟩
      · exact ⟨none, _, run_endLoop hl (by simp [r]), hdone _ _ (Nat.le_refl _) (hI2 _ _ _ _ _ (by omega) hl rfl rfl hi) ((World.putObj_heap_other (by omega)).trans hd)⟩
      · exact ⟨some .ret, _, run_endLoop hl (by simp [r]), wpIn_ret (hret _ _ (Nat.le_refl _) (hIx _ _ _ _ (by omega) hl rfl rfl hi) ((World.putObj_heap_other (by omega)).trans hd))⟩
end Go.Proofs.Ytbiihiibebdjgaa

/- Undoing an attempt: a range over 'slices.Backward' whose rounds come in one order (package unify). -/
import Derived.Test.YtadhjnbhcenocaaUfY
import Derived.RangeFuncNested
import Derived.RangeFuncBound
import Derived.RangeFuncCalls
import Derived.RangeFuncLeaves
import Derived.Shelf.Abstract
import Derived.Shelf.RegionOpen
import Derived.WalkKit
import Derived.OwnWalkIn
import Derived.TacticsInMore
import Derived.LoopNIn
import Derived.LoopIn
import Derived.Maps.OwnIn
namespace Go.Proofs.Ytadhjnbhcenocaa
open Go.RowKit Go.Shelf Go.Em8 Go.Em9
set_option linter.unusedSimpArgs false
set_option linter.unusedVariables false
attribute [local go_sem] Oper.semAt_some

/-- A loop over a function whose rounds come in one order, as many as m, and whose body never leaves: what holds when k rounds have passed is I k. -/
theorem range_rounds {F : Fence} {n : Nat} {P : Program} {g : Operand} {ps : Array Tmp} {assign body : Code} {Q : Exit → Act → World → Prop} {a : Act} {w : World} (hro : F.round = none) (h1 : 1 ≤ n) {gf : Nat} {lb : Array Value} (hg : a.eval g = .func (.func gf) #[] lb) (hFg : F.fn gf)
    (eg : ∀ args w, (callFunc gf args).run P w = .ok (.enter gf args) w) (args : Nat → Array Value) (m : Nat) (hps : ∀ k, (args k).size = ps.size) (I : Nat → World → Prop) (hI : ∀ k W W', I k W → Below w.heap.size W W' → I k W') (h0 : I 0 w)
    (hiter : ∀ (l : Nat) (J : Nat → World → Prop) (W : World), (∀ k W, J k W → I k W) → (∀ k W1, J k W1 → k < m → YieldAt F (n - 1 - 1) P l (args k) W1 fun e W' => e = .returned (.bool true) ∧ J (k + 1) W') → J 0 W → CallsIn F (n - 1) P gf (#[.func (.yield l) #[] #[]] ++ lb) W fun e W' => (∃ v, e = .returned v) ∧ J m W')
    (b : Nat → Act) (hassign : ∀ (l k : Nat) (W : World) (K : Act → World → Prop), k < m → K (b k) W → assign.wpIn (F.inRound l) (n - 1 - 1) P (Exit.then K (fun _ _ _ => False)) { tmps := (ps.zip (args k)).foldl (fun t (p, v) => t.setIfInBounds p v) a.tmps, defers := [] } W)
    (hbody : ∀ (l k : Nat) (W : World), I k W → k < m → body.wpIn (F.inRound l) (n - 1 - 1) P (fun e _ W' => e = .normal ∧ I (k + 1) W' ∧ W.heap.size ≤ W'.heap.size ∧ ∀ q, w.heap.size ≤ q → q < W.heap.size → W'.heap[q]? = W.heap[q]?) (b k) W)
    (hdone : ∀ (d : Nat) (W : World), w.heap.size ≤ d → I m W → W.heap[d]? = some (.deferred (some [])) → Q .normal { a with defers := { target := .collected d, args := #[] } :: a.defers } W) : (Code.rangeFunc g ps assign body).wpIn F n P Q a w := by
  refine wpIn_rangeFunc fun fn hfn => ?_
  rw [hro]
  let r (st : LoopState) (pe : Option Code) : Loop := { state := st, pending := pe, fn, tmps := a.tmps, params := ps, assign, body, defers := w.heap.size }
  let V : World := (w.alloc (.deferred (some []))).alloc (.loop (r .ready none))
  have zV : V.heap.size = w.heap.size + 2 := by simp [V]
  have bV : Below w.heap.size w V := ((Below.refl _ w).alloc (Nat.le_refl _) _).alloc (by simp) _
  have cl : V.heap[w.heap.size + 1]? = some (.loop (r .ready none)) := by
    have h := World.alloc_heap_new (w.alloc (.deferred (some []))) (.loop (r .ready none))
    rwa [World.size_alloc] at h
  have cd : V.heap[w.heap.size]? = some (.deferred (some [])) := (Below.heap_alloc _ _ _ (by simp)).trans (World.alloc_heap_new w _)
  have put : ∀ (W : World) (q : Nat) (o o' : Obj), w.heap.size ≤ q → W.heap[q]? = some o → o.isCells = false → o.isWalk = false → Below w.heap.size W (W.putObj q o') := fun W q o o' hq ho h2 h3 => belowK_b (w := w) (Nat.le_refl _) W q o o' hq ho h2 h3
  refine ⟨w.heap.size + 1, [{ target := .collected w.heap.size, args := #[] }], V, { target := .fn (.func gf) lb, args := #[.func (.yield (w.heap.size + 1)) #[] #[]] }, V, gf, #[.func (.yield (w.heap.size + 1)) #[] #[]] ++ lb, V, run_enterLoop_outer _ _ _ _ _, ?_, ?_, ?_, fun _ => h1, ?_⟩
  · simp only [resolve, hg]
    simp [go_sem]
  · intro f' hf'
    simp [Target.leads] at hf'
    subst hf'; exact hFg
  · simp [invoke, go_sem, eg]
  · refine (hiter (w.heap.size + 1) (fun k W => I k W ∧ W.heap[w.heap.size + 1]? = some (.loop (r .ready none)) ∧ W.heap[w.heap.size]? = some (.deferred (some []))) V (fun k W h => h.1) ?_ ⟨hI 0 w V h0 bV, cl, cd⟩).mono ?_
    · rintro k W ⟨hi, hl, hd⟩ hk
      have hlt : w.heap.size + 1 < W.heap.size := heap_lt9 hl
      refine ⟨fn, _, assign, body, run_yield hl (hps k), roundIn_of_wpIn hfn (hassign _ k W _ hk ⟨_, run_beginRound hl rfl, ?_⟩)⟩
      have bW := put W _ _ (.loop { r .ready none with state := .busy }) (by omega) hl rfl rfl
      have e1 : (W.putObj (w.heap.size + 1) (.loop { r .ready none with state := .busy })).heap[w.heap.size + 1]? = some (.loop { r .ready none with state := .busy }) := World.putObj_heap_same hlt
      have e2 : (W.putObj (w.heap.size + 1) (.loop { r .ready none with state := .busy })).heap[w.heap.size]? = some (.deferred (some [])) := (World.putObj_heap_other (by omega)).trans hd
      refine wpIn_mono (hbody _ k _ (hI k _ _ hi bW) hk) ?_
      rintro e a3 W3 ⟨rfl, hi3, hs3, hf3⟩
      have e3 : W3.heap[w.heap.size + 1]? = some (.loop { r .ready none with state := .busy }) := (hf3 _ (by omega) (heap_lt9 e1)).trans e1
      have e4 : W3.heap[w.heap.size]? = some (.deferred (some [])) := (hf3 _ (Nat.le_refl _) (heap_lt9 e2)).trans e2
      exact ⟨_, _, run_endRound none e3, rfl, hI _ _ _ hi3 (put W3 _ _ _ (by omega) e3 rfl rfl), World.putObj_heap_same (heap_lt9 e3), (World.putObj_heap_other (by omega)).trans e4⟩
    · rintro e W2 ⟨⟨v, rfl⟩, hi, hl, hd⟩
      exact ⟨none, _, run_endLoop hl (by simp [r]), hdone _ _ (Nat.le_refl _) (hI _ _ _ hi (put W2 _ _ _ (by omega) hl rfl rfl)) ((World.putObj_heap_other (by omega)).trans hd)⟩

end Go.Proofs.Ytadhjnbhcenocaa

/- A region that draws its order, whatever the order: what each operation leaves is said by its number; no order is looked at. -/
import Derived.Orders
import Derived.Below
import Derived.WalkKit
namespace Go.Proofs.Ytadhjnbhcenocaa
open Go Go.RowKit
set_option linter.unusedVariables false
set_option linter.unusedSimpArgs false

section
variable {P : Program} {ops : Array Oper} {Q : Exit → Act → World → Prop} {md : Region.Mode}
theorem count_false_set {l : List Bool} {i : Nat} (hi : l[i]? = some false) : (l.set i true).count false + 1 = l.count false := by
  induction l generalizing i with
  | nil => simp at hi
  | cons b r ih =>
    cases i with
    | zero => simp at hi; subst hi; simp
    | succ i =>
      simp only [List.getElem?_cons_succ] at hi
      have := ih hi
      simp only [List.set_cons_succ, List.count_cons]
      omega
/-- What holds at the start and is kept by each operation that may come up holds at the end. -/
theorem wpAny_inv (Inv : Array Bool → Act → World → Prop) (hsz : ∀ listed a w, Inv listed a w → listed.size = ops.size)
    (hstep : ∀ listed a w i, Inv listed a w → i ∈ Region.ready md ops listed → wpOp P ops Q i (fun a' w' => Inv (listed.setIfInBounds i true) a' w') a w)
    (hend : ∀ listed a w, Inv listed a w → Region.ready md ops listed = [] → Q .normal a w) :
    ∀ (fuel : Nat) (listed : Array Bool) (a : Act) (w : World), Inv listed a w → listed.toList.count false ≤ fuel → wpAny P md ops Q fuel listed a w := by
  have unl : ∀ (listed : Array Bool) (i : Nat), i ∈ Region.ready md ops listed → listed.toList[i]? = some false := fun listed i hi => by
    have h := (mem_ready.1 hi).1
    rw [Array.getElem?_toList]
    rw [Array.getD_eq_getD_getElem?] at h
    cases hx : listed[i]? with
    | none => rw [hx] at h; simp at h
    | some b => rw [hx] at h; simp at h; rw [h]
  intro fuel
  induction fuel with
  | zero =>
    intro listed a w hI hc
    have hr : Region.ready md ops listed = [] := by
      apply List.eq_nil_iff_forall_not_mem.2
      intro i hi
      have := count_false_set (unl listed i hi)
      omega
    exact ⟨hr, hend listed a w hI hr⟩
  | succ fuel ih =>
    intro listed a w hI hc
    refine ⟨fun hr => hend listed a w hI hr, fun i hi => wpOp_mono (fun a' w' h => ih _ a' w' h ?_) (hstep listed a w i hI hi)⟩
    have := count_false_set (unl listed i hi)
    rw [Array.toList_setIfInBounds]
    omega
/-- What an operation leaves: a value, at once or by a call. -/
def Res (P : Program) (o : Oper) (a : Act) (w : World) (K : Value → World → Prop) : Prop :=
  (∃ v w', (execOp a.eval o).run P w = .ok (.value v) w' ∧ K v w') ∨
  (∃ f args w', (execOp a.eval o).run P w = .ok (.enter f args) w' ∧ Calls P f args w' fun e w'' => ∃ v, e = .returned v ∧ K v w'')
/-- What is asked of a region's operations, by looking: none is guarded, each has a place of its own, within the frame; each waits for others ahead of it alone. -/
def plainOps (ops : Array Oper) (n : Nat) : Bool :=
  (List.range ops.size).all fun i => match ops[i]? with
    | none => true
    | some o => o.guard.isNone && (match o.dst with
      | none => false
      | some d => decide (d < n) && (List.range ops.size).all fun j => decide (j = i) || (match ops[j]? with | none => true | some oj => decide (oj.dst ≠ some d))) && o.after.all fun e => decide (e.on < i)
structure PlainOp (ops : Array Oper) (n i : Nat) (o : Oper) : Prop where
  guard : o.guard = none
  dst : ∃ d, o.dst = some d ∧ d < n ∧ ∀ j oj, ops[j]? = some oj → oj.dst = some d → j = i
  after : ∀ e ∈ o.after, e.on < i
theorem plainOps_spec {n : Nat} (h : plainOps ops n = true) {i : Nat} {o : Oper} (ho : ops[i]? = some o) : PlainOp ops n i o := by
  have hi : i < ops.size := (Array.getElem?_eq_some_iff.1 ho).1
  have h1 := List.all_eq_true.1 h i (List.mem_range.2 hi)
  simp only [ho, Bool.and_eq_true] at h1
  obtain ⟨⟨h1, h2⟩, h3⟩ := h1
  refine ⟨by simpa using h1, ?_, fun e he => ?_⟩
  · cases hd : o.dst with
    | none => rw [hd] at h2; simp at h2
    | some d =>
      rw [hd] at h2
      simp only [Bool.and_eq_true, decide_eq_true_eq] at h2
      refine ⟨d, rfl, h2.1, fun j oj hj hjd => ?_⟩
      have hjs : j < ops.size := (Array.getElem?_eq_some_iff.1 hj).1
      have h4 := List.all_eq_true.1 h2.2 j (List.mem_range.2 hjs)
      simp only [hj, Bool.or_eq_true, decide_eq_true_eq] at h4
      exact h4.resolve_right fun h5 => h5 hjd
  · have := Array.all_eq_true'.1 h3 e he
    simpa using this
/-- In the middle of such a region. -/
structure RI (ops : Array Oper) (Ok : Nat → Value → World → Prop) (a0 : Act) (w0 : World) (listed : Array Bool) (a : Act) (w : World) : Prop where
  size : listed.size = ops.size
  defers : a.defers = a0.defers
  tsize : a.tmps.size = a0.tmps.size
  low : Below w0.heap.size w0 w
  fixed : ∀ k, (∀ (i : Nat) (o : Oper), ops[i]? = some o → o.dst ≠ some k) → a.eval (.tmp k) = a0.eval (.tmp k)
  val : ∀ (i : Nat) (o : Oper) (d : Nat), ops[i]? = some o → o.dst = some d → listed.getD i false = true → Ok i (a.eval (.tmp d)) w
theorem eval_put_same {a : Act} {d : Nat} {v : Value} (hd : d < a.tmps.size) : (a.put (some d) v).eval (.tmp d) = v := by
  simp [Act.put, Act.eval, Array.getD_eq_getD_getElem?, hd]
theorem eval_put_other {a : Act} {d k : Nat} {v : Value} (hd : k ≠ d) : (a.put (some d) v).eval (.tmp k) = a.eval (.tmp k) :=
  Act.eval_put fun d' h e => hd (by cases h; cases e; rfl)
theorem all_listed {n : Nat} {listed : Array Bool} (hp : plainOps ops n = true) (hs : listed.size = ops.size) (hr : Region.ready md ops listed = []) : ∀ i, i < ops.size → listed.getD i false = true := by
  intro i
  induction i using Nat.strongRecOn with
  | ind i ih =>
    intro hi
    obtain ⟨o, ho⟩ : ∃ o, ops[i]? = some o := ⟨_, Array.getElem?_eq_getElem hi⟩
    have hpo := plainOps_spec hp ho
    have hlt : i < listed.size := by omega
    cases hb : listed[i] with
    | true => simp [Array.getD_eq_getD_getElem?, hlt, hb]
    | false =>
      exfalso
      have : i ∈ Region.ready md ops listed := mem_ready.2 ⟨by simp [Array.getD_eq_getD_getElem?, hlt, hb], o, ho, fun e he _ => ih e.on (hpo.after e he) (by have := hpo.after e he; omega)⟩
      rw [hr] at this; cases this
theorem wpAny_values (Ok : Nat → Value → World → Prop) {a0 : Act} {w0 : World} (hp : plainOps ops a0.tmps.size = true)
    (hOk : ∀ i v w w', Ok i v w → Below w.heap.size w w' → Ok i v w')
    (hstep : ∀ (i : Nat) (o : Oper), ops[i]? = some o → ∀ (a : Act) (w : World), Below w0.heap.size w0 w → (∀ k, (∀ (i : Nat) (o : Oper), ops[i]? = some o → o.dst ≠ some k) → a.eval (.tmp k) = a0.eval (.tmp k)) →
      (∀ e ∈ o.after, Region.binds md e = true → ∀ (oe : Oper) (d : Nat), ops[e.on]? = some oe → oe.dst = some d → Ok e.on (a.eval (.tmp d)) w) → Res P o a w fun v w' => Ok i v w' ∧ Below w.heap.size w w')
    (hend : ∀ (a : Act) (w : World), a.defers = a0.defers → a.tmps.size = a0.tmps.size → Below w0.heap.size w0 w → (∀ k, (∀ (i : Nat) (o : Oper), ops[i]? = some o → o.dst ≠ some k) → a.eval (.tmp k) = a0.eval (.tmp k)) →
      (∀ (i : Nat) (o : Oper) (d : Nat), ops[i]? = some o → o.dst = some d → Ok i (a.eval (.tmp d)) w) → Q .normal a w) : wpAny P md ops Q ops.size (Array.replicate ops.size false) a0 w0 := by
  refine wpAny_inv (RI ops Ok a0 w0) (fun _ _ _ h => h.size) (fun listed a w i hI hi => ?_) (fun listed a w hI hr => ?_) _ _ a0 w0 ⟨by simp, rfl, rfl, Below.refl _ _, fun _ _ => rfl, fun i o d _ _ h => ?_⟩ (by simp [Array.toList_replicate, List.count_replicate])
  · obtain ⟨hun, o, ho, haf⟩ := mem_ready.1 hi
    have hpo := plainOps_spec hp ho
    obtain ⟨d, hd, hdn, hdu⟩ := hpo.dst
    have hilt : i < listed.size := by have := (Array.getElem?_eq_some_iff.1 ho).1; have := hI.size; omega
    have hw : Region.wanted o (yielded ops a.tmps) = true := by simp [Region.wanted, hpo.guard]
    have next : ∀ v w', Ok i v w' ∧ Below w.heap.size w w' → RI ops Ok a0 w0 (listed.setIfInBounds i true) (a.put o.dst v) w' := fun v w' hv => by
      rw [hd]
      refine ⟨by simp [hI.size], by simpa [Act.put] using hI.defers, by simpa [Act.put] using hI.tsize, hI.low.trans (hv.2.mono hI.low.size), fun k hk => ?_, fun j oj dj hj hdj hl => ?_⟩
      · rw [eval_put_other (fun e => hk i o ho (by rw [hd, e]))]; exact hI.fixed k hk
      · by_cases e : dj = d
        · subst e
          have hji := hdu j oj hj hdj
          subst hji
          rw [eval_put_same (by rw [hI.tsize]; exact hdn)]
          exact hv.1
        · have hne : j ≠ i := fun h => e (by subst h; rw [hj] at ho; cases ho; rw [hd] at hdj; cases hdj; rfl)
          rw [eval_put_other e]
          refine hOk j _ w w' (hI.val j oj dj hj hdj ?_) hv.2
          have hjl : j < listed.size := by have := (Array.getElem?_eq_some_iff.1 hj).1; have := hI.size; omega
          simp only [Array.getD_eq_getD_getElem?, Array.getElem?_setIfInBounds] at hl ⊢
          rw [if_neg (fun h => hne h.symm)] at hl
          exact hl
    have hr := hstep i o ho a w hI.low hI.fixed fun e he hb oe de hoe hde => hI.val e.on oe de hoe hde (haf e he hb)
    unfold wpOp
    rw [ho]
    simp only [hw, if_true]
    refine .inl ?_
    unfold Oper.wp
    rcases hr with ⟨v, w', hrun, hv⟩ | ⟨f, args, w1, hrun, hc⟩
    · rw [hrun]; exact next v w' hv
    · rw [hrun]
      refine hc.mono ?_
      rintro e w'' ⟨v, rfl, hv⟩
      exact next v w'' hv
  · refine hend a w hI.defers hI.tsize hI.low hI.fixed fun i o d ho hd => hI.val i o d ho hd (all_listed hp hI.size hr i (Array.getElem?_eq_some_iff.1 ho).1)
  · simp [Array.getD_eq_getD_getElem?, Array.getElem?_replicate] at h
    split at h <;> simp at h
end
end Go.Proofs.Ytadhjnbhcenocaa

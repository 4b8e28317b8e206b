/- Several texts in one: RegInv, OddA, OddB. -/
import Derived.Orders
import Derived.Below
import Derived.WalkKit
import Derived.Test.YtadhjnbhcenocaaFrameG9
import Derived.Test.YtadhjnbhcenocaaUfG9
import Derived.WalkSpells
import Derived.WalkLawsBesides
import Derived.Deep.RegionHeld
import Derived.Test.YtadhjnbhcenocaaMath9e
namespace Go.Proofs.Ytadhjnbhcenocaa
open Go Go.RowKit
set_option linter.unusedVariables false
set_option linter.unusedSimpArgs false

section
variable {P : Program} {ops : Array Oper} {Q : Exit → Act → World → Prop} {md : Region.Mode}
theorem count_false_set {l : List Bool} {i : Nat} (hi : l[i]? = some false) : (l.set i true).count false + 1 = l.count false := by
  induction l generalizing i with
  | nil => simp at hi
  | cons b r ih =>
    cases i with
    | zero => simp at hi; subst hi; simp
    | succ i =>
      simp only [List.getElem?_cons_succ] at hi
      have := ih hi
      simp only [List.set_cons_succ, List.count_cons]
      omega
/-- What holds at the start and is kept by each operation that may come up holds at the end. -/
theorem wpAny_inv (Inv : Array Bool → Act → World → Prop) (hsz : ∀ listed a w, Inv listed a w → listed.size = ops.size)
    (hstep : ∀ listed a w i, Inv listed a w → i ∈ Region.ready md ops listed → wpOp P ops Q i (fun a' w' => Inv (listed.setIfInBounds i true) a' w') a w)
    (hend : ∀ listed a w, Inv listed a w → Region.ready md ops listed = [] → Q .normal a w) :
    ∀ (fuel : Nat) (listed : Array Bool) (a : Act) (w : World), Inv listed a w → listed.toList.count false ≤ fuel → wpAny P md ops Q fuel listed a w := by
  have unl : ∀ (listed : Array Bool) (i : Nat), i ∈ Region.ready md ops listed → listed.toList[i]? = some false := fun listed i hi => by
    have h := (mem_ready.1 hi).1
    rw [Array.getElem?_toList]
    rw [Array.getD_eq_getD_getElem?] at h
    cases hx : listed[i]? with
    | none => rw [hx] at h; simp at h
    | some b => rw [hx] at h; simp at h; rw [h]
  intro fuel
  induction fuel with
  | zero =>
    intro listed a w hI hc
    have hr : Region.ready md ops listed = [] := by
      apply List.eq_nil_iff_forall_not_mem.2
      intro i hi
      have := count_false_set (unl listed i hi)
      omega
    exact ⟨hr, hend listed a w hI hr⟩
  | succ fuel ih =>
    intro listed a w hI hc
    refine ⟨fun hr => hend listed a w hI hr, fun i hi => wpOp_mono (fun a' w' h => ih _ a' w' h ?_) (hstep listed a w i hI hi)⟩
    have := count_false_set (unl listed i hi)
    rw [Array.toList_setIfInBounds]
    omega
/-- What an operation leaves: a value, at once or by a call. -/
def Res (P : Program) (o : Oper) (a : Act) (w : World) (K : Value → World → Prop) : Prop :=
  (∃ v w', (execOp a.eval o).run P w = .ok (.value v) w' ∧ K v w') ∨
  (∃ f args w', (execOp a.eval o).run P w = .ok (.enter f args) w' ∧ Calls P f args w' fun e w'' => ∃ v, e = .returned v ∧ K v w'')
/-- What is asked of a region's operations, by looking: none is guarded, each has a place of its own, within the frame; each waits for others ahead of it alone. -/
def plainOps (ops : Array Oper) (n : Nat) : Bool :=
  (List.range ops.size).all fun i => match ops[i]? with
    | none => true
    | some o => o.guard.isNone && (match o.dst with
      | none => false
      | some d => decide (d < n) && (List.range ops.size).all fun j => decide (j = i) || (match ops[j]? with | none => true | some oj => decide (oj.dst ≠ some d))) && o.after.all fun e => decide (e.on < i)
structure PlainOp (ops : Array Oper) (n i : Nat) (o : Oper) : Prop where
  guard : o.guard = none
  dst : ∃ d, o.dst = some d ∧ d < n ∧ ∀ j oj, ops[j]? = some oj → oj.dst = some d → j = i
  after : ∀ e ∈ o.after, e.on < i
theorem plainOps_spec {n : Nat} (h : plainOps ops n = true) {i : Nat} {o : Oper} (ho : ops[i]? = some o) : PlainOp ops n i o := by
  have hi : i < ops.size := (Array.getElem?_eq_some_iff.1 ho).1
  have h1 := List.all_eq_true.1 h i (List.mem_range.2 hi)
  simp only [ho, Bool.and_eq_true] at h1
  obtain ⟨⟨h1, h2⟩, h3⟩ := h1
  refine ⟨by simpa using h1, ?_, fun e he => ?_⟩
  · cases hd : o.dst with
    | none => rw [hd] at h2; simp at h2
    | some d =>
      rw [hd] at h2
      simp only [Bool.and_eq_true, decide_eq_true_eq] at h2
      refine ⟨d, rfl, h2.1, fun j oj hj hjd => ?_⟩
      have hjs : j < ops.size := (Array.getElem?_eq_some_iff.1 hj).1
      have h4 := List.all_eq_true.1 h2.2 j (List.mem_range.2 hjs)
      simp only [hj, Bool.or_eq_true, decide_eq_true_eq] at h4
      exact h4.resolve_right fun h5 => h5 hjd
  · have := Array.all_eq_true'.1 h3 e he
    simpa using this
/-- In the middle of such a region. -/
structure RI (ops : Array Oper) (Ok : Nat → Value → World → Prop) (a0 : Act) (w0 : World) (listed : Array Bool) (a : Act) (w : World) : Prop where
  size : listed.size = ops.size
  defers : a.defers = a0.defers
  tsize : a.tmps.size = a0.tmps.size
  low : Below w0.heap.size w0 w
  fixed : ∀ k, (∀ (i : Nat) (o : Oper), ops[i]? = some o → o.dst ≠ some k) → a.eval (.tmp k) = a0.eval (.tmp k)
  val : ∀ (i : Nat) (o : Oper) (d : Nat), ops[i]? = some o → o.dst = some d → listed.getD i false = true → Ok i (a.eval (.tmp d)) w
theorem eval_put_same {a : Act} {d : Nat} {v : Value} (hd : d < a.tmps.size) : (a.put (some d) v).eval (.tmp d) = v := by
  simp [Act.put, Act.eval, Array.getD_eq_getD_getElem?, hd]
theorem eval_put_other {a : Act} {d k : Nat} {v : Value} (hd : k ≠ d) : (a.put (some d) v).eval (.tmp k) = a.eval (.tmp k) :=
  Act.eval_put fun d' h e => hd (by cases h; cases e; rfl)
theorem all_listed {n : Nat} {listed : Array Bool} (hp : plainOps ops n = true) (hs : listed.size = ops.size) (hr : Region.ready md ops listed = []) : ∀ i, i < ops.size → listed.getD i false = true := by
  intro i
  induction i using Nat.strongRecOn with
  | ind i ih =>
    intro hi
    obtain ⟨o, ho⟩ : ∃ o, ops[i]? = some o := ⟨_, Array.getElem?_eq_getElem hi⟩
    have hpo := plainOps_spec hp ho
    have hlt : i < listed.size := by omega
    cases hb : listed[i] with
    | true => simp [Array.getD_eq_getD_getElem?, hlt, hb]
    | false =>
      exfalso
      have : i ∈ Region.ready md ops listed := mem_ready.2 ⟨by simp [Array.getD_eq_getD_getElem?, hlt, hb], o, ho, fun e he _ => ih e.on (hpo.after e he) (by have := hpo.after e he; omega)⟩
      rw [hr] at this; cases this
theorem wpAny_values (Ok : Nat → Value → World → Prop) {a0 : Act} {w0 : World} (hp : plainOps ops a0.tmps.size = true)
    (hOk : ∀ i v w w', Ok i v w → Below w.heap.size w w' → Ok i v w')
    (hstep : ∀ (i : Nat) (o : Oper), ops[i]? = some o → ∀ (a : Act) (w : World), Below w0.heap.size w0 w → (∀ k, (∀ (i : Nat) (o : Oper), ops[i]? = some o → o.dst ≠ some k) → a.eval (.tmp k) = a0.eval (.tmp k)) →
      (∀ e ∈ o.after, Region.binds md e = true → ∀ (oe : Oper) (d : Nat), ops[e.on]? = some oe → oe.dst = some d → Ok e.on (a.eval (.tmp d)) w) → Res P o a w fun v w' => Ok i v w' ∧ Below w.heap.size w w')
    (hend : ∀ (a : Act) (w : World), a.defers = a0.defers → a.tmps.size = a0.tmps.size → Below w0.heap.size w0 w → (∀ k, (∀ (i : Nat) (o : Oper), ops[i]? = some o → o.dst ≠ some k) → a.eval (.tmp k) = a0.eval (.tmp k)) →
      (∀ (i : Nat) (o : Oper) (d : Nat), ops[i]? = some o → o.dst = some d → Ok i (a.eval (.tmp d)) w) → Q .normal a w) : wpAny P md ops Q ops.size (Array.replicate ops.size false) a0 w0 := by
  refine wpAny_inv (RI ops Ok a0 w0) (fun _ _ _ h => h.size) (fun listed a w i hI hi => ?_) (fun listed a w hI hr => ?_) _ _ a0 w0 ⟨by simp, rfl, rfl, Below.refl _ _, fun _ _ => rfl, fun i o d _ _ h => ?_⟩ (by simp [Array.toList_replicate, List.count_replicate])
  · obtain ⟨hun, o, ho, haf⟩ := mem_ready.1 hi
    have hpo := plainOps_spec hp ho
    obtain ⟨d, hd, hdn, hdu⟩ := hpo.dst
    have hilt : i < listed.size := by have := (Array.getElem?_eq_some_iff.1 ho).1; have := hI.size; omega
    have hw : Region.wanted o (yielded ops a.tmps) = true := by simp [Region.wanted, hpo.guard]
    have next : ∀ v w', Ok i v w' ∧ Below w.heap.size w w' → RI ops Ok a0 w0 (listed.setIfInBounds i true) (a.put o.dst v) w' := fun v w' hv => by
      rw [hd]
      refine ⟨by simp [hI.size], by simpa [Act.put] using hI.defers, by simpa [Act.put] using hI.tsize, hI.low.trans (hv.2.mono hI.low.size), fun k hk => ?_, fun j oj dj hj hdj hl => ?_⟩
      · rw [eval_put_other (fun e => hk i o ho (by rw [hd, e]))]; exact hI.fixed k hk
      · by_cases e : dj = d
        · subst e
          have hji := hdu j oj hj hdj
          subst hji
          rw [eval_put_same (by rw [hI.tsize]; exact hdn)]
          exact hv.1
        · have hne : j ≠ i := fun h => e (by subst h; rw [hj] at ho; cases ho; rw [hd] at hdj; cases hdj; rfl)
          rw [eval_put_other e]
          refine hOk j _ w w' (hI.val j oj dj hj hdj ?_) hv.2
          have hjl : j < listed.size := by have := (Array.getElem?_eq_some_iff.1 hj).1; have := hI.size; omega
          simp only [Array.getD_eq_getD_getElem?, Array.getElem?_setIfInBounds] at hl ⊢
          rw [if_neg (fun h => hne h.symm)] at hl
          exact hl
    have hr := hstep i o ho a w hI.low hI.fixed fun e he hb oe de hoe hde => hI.val e.on oe de hoe hde (haf e he hb)
    unfold wpOp
    rw [ho]
    simp only [hw, if_true]
    refine .inl ?_
    unfold Oper.wp
    rcases hr with ⟨v, w', hrun, hv⟩ | ⟨f, args, w1, hrun, hc⟩
    · rw [hrun]; exact next v w' hv
    · rw [hrun]
      refine hc.mono ?_
      rintro e w'' ⟨v, rfl, hv⟩
      exact next v w'' hv
  · refine hend a w hI.defers hI.tsize hI.low hI.fixed fun i o d ho hd => hI.val i o d ho hd (all_listed hp hI.size hr i (Array.getElem?_eq_some_iff.1 ho).1)
  · simp [Array.getD_eq_getD_getElem?, Array.getElem?_replicate] at h
    split at h <;> simp at h
end
end Go.Proofs.Ytadhjnbhcenocaa

namespace Go.Proofs.Ytadhjnbhcenocaa
open Go.RowKit Go.Em8 Go.Em9
set_option linter.unusedSimpArgs false
set_option linter.unusedVariables false

section
variable {o : Oper} {a : Act} {w : World} {K : Value → World → Prop}
theorem res_load (x : Operand) (ho : o.op = .load 25 x) {b : Nat} {s : ByteArray} {n : Int} {ka : Option Addr} {kl kc : Nat} (hx : a.eval x = .pointer (some ⟨b, 0, none⟩)) (k0 : w.cell? ⟨b, 0, none⟩ = some (.string s)) (k1 : w.cell? ⟨b, 1, none⟩ = some (.int .i64 n)) (k2 : w.cell? ⟨b, 2, none⟩ = some (.slice ka kl kc))
    (hK : K (.agg #[.string s, .int .i64 n, .slice ka kl kc]) w) : Res Try.prog o a w K := by
  refine .inl ⟨_, w, ?_, hK⟩
  unfold execOp
  simp only [ho, hx]
  go_simp
theorem res_row1 (x : Operand) (ho : o.op = .buildSlice 23 1 #[(0, x)]) {s : ByteArray} {n : Int} {ka : Option Addr} {kl kc : Nat} (hx : a.eval x = .agg #[.string s, .int .i64 n, .slice ka kl kc])
    (hK : K (.slice (some ⟨w.heap.size, 0, none⟩) 1 1) (w.alloc (.cells #[.string s, .int .i64 n, .slice ka kl kc] 25))) : Res Try.prog o a w K := by
  refine .inl ⟨_, _, ?_, hK⟩
  unfold execOp
  simp only [ho, List.map_toArray, List.map_cons, List.map_nil, hx]
  go_simp
theorem res_row2 (x y : Operand) (ho : o.op = .buildSlice 23 2 #[(0, x), (1, y)]) {s : ByteArray} {n : Int} {ka : Option Addr} {kl kc : Nat} {s' : ByteArray} {n' : Int} {ka' : Option Addr} {kl' kc' : Nat} (hx : a.eval x = .agg #[.string s, .int .i64 n, .slice ka kl kc]) (hy : a.eval y = .agg #[.string s', .int .i64 n', .slice ka' kl' kc'])
    (hK : K (.slice (some ⟨w.heap.size, 0, none⟩) 2 2) (w.alloc (.cells #[.string s, .int .i64 n, .slice ka kl kc, .string s', .int .i64 n', .slice ka' kl' kc'] 25))) : Res Try.prog o a w K := by
  refine .inl ⟨_, _, ?_, hK⟩
  unfold execOp
  simp only [ho, List.map_toArray, List.map_cons, List.map_nil, hx, hy]
  go_simp
theorem res_pair (x y : Operand) (ho : o.op = .build 37 #[(0, x), (1, y)]) {s : ByteArray} {n : Int} {ka : Option Addr} {kl kc : Nat} {s' : ByteArray} {n' : Int} {ka' : Option Addr} {kl' kc' : Nat} (hx : a.eval x = .agg #[.string s, .int .i64 n, .slice ka kl kc]) (hy : a.eval y = .agg #[.string s', .int .i64 n', .slice ka' kl' kc'])
    (hK : K (.agg #[.string s, .int .i64 n, .slice ka kl kc, .string s', .int .i64 n', .slice ka' kl' kc']) w) : Res Try.prog o a w K := by
  refine .inl ⟨_, _, ?_, hK⟩
  unfold execOp
  simp only [ho, List.map_toArray, List.map_cons, List.map_nil, hx, hy]
  go_simp
set_option maxRecDepth 100000 in
theorem res_T (s : ByteArray) (x : Operand) (ts : Array TypeId) (ho : o.op = .call { callee := .value (.func 25), args := #[.const (.string s), x], argTypes := ts }) {r : Option Addr} {n c : Nat} (hx : a.eval x = .slice r n c)
    (hK : ∀ w', Below w.heap.size w w' → K (.agg #[.string s, .int .i64 0, .slice r n c]) w') : Res Try.prog o a w K := by
  refine .inr ⟨25, #[.string s, .slice r n c], w, ?_, (rtTc_any s r n c w).mono ?_⟩
  · have e1 : a.eval (.const (.string s)) = .string s := rfl
    have e2 : a.eval (.func 25) = .func (.func 25) #[] #[] := rfl
    unfold execOp
    simp only [ho]
    unfold resolve
    simp only [List.map_toArray, List.map_cons, List.map_nil, hx, e1, e2]
    go_simp
  · rintro e w' ⟨rfl, hb⟩
    exact ⟨_, rfl, hK w' hb⟩
theorem res_assign (x : Operand) (ho : o.op = .assign x) (hK : K (a.eval x) w) : Res Try.prog o a w K := by
  refine .inl ⟨_, w, ?_, hK⟩
  unfold execOp
  simp only [ho]
  go_simp
end
end Go.Proofs.Ytadhjnbhcenocaa

namespace Go.Proofs.Ytadhjnbhcenocaa
open Go.RowKit Go.Em8 Go.Em9
set_option linter.unusedSimpArgs false
set_option linter.unusedVariables false

def o9N : Ty := .mk tInt 0 []
def o9B : Ty := .mk tBool 0 []
def o9L : List (Ty × Ty) := [(o9N, o9B), (.mk tList 0 [o9N], .mk tRef 0 [o9N]), (.mk tPair 0 [tv 0, tv 0], .mk tPair 0 [o9N, o9B]), (.mk tFun 0 [tv 0, tv 1], tv 0), (.mk tPair 0 [tv 0, tv 1], .mk tPair 0 [.mk tList 0 [tv 1], .mk tList 0 [tv 0]]), (.mk tCell 0 [], .mk tList 0 [tv 0])]
theorem o9_teach : ∀ p ∈ o9L, Em8.teach p.1 = true ∧ Em8.teach p.2 = true ∧ p.1.size + p.2.size ≤ 20 := by
  have h : (o9L.all fun p => Em8.teach p.1 && Em8.teach p.2 && decide (p.1.size + p.2.size ≤ 20)) = true := by decide +kernel
  intro p hp
  have := List.all_eq_true.1 h p hp
  simp only [Bool.and_eq_true, decide_eq_true_eq] at this
  exact ⟨this.1.1, this.1.2, this.2⟩
theorem o9_no : ∀ p ∈ o9L, ∀ t : Int → Ty, tsub t p.1 ≠ tsub t p.2 := by
  intro p hp t e
  have two : ∀ (op op' : List Int) (l l' : List Ty), op ≠ tVar → op' ≠ tVar → op ≠ op' → tsub t (.mk op 0 l) ≠ tsub t (.mk op' 0 l') := fun op op' l l' h h' hne e => by
    rw [tsub_else t h, tsub_else t h'] at e
    simp only [Ty.mk.injEq] at e
    exact hne e.1
  simp only [o9L, List.mem_cons, List.not_mem_nil, or_false] at hp
  rcases hp with rfl | rfl | rfl | rfl | rfl | rfl
  · exact two _ _ _ _ (by decide) (by decide) (by decide) e
  · exact two _ _ _ _ (by decide) (by decide) (by decide) e
  · simp only at e
    rw [tsub_else t (by decide), tsub_else t (by decide)] at e
    simp only [List.map_cons, List.map_nil, Ty.mk.injEq, List.cons.injEq, and_true, true_and, tsub_tv] at e
    exact two tInt tBool [] [] (by decide) (by decide) (by decide) (e.1.symm.trans e.2)
  · simp only at e
    rw [tsub_tv] at e
    exact occ_no (v := 0) (u := .mk tFun 0 [tv 0, tv 1]) (by decide +kernel) (by decide) ((tocc_eq 0 _ _ _).2 (.inr ⟨tv 0, by simp, (tocc_tv 0 0).2 rfl⟩)) t e.symm
  · simp only at e
    rw [tsub_else t (by decide), tsub_else t (by decide)] at e
    simp only [List.map_cons, List.map_nil, Ty.mk.injEq, List.cons.injEq, and_true, true_and, tsub_tv] at e
    have h1 : (t 0).size = (t 1).size + 1 := by rw [e.1, tsub_else t (by decide)]; simp [Ty.size, tsizes, tsub_tv]
    have h2 : (t 1).size = (t 0).size + 1 := by rw [e.2, tsub_else t (by decide)]; simp [Ty.size, tsizes, tsub_tv]
    omega
  · exact two _ _ _ _ (by decide) (by decide) (by decide) e
theorem ty_form {w : World} {t : Ty} {v : Value} (h : IsTy w t v) : ∃ s n ka kl kc, v = .agg #[.string s, .int .i64 n, .slice ka kl kc] := isTyP_form (isTy_isP _ _ h)
theorem ty_leaf (w : World) {op : List Int} (s : ByteArray) (hs : s = Em.str op) {n : Int} (ho : Em5.Txt op) (hn : Em5.I64 n) : IsTy w (.mk op n []) (.agg #[.string s, .int .i64 n, .slice none 0 0]) := by
  subst hs; exact isTyP_is _ _ (isTyP_leaf (fun _ => True) w ho hn)
section
variable {o : Oper} {a : Act} {w : World}
theorem s_load (x : Operand) (ho : o.op = .load 25 x) {b : Nat} {s : ByteArray} {n : Int} {ka : Option Addr} {kl kc : Nat} (hx : a.eval x = .pointer (some ⟨b, 0, none⟩)) (hk : w.cell? ⟨b, 0, none⟩ = some (.string s) ∧ w.cell? ⟨b, 1, none⟩ = some (.int .i64 n) ∧ w.cell? ⟨b, 2, none⟩ = some (.slice ka kl kc)) {t : Ty}
    (ht : IsTy w t (.agg #[.string s, .int .i64 n, .slice ka kl kc])) : Res Try.prog o a w fun v w' => IsTy w' t v ∧ Below w.heap.size w w' := res_load x ho hx hk.1 hk.2.1 hk.2.2 ⟨ht, Below.refl _ _⟩
theorem s_row1 (x : Operand) (ho : o.op = .buildSlice 23 1 #[(0, x)]) {t : Ty} (hx : IsTy w t (a.eval x)) : Res Try.prog o a w fun v w' => IsTys w' v [t] ∧ Below w.heap.size w w' := by
  obtain ⟨s, n, ka, kl, kc, e⟩ := ty_form hx
  rw [e] at hx
  refine res_row1 x ho e ⟨⟨_, 1, rfl, by simp, by simp, fun _ => ⟨w.heap.size, 0, rfl, by simp, ?_⟩⟩, (Below.refl _ _).alloc (Nat.le_refl _) _⟩
  unfold TysAt TysAt
  exact ⟨⟨_, _, _, by simp, by simp, by simp, isTy_below ((Below.refl _ _).alloc (Nat.le_refl _) _) _ _ hx⟩, trivial⟩
theorem s_row2 (x y : Operand) (ho : o.op = .buildSlice 23 2 #[(0, x), (1, y)]) {t u : Ty} (hx : IsTy w t (a.eval x)) (hy : IsTy w u (a.eval y)) : Res Try.prog o a w fun v w' => IsTys w' v [t, u] ∧ Below w.heap.size w w' := by
  obtain ⟨s, n, ka, kl, kc, e⟩ := ty_form hx
  obtain ⟨s', n', ka', kl', kc', e'⟩ := ty_form hy
  rw [e] at hx
  rw [e'] at hy
  refine res_row2 x y ho e e' ⟨⟨_, 2, rfl, by simp, by simp, fun _ => ⟨w.heap.size, 0, rfl, by simp, ?_⟩⟩, (Below.refl _ _).alloc (Nat.le_refl _) _⟩
  unfold TysAt TysAt TysAt
  exact ⟨⟨_, _, _, by simp, by simp, by simp, isTy_below ((Below.refl _ _).alloc (Nat.le_refl _) _) _ _ hx⟩, ⟨_, _, _, by simp, by simp, by simp, isTy_below ((Below.refl _ _).alloc (Nat.le_refl _) _) _ _ hy⟩, trivial⟩
theorem s_T (op : List Int) (s : ByteArray) (hs : s = Em.str op) (hop : Em5.Txt op) (x : Operand) (ts : Array TypeId) (ho : o.op = .call { callee := .value (.func 25), args := #[.const (.string s), x], argTypes := ts }) {l : List Ty} (hx : IsTys w (a.eval x) l) : Res Try.prog o a w fun v w' => IsTy w' (.mk op 0 l) v ∧ Below w.heap.size w w' := by
  subst hs
  have hx' := hx
  obtain ⟨r, c, e, -⟩ := hx'
  refine res_T (Em.str op) x ts ho e fun w' hb => ⟨?_, hb⟩
  rw [e] at hx
  exact isTy_below hb _ _ (IsTys.mk hx hop (by unfold Em5.I64; decide))
/-- A pair of types. -/
def IsPr (w : World) (p : Ty × Ty) (v : Value) : Prop := ∃ s n ka kl kc s' n' ka' kl' kc', v = .agg #[.string s, .int .i64 n, .slice ka kl kc, .string s', .int .i64 n', .slice ka' kl' kc'] ∧ IsTy w p.1 (.agg #[.string s, .int .i64 n, .slice ka kl kc]) ∧ IsTy w p.2 (.agg #[.string s', .int .i64 n', .slice ka' kl' kc'])
theorem IsPr.below {w' : World} {p : Ty × Ty} {v : Value} (h : IsPr w p v) (hb : Below w.heap.size w w') : IsPr w' p v := by
  obtain ⟨s, n, ka, kl, kc, s', n', ka', kl', kc', e, h1, h2⟩ := h
  exact ⟨s, n, ka, kl, kc, s', n', ka', kl', kc', e, isTy_below hb _ _ h1, isTy_below hb _ _ h2⟩
theorem s_pair (x y : Operand) (ho : o.op = .build 37 #[(0, x), (1, y)]) {p : Ty × Ty} (hx : IsTy w p.1 (a.eval x)) (hy : IsTy w p.2 (a.eval y)) : Res Try.prog o a w fun v w' => IsPr w' p v ∧ Below w.heap.size w w' := by
  obtain ⟨s, n, ka, kl, kc, e⟩ := ty_form hx
  obtain ⟨s', n', ka', kl', kc', e'⟩ := ty_form hy
  rw [e] at hx
  rw [e'] at hy
  exact res_pair x y ho e e' ⟨⟨_, _, _, _, _, _, _, _, _, _, rfl, hx, hy⟩, Below.refl _ _⟩
set_option maxHeartbeats 1000000 in
theorem s_six (x0 x1 x2 x3 x4 x5 : Operand) (ho : o.op = .buildSlice 22 6 #[(0, x0), (1, x1), (2, x2), (3, x3), (4, x4), (5, x5)]) {p0 p1 p2 p3 p4 p5 : Ty × Ty} (h0 : IsPr w p0 (a.eval x0)) (h1 : IsPr w p1 (a.eval x1)) (h2 : IsPr w p2 (a.eval x2)) (h3 : IsPr w p3 (a.eval x3)) (h4 : IsPr w p4 (a.eval x4)) (h5 : IsPr w p5 (a.eval x5)) :
    Res Try.prog o a w fun v w' => IsPairs w' v [p0, p1, p2, p3, p4, p5] ∧ Below w.heap.size w w' := by
  obtain ⟨s0, n0, a0, k0, c0, t0, m0, b0, l0, d0, e0, g0, f0⟩ := h0
  obtain ⟨s1, n1, a1, k1, c1, t1, m1, b1, l1, d1, e1, g1, f1⟩ := h1
  obtain ⟨s2, n2, a2, k2, c2, t2, m2, b2, l2, d2, e2, g2, f2⟩ := h2
  obtain ⟨s3, n3, a3, k3, c3, t3, m3, b3, l3, d3, e3, g3, f3⟩ := h3
  obtain ⟨s4, n4, a4, k4, c4, t4, m4, b4, l4, d4, e4, g4, f4⟩ := h4
  obtain ⟨s5, n5, a5, k5, c5, t5, m5, b5, l5, d5, e5, g5, f5⟩ := h5
  obtain ⟨X, hX⟩ : ∃ X, X = w.alloc (.cells #[.string s0, .int .i64 n0, .slice a0 k0 c0, .string t0, .int .i64 m0, .slice b0 l0 d0, .string s1, .int .i64 n1, .slice a1 k1 c1, .string t1, .int .i64 m1, .slice b1 l1 d1, .string s2, .int .i64 n2, .slice a2 k2 c2, .string t2, .int .i64 m2, .slice b2 l2 d2,
    .string s3, .int .i64 n3, .slice a3 k3 c3, .string t3, .int .i64 m3, .slice b3 l3 d3, .string s4, .int .i64 n4, .slice a4 k4 c4, .string t4, .int .i64 m4, .slice b4 l4 d4, .string s5, .int .i64 n5, .slice a5 k5 c5, .string t5, .int .i64 m5, .slice b5 l5 d5] 37) := ⟨_, rfl⟩
  have hb : Below w.heap.size w X := by rw [hX]; exact (Below.refl _ _).alloc (Nat.le_refl _) _
  refine .inl ⟨.slice (some ⟨w.heap.size, 0, none⟩) 6 6, X, ?_, ?_, hb⟩
  · unfold execOp
    simp only [ho, List.map_toArray, List.map_cons, List.map_nil, e0, e1, e2, e3, e4, e5]
    rw [hX]
    go_simp
  · refine ⟨_, 6, rfl, by simp, by simp, fun _ => ⟨w.heap.size, 0, rfl, by rw [hX]; simp, fun j p hj => ?_⟩⟩
    have hl : j < 6 := (List.getElem?_eq_some_iff.1 hj).1
    match j, hl, hj with
    | 0, _, hj => cases hj; exact ⟨_, _, _, _, _, _, by rw [hX]; simp, by rw [hX]; simp, by rw [hX]; simp, by rw [hX]; simp, by rw [hX]; simp, by rw [hX]; simp, isTy_below hb _ _ g0, isTy_below hb _ _ f0⟩
    | 1, _, hj => cases hj; exact ⟨_, _, _, _, _, _, by rw [hX]; simp, by rw [hX]; simp, by rw [hX]; simp, by rw [hX]; simp, by rw [hX]; simp, by rw [hX]; simp, isTy_below hb _ _ g1, isTy_below hb _ _ f1⟩
    | 2, _, hj => cases hj; exact ⟨_, _, _, _, _, _, by rw [hX]; simp, by rw [hX]; simp, by rw [hX]; simp, by rw [hX]; simp, by rw [hX]; simp, by rw [hX]; simp, isTy_below hb _ _ g2, isTy_below hb _ _ f2⟩
    | 3, _, hj => cases hj; exact ⟨_, _, _, _, _, _, by rw [hX]; simp, by rw [hX]; simp, by rw [hX]; simp, by rw [hX]; simp, by rw [hX]; simp, by rw [hX]; simp, isTy_below hb _ _ g3, isTy_below hb _ _ f3⟩
    | 4, _, hj => cases hj; exact ⟨_, _, _, _, _, _, by rw [hX]; simp, by rw [hX]; simp, by rw [hX]; simp, by rw [hX]; simp, by rw [hX]; simp, by rw [hX]; simp, isTy_below hb _ _ g4, isTy_below hb _ _ f4⟩
    | 5, _, hj => cases hj; exact ⟨_, _, _, _, _, _, by rw [hX]; simp, by rw [hX]; simp, by rw [hX]; simp, by rw [hX]; simp, by rw [hX]; simp, by rw [hX]; simp, isTy_below hb _ _ g5, isTy_below hb _ _ f5⟩
end
/-- What a place of the region holds. -/
inductive K9
  | ty (t : Ty)
  | row (l : List Ty)
  | pr (p : Ty × Ty)
  | prs (l : List (Ty × Ty))
def Ok9 : Option K9 → Value → World → Prop
  | some (.ty t), v, w => IsTy w t v
  | some (.row l), v, w => IsTys w v l
  | some (.pr p), v, w => IsPr w p v
  | some (.prs l), v, w => IsPairs w v l
  | none, _, _ => True
theorem IsTys.below9 {w w' : World} {v : Value} {l : List Ty} (h : IsTys w v l) (hb : Below w.heap.size w w') : IsTys w' v l := by
  obtain ⟨a, cap, e, h1, h2, h3⟩ := h
  refine ⟨a, cap, e, h1, h2, fun hp => ?_⟩
  obtain ⟨b, off, e1, hl, hk⟩ := h3 hp
  refine ⟨b, off, e1, Nat.lt_of_lt_of_le hl hb.size, tysAt_mk l off fun j t hj => ?_⟩
  obtain ⟨c0, c1, c2, k0, k1, k2, kn⟩ := tysAt_get l off j t hk hj
  have key : ∀ o, w'.cell? ⟨b, o, none⟩ = w.cell? ⟨b, o, none⟩ := fun o => hb.cell (p := ⟨b, o, none⟩) hl
  exact ⟨c0, c1, c2, by rw [key]; exact k0, by rw [key]; exact k1, by rw [key]; exact k2, isTy_below hb t _ kn⟩
theorem Ok9.below {k : Option K9} {v : Value} {w w' : World} (h : Ok9 k v w) (hb : Below w.heap.size w w') : Ok9 k v w' := by
  match k, h with
  | none, _ => trivial
  | some (.ty t), h => exact isTy_below hb _ _ h
  | some (.row l), h => exact IsTys.below9 h hb
  | some (.pr p), h => exact IsPr.below h hb
  | some (.prs l), h => exact IsPairs.below h hb
theorem op_of {ops : Array Oper} {i : Nat} {o : Oper} {x : Op} (ho : ops[i]? = some o) (h : ops[i]?.map (·.op) = some x) : o.op = x := by
  rw [ho] at h; simpa using h
theorem dep_of {ops : Array Oper} {md : Region.Mode} {Ok : Nat → Value → World → Prop} {i j d : Nat} {o : Oper} {a : Act} {w : World} (ho : ops[i]? = some o)
    (hdep : ∀ e ∈ o.after, Region.binds md e = true → ∀ (oe : Oper) (d : Nat), ops[e.on]? = some oe → oe.dst = some d → Ok e.on (a.eval (.tmp d)) w)
    (h1 : (match ops[i]? with | some o => o.after.any fun e => decide (e.on = j) && Region.binds md e | none => false) = true) (h2 : ops[j]?.bind (·.dst) = some d) : Ok j (a.eval (.tmp d)) w := by
  rw [ho] at h1
  obtain ⟨e, he, h⟩ := Array.any_eq_true'.1 h1
  simp only [Bool.and_eq_true, decide_eq_true_eq] at h
  obtain ⟨rfl, hb⟩ := h
  cases hj : ops[e.on]? with
  | none => rw [hj] at h2; simp at h2
  | some oe => rw [hj] at h2; exact hdep e he hb oe d hj (by simpa using h2)
theorem fix_of {ops : Array Oper} {k : Nat} (h : (ops.all fun o => decide (o.dst ≠ some k)) = true) : ∀ (i : Nat) (o : Oper), ops[i]? = some o → o.dst ≠ some k := fun i o ho => by
  have := Array.all_eq_true'.1 h o (Array.mem_of_getElem? ho)
  simpa using this
theorem arr_lit (t : Array Value) : t = ((List.range t.size).map fun k => t.getD k undef).toArray := by
  apply Array.ext
  · simp
  · intro i h1 h2
    simp [Array.getD_eq_getD_getElem?, h1]
end Go.Proofs.Ytadhjnbhcenocaa

/- Several texts in one: UfU, UfUa, UfUb, RndR, UfUc, UfZ, UfN, UfW. -/
import Derived.Test.YtadhjnbhcenocaaUfY
import Derived.RangeFuncNested
import Derived.RangeFuncBound
import Derived.RangeFuncCalls
import Derived.RangeFuncLeaves
import Derived.Shelf.Abstract
import Derived.Shelf.RegionOpen
import Derived.WalkKit
import Derived.OwnWalkIn
import Derived.TacticsInMore
import Derived.LoopNIn
import Derived.LoopIn
import Derived.Maps.OwnIn
import Derived.OrdersIn
import Derived.NoCompiler
import Derived.Test.YtadhjnbhcenocaaUfO
import Derived.Test.YtadhjnbhcenocaaRTypN
namespace Go.Proofs.Ytadhjnbhcenocaa
open Go.RowKit Go.Shelf Go.Em8 Go.Em9
set_option linter.unusedSimpArgs false
set_option linter.unusedVariables false
attribute [local go_sem] Oper.semAt_some

/-- A loop over a function whose rounds come in one order, as many as m, and whose body never leaves: what holds when k rounds have passed is I k. -/
theorem range_rounds {F : Fence} {n : Nat} {P : Program} {g : Operand} {ps : Array Tmp} {assign body : Code} {Q : Exit → Act → World → Prop} {a : Act} {w : World} (hro : F.round = none) (h1 : 1 ≤ n) {gf : Nat} {lb : Array Value} (hg : a.eval g = .func (.func gf) #[] lb) (hFg : F.fn gf)
    (eg : ∀ args w, (callFunc gf args).run P w = .ok (.enter gf args) w) (args : Nat → Array Value) (m : Nat) (hps : ∀ k, (args k).size = ps.size) (I : Nat → World → Prop) (hI : ∀ k W W', I k W → Below w.heap.size W W' → I k W') (h0 : I 0 w)
    (hiter : ∀ (l : Nat) (J : Nat → World → Prop) (W : World), (∀ k W, J k W → I k W) → (∀ k W1, J k W1 → k < m → YieldAt F (n - 1 - 1) P l (args k) W1 fun e W' => e = .returned (.bool true) ∧ J (k + 1) W') → J 0 W → CallsIn F (n - 1) P gf (#[.func (.yield l) #[] #[]] ++ lb) W fun e W' => (∃ v, e = .returned v) ∧ J m W')
    (b : Nat → Act) (hassign : ∀ (l k : Nat) (W : World) (K : Act → World → Prop), k < m → K (b k) W → assign.wpIn (F.inRound l) (n - 1 - 1) P (Exit.then K (fun _ _ _ => False)) { tmps := (ps.zip (args k)).foldl (fun t (p, v) => t.setIfInBounds p v) a.tmps, defers := [] } W)
    (hbody : ∀ (l k : Nat) (W : World), I k W → k < m → body.wpIn (F.inRound l) (n - 1 - 1) P (fun e _ W' => e = .normal ∧ I (k + 1) W' ∧ W.heap.size ≤ W'.heap.size ∧ ∀ q, w.heap.size ≤ q → q < W.heap.size → W'.heap[q]? = W.heap[q]?) (b k) W)
    (hdone : ∀ (d : Nat) (W : World), w.heap.size ≤ d → I m W → W.heap[d]? = some (.deferred (some [])) → Q .normal { a with defers := { target := .collected d, args := #[] } :: a.defers } W) : (Code.rangeFunc g ps assign body).wpIn F n P Q a w := by
  refine wpIn_rangeFunc fun fn hfn => ?_
  rw [hro]
  let r (st : LoopState) (pe : Option Code) : Loop := { state := st, pending := pe, fn, tmps := a.tmps, params := ps, assign, body, defers := w.heap.size }
  let V : World := (w.alloc (.deferred (some []))).alloc (.loop (r .ready none))
  have zV : V.heap.size = w.heap.size + 2 := by simp [V]
  have bV : Below w.heap.size w V := ((Below.refl _ w).alloc (Nat.le_refl _) _).alloc (by simp) _
  have cl : V.heap[w.heap.size + 1]? = some (.loop (r .ready none)) := by
    have h := World.alloc_heap_new (w.alloc (.deferred (some []))) (.loop (r .ready none))
    rwa [World.size_alloc] at h
  have cd : V.heap[w.heap.size]? = some (.deferred (some [])) := (Below.heap_alloc _ _ _ (by simp)).trans (World.alloc_heap_new w _)
  have put : ∀ (W : World) (q : Nat) (o o' : Obj), w.heap.size ≤ q → W.heap[q]? = some o → o.isCells = false → o.isWalk = false → Below w.heap.size W (W.putObj q o') := fun W q o o' hq ho h2 h3 => belowK_b (w := w) (Nat.le_refl _) W q o o' hq ho h2 h3
  refine ⟨w.heap.size + 1, [{ target := .collected w.heap.size, args := #[] }], V, { target := .fn (.func gf) lb, args := #[.func (.yield (w.heap.size + 1)) #[] #[]] }, V, gf, #[.func (.yield (w.heap.size + 1)) #[] #[]] ++ lb, V, run_enterLoop_outer _ _ _ _ _, ?_, ?_, ?_, fun _ => h1, ?_⟩
  · simp only [resolve, hg]
    simp [go_sem]
  · intro f' hf'
    simp [Target.leads] at hf'
    subst hf'; exact hFg
  · simp [invoke, go_sem, eg]
  · refine (hiter (w.heap.size + 1) (fun k W => I k W ∧ W.heap[w.heap.size + 1]? = some (.loop (r .ready none)) ∧ W.heap[w.heap.size]? = some (.deferred (some []))) V (fun k W h => h.1) ?_ ⟨hI 0 w V h0 bV, cl, cd⟩).mono ?_
    · rintro k W ⟨hi, hl, hd⟩ hk
      have hlt : w.heap.size + 1 < W.heap.size := heap_lt9 hl
      refine ⟨fn, _, assign, body, run_yield hl (hps k), roundIn_of_wpIn hfn (hassign _ k W _ hk ⟨_, run_beginRound hl rfl, ?_⟩)⟩
      have bW := put W _ _ (.loop { r .ready none with state := .busy }) (by omega) hl rfl rfl
      have e1 : (W.putObj (w.heap.size + 1) (.loop { r .ready none with state := .busy })).heap[w.heap.size + 1]? = some (.loop { r .ready none with state := .busy }) := World.putObj_heap_same hlt
      have e2 : (W.putObj (w.heap.size + 1) (.loop { r .ready none with state := .busy })).heap[w.heap.size]? = some (.deferred (some [])) := (World.putObj_heap_other (by omega)).trans hd
      refine wpIn_mono (hbody _ k _ (hI k _ _ hi bW) hk) ?_
      rintro e a3 W3 ⟨rfl, hi3, hs3, hf3⟩
      have e3 : W3.heap[w.heap.size + 1]? = some (.loop { r .ready none with state := .busy }) := (hf3 _ (by omega) (heap_lt9 e1)).trans e1
      have e4 : W3.heap[w.heap.size]? = some (.deferred (some [])) := (hf3 _ (Nat.le_refl _) (heap_lt9 e2)).trans e2
      exact ⟨_, _, run_endRound none e3, rfl, hI _ _ _ hi3 (put W3 _ _ _ (by omega) e3 rfl rfl), World.putObj_heap_same (heap_lt9 e3), (World.putObj_heap_other (by omega)).trans e4⟩
    · rintro e W2 ⟨⟨v, rfl⟩, hi, hl, hd⟩
      exact ⟨none, _, run_endLoop hl (by simp [r]), hdone _ _ (Nat.le_refl _) (hI _ _ _ hi (put W2 _ _ _ (by omega) hl rfl rfl)) ((World.putObj_heap_other (by omega)).trans hd)⟩

end Go.Proofs.Ytadhjnbhcenocaa

namespace Go.Proofs.Ytadhjnbhcenocaa
open Go.RowKit Go.Shelf Go.Em8 Go.Em9
set_option linter.unusedSimpArgs false
set_option linter.unusedVariables false
attribute [local go_sem] Oper.semAt_some

set_option maxRecDepth 100000 in
set_option maxHeartbeats 2000000 in
theorem uback_in (F : Fence) (n : Nat) (hF : F.fn 44) (hro : F.round = none) (hn : 1 ≤ n) (l bx g c : Nat) (a : Option Addr) (L : List Nat) (ha : 0 < L.length → a = some ⟨g, 0, none⟩) (hlen : L.length ≤ 1000000) (J : Nat → World → Prop)
    (hJ : ∀ k W, J k W → W.cell? ⟨bx, 0, none⟩ = some (.slice a L.length c) ∧ ∀ j t, L[j]? = some t → W.cell? ⟨g, j, none⟩ = some (.pointer (some ⟨t, 0, none⟩)))
    (hY : ∀ (j : Nat) (t : Nat) (W : World), L[j]? = some t → J (L.length - 1 - j) W → YieldAt F (n - 1) Try.prog l #[.int .i64 (j : Int), .pointer (some ⟨t, 0, none⟩)] W fun e W' => e = .returned (.bool true) ∧ J (L.length - 1 - j + 1) W')
    (W : World) (h0 : J 0 W) : CallsIn F n Try.prog 44 #[.func (.yield l) #[] #[], .pointer (some ⟨bx, 0, none⟩)] W fun e W' => (∃ v, e = .returned v) ∧ J L.length W' := by
  refine callsIn_of_wp Try.func44 rfl hF ?_ hro
  simp only [Try.ntmps44, List.size_toArray, List.length_cons, List.length_nil, Nat.reduceAdd, Nat.reduceSub, Array.replicate_succ, Array.replicate_zero, List.push_toArray, List.append_toArray, List.nil_append, List.cons_append]
  have c0 := (hJ 0 W h0).1
  gi_wp2
  gi_loopw [3] (fun i wr => ∃ k : Nat, k ≤ L.length ∧ i = .int .i64 ((k : Int) - 1) ∧ J (L.length - k) wr) (fun i _ => (intOf i + 1).toNat)
  case atStart => exact ⟨L.length, Nat.le_refl _, by first | rfl | simp, by rw [Nat.sub_self]; exact h0⟩
  case round =>
    obtain ⟨k, hk, rfl, hJs⟩ := hrel
    cases k with
    | zero =>
      clear c0
      have e0 : ((0 : Nat) : Int) - 1 = -1 := by omega
      rw [e0]
      gi_wp2
      go_end0
      exact ⟨⟨_, rfl⟩, by simpa using hJs⟩
    | succ j =>
      clear c0
      obtain ⟨t, ht⟩ : ∃ t, L[j]? = some t := ⟨_, List.getElem?_eq_getElem (by omega)⟩
      have e0 : ((j + 1 : Nat) : Int) - 1 = (j : Int) := by omega
      rw [e0]
      have e1 : L.length - (j + 1) = L.length - 1 - j := by omega
      rw [e1] at hJs
      obtain ⟨c1, c2⟩ := hJ _ wr hJs
      have c3 := c2 j t ht
      have hal := ha (by omega)
      subst hal
      have j0 : (0 : Int) ≤ (j : Int) := by omega
      have j1 : (j : Int) < (L.length : Int) := by omega
      obtain ⟨fn, tmps, assign, body, hy, hR⟩ := hY j t wr ht hJs
      clear c2 e0 e1
      gi_wp2
      refine hR.mono ?_
      rintro e W3 ⟨rfl, hJ3⟩
      have e2 : L.length - 1 - j + 1 = L.length - j := by omega
      rw [e2] at hJ3
      gi_wp2
      go_roundw
      case rel => exact ⟨j, by omega, by first | rfl | simp, hJ3⟩
      case measure => simp [intOf]
end Go.Proofs.Ytadhjnbhcenocaa

namespace Go.Proofs.Ytadhjnbhcenocaa
open Go.RowKit Go.Shelf Go.Em8 Go.Em9
set_option linter.unusedSimpArgs false
set_option linter.unusedVariables false
attribute [local go_sem] Oper.semAt_some

set_option maxRecDepth 100000 in
set_option maxHeartbeats 1000000 in
theorem ubackward_in (F : Fence) (n : Nat) (hF : F.fn 41) (hro : F.round = none) (a : Option Addr) (k c : Nat) (w : World) :
    CallsIn F n Try.prog 41 #[.slice a k c] w fun e w' => e = .returned (.func (.func 44) #[] #[.pointer (some ⟨w.heap.size, 0, none⟩)]) ∧ w' = w.alloc (.cells #[.slice a k c] 54) := by
  refine callsIn_of_wp Try.func41 rfl hF ?_ hro
  simp only [Try.ntmps41, List.size_toArray, List.length_cons, List.length_nil, Nat.reduceAdd, Nat.reduceSub, Array.replicate_succ, Array.replicate_zero, List.push_toArray, List.append_toArray, List.nil_append, List.cons_append]
  gi_wp2
  go_ret
  exact ⟨rfl, rfl⟩

/-- While terms are parted again: k of J are left. -/
structure UnI (w W : World) (K : Nat → Prop) (F : Fo) (cm sn : Nat → Int) (is0 : Nat → Option Nat) (J : List Nat) (k : Nat) (is : Nat → Option Nat) : Prop where
  tms : Tms W K F is cm sn
  kept : Kept (fun q => q ∈ F.L) w W
  left : ∀ j ∈ J.take k, is j = is0 j

theorem UnI.below {X W W' : World} {K : Nat → Prop} {F : Fo} {cm sn : Nat → Int} {is0 is : Nat → Option Nat} {J : List Nat} {k : Nat} (h : UnI X W K F cm sn is0 J k is) (hL : ∀ b ∈ F.L, b < X.heap.size) (hK : ∀ b, K b → b < X.heap.size) (hb : Below X.heap.size W W') : UnI X W' K F cm sn is0 J k is := by
  have kk : Kept (fun q => X.heap.size ≤ q) W W' := ⟨hb.os, hb.tape, hb.output, hb.size, fun q hq hn => hb.block q (by omega)⟩
  exact ⟨h.tms.turn kk (fun b hm e => by have := hL b hm; omega) (fun b hm e => by have := hK b hm; omega), h.kept.trans kk (fun b hb2 e => by omega), h.left⟩
end Go.Proofs.Ytadhjnbhcenocaa

namespace Go.Proofs.Ytadhjnbhcenocaa
open Go

/-- Nothing in a region defers. -/
def NoDefer (ops : Array Oper) : Prop := ∀ (i : Nat) (o : Oper), ops[i]? = some o → ∀ c, o.op ≠ .defer c

def noDeferB (ops : Array Oper) : Bool := ops.toList.all fun o => match o.op with | .defer _ => false | _ => true

theorem noDefer_of {ops : Array Oper} (h : noDeferB ops = true) : NoDefer ops := by
  intro i o ho c hc
  have hm : o ∈ ops.toList := by
    rw [Array.mem_toList_iff]
    exact Array.mem_of_getElem? ho
  have := List.all_eq_true.1 h o hm
  simp [hc] at this

theorem wpOpIn_plain {F : Fence} {n : Nat} {P : Program} {ops : Array Oper} {Q : Exit → Act → World → Prop} (hd : NoDefer ops) {i : Nat} {K : Act → World → Prop} {a : Act} {w : World} (h : wpOpIn F.plain n P ops Q i K a w) : wpOpIn F n P ops Q i K a w := by
  unfold wpOpIn at *
  cases ho : ops[i]? with
  | none => simpa only [ho] using h
  | some o =>
    simp only [ho] at h ⊢
    split
    · rename_i hw
      simp only [hw, if_true] at h
      unfold Oper.wpIn at *
      rw [Oper.semAt_plain F _ _ (hd i o ho)]
      rw [Oper.semAt_plain F.plain _ _ (hd i o ho)] at h
      exact h
    · rename_i hw
      simp only [hw] at h
      exact h

theorem wpAnyIn_plain {F : Fence} {n : Nat} {P : Program} {ops : Array Oper} {Q : Exit → Act → World → Prop} {md : Region.Mode} (hd : NoDefer ops) : ∀ (fuel : Nat) (listed : Array Bool) (a : Act) (w : World), wpAnyIn F.plain n P md ops Q fuel listed a w → wpAnyIn F n P md ops Q fuel listed a w
  | 0, _, _, _, h => h
  | fuel + 1, _, _, _, h => ⟨h.1, fun i hi => wpOpIn_plain hd (wpOpIn_mono (fun a w h => wpAnyIn_plain hd fuel _ a w h) (h.2 i hi))⟩

/-- The beginning. -/
theorem wpIn_region_round {F : Fence} {n : Nat} {P : Program} {ops : Array Oper} {Q : Exit → Act → World → Prop} {id : Nat} {a : Act} {w : World} (hm : P.follows .mixedOrders = true) (hd : noDeferB ops = true) (h : wpAnyIn F.plain n P .any ops Q ops.size (Array.replicate ops.size false) a (World.drew w)) : (Code.region id ops true).wpIn F n P Q a w :=
  wpIn_region_any hm (wpAnyIn_plain (noDefer_of hd) _ _ _ _ h)

end Go.Proofs.Ytadhjnbhcenocaa

-- UNDER WAY, does not build clean: behind UfUb (imports it); two places are open ('sorry'): the drawn region of the round, and what follows the loop.
namespace Go.Proofs.Ytadhjnbhcenocaa
open Go.RowKit Go.Shelf Go.Em8 Go.Em9
set_option linter.unusedSimpArgs false
set_option linter.unusedVariables false
attribute [local go_sem] Oper.semAt_some

/-- A round of undoing. -/
theorem UnI.step {X W : World} {K : Nat → Prop} {F : Fo} {cm sn : Nat → Int} {is0 is : Nat → Option Nat} {J : List Nat} {k t c : Nat} (h : UnI X W K F cm sn is0 J (J.length - k) is) (hL : ∀ b ∈ F.L, b < X.heap.size) (hnd : J.Nodup) (ht : J[J.length - 1 - k]? = some t) (hk : k < J.length) (htL : t ∈ F.L) (hcL : c ∈ F.L) (v : Int) :
    (∃ is', UnI X ((W.setCell ⟨c, 4, none⟩ (.int .i64 v)).setCell ⟨t, 3, none⟩ (.pointer none)).drew K F cm sn is0 J (J.length - (k + 1)) is') ∧ ∀ q, X.heap.size ≤ q → q < W.heap.size → ((W.setCell ⟨c, 4, none⟩ (.int .i64 v)).setCell ⟨t, 3, none⟩ (.pointer none)).drew.heap[q]? = W.heap[q]? := by
  refine ⟨⟨upd is t none, ?_, ?_, fun j hj => ?_⟩, fun q hq _ => ?_⟩
  · exact ((h.tms.setSz hcL v).setIs htL none).below (Below.refl _ _).drew
  · exact ((h.kept.set c 4 _ fun _ => hcL).set t 3 _ fun _ => htL).drew
  · have hlt : J.length - (k + 1) ≤ J.length - k := by omega
    have hj2 : j ∈ J.take (J.length - k) := (List.take_subset_take_left J hlt) hj
    have hne : j ≠ t := by
      rintro rfl
      obtain ⟨i, hi, he⟩ := List.mem_iff_getElem.1 hj
      rw [List.getElem_take] at he
      have hi2 : i < J.length - (k + 1) := by simp at hi; omega
      obtain ⟨hl, he2⟩ := List.getElem?_eq_some_iff.1 ht
      exact (List.pairwise_iff_getElem.1 hnd) i (J.length - 1 - k) (by omega) hl (by omega) (he.trans he2.symm)
    rw [upd_else _ _ hne]
    exact h.left j hj2
  · show ((W.setCell ⟨c, 4, none⟩ (.int .i64 v)).setCell ⟨t, 3, none⟩ (.pointer none)).heap[q]? = W.heap[q]?
    have h1 := hL t htL
    have h2 := hL c hcL
    rw [Below.heap_setCell _ _ _ _ (by simp; omega), Below.heap_setCell _ _ _ _ (by simp; omega)]
/-- 'delete(s.terms, x)'. -/
theorem del9 {wr : World} {mv : Option Nat} (hm : ∀ mb, mv = some mb → ∃ n D, wr.ownsMap Try.prog 3 ptrElem mb n D) {x : Int} (hx : Em5.I64 x) (ty : TypeId) :
    ∃ w', Sem.run Try.prog (Builtin.delete_ #[51, 3] ty #[.map mv, .int .i64 x]) wr = .ok (.tuple #[]) w' ∧ (∀ mb, mv = some mb → ∃ n D, w'.ownsMap Try.prog 3 ptrElem mb n D) ∧ Kept (fun k => some k = mv) wr w' := by
  cases hv : mv with
  | none => exact ⟨wr, Maps.drop_nil (Maps.int_keyed Try.underlying3) Try.underlying51 (key_int9 hx) ty, (fun mb e => by cases e), Kept.refl _ _⟩
  | some mb =>
    obtain ⟨n, D, h⟩ := hm mb hv
    obtain ⟨w', h1, h2, h3⟩ := h.drop (Maps.int_keyed Try.underlying3) Try.underlying51 (key_int9 hx) ty
    exact ⟨w', h1, (fun mb' e => by cases e; exact ⟨n, _, h2⟩), (Kept.refl _ _).grown h3.grown fun b _ e => e.symm⟩

set_option maxRecDepth 100000 in
set_option maxHeartbeats 4000000 in
theorem uundo_any : UndoOk := by
  intro w K F is cm sn B sb ab fr N vv jv Vl J mv M n hT hKl hS hA hs hsb hmb hJ hJn hJl hVl hV hn
  have HT : Hid (Tms w K F is cm sn) := hT
  have HSB : Hid (SubS w sb mv fr N M n) := hS
  have HA : Hid (Att w B sb ab N vv jv Vl J) := hA
  have HS : Hid (∀ k, AttOf ab vv jv k → k ∉ F.L ∧ ¬ K k ∧ k ≠ sb ∧ some k ≠ mv) := hs
  have HM : Hid (sb ∉ F.L ∧ ∀ mb, mv = some mb → mb ∉ F.L) := ⟨hsb, hmb⟩
  have HJ : Hid ((∀ j ∈ J, j ∈ F.L ∧ ∃ c ∈ F.L, is j = some c) ∧ J.Nodup) := ⟨hJ, hJn⟩
  have HV : Hid (∀ x ∈ Vl, Em5.I64 x) := hV
  have HKL : Hid ((∀ k, K k → k < w.heap.size) ∧ J.length ≤ 1000000 ∧ Vl.length ≤ 1000000) := ⟨hKl, hJl, hVl⟩
  obtain ⟨a0, -, a2, a3, -⟩ := hA.get
  obtain ⟨ja, jc, hje⟩ := hA.jnd.form
  have HJE : Hid (jv = .slice ja J.length jc) := hje
  rw [hje] at a3
  clear hT hS hA hs hsb hmb hJ hJn hV hje hKl hJl hVl hn
  refine (callsIn_wide (n := 6)).1 ?_
  refine callsIn_of_wp_marks Try.func30 rfl trivial ?_ rfl
  simp only [Try.ntmps30, List.size_toArray, List.length_cons, List.length_nil, Nat.reduceAdd, Nat.reduceSub, Array.replicate_succ, Array.replicate_zero, List.push_toArray, List.append_toArray, List.nil_append, List.cons_append]
  gi_wp2_with (refine ⟨trivial, ?_⟩; gi_at_call 41; refine (ubackward_in _ _ trivial rfl _ _ _ _).mono ?_; rintro e w' ⟨rfl, rfl⟩)
  obtain ⟨X, hX⟩ : ∃ X, X = w.alloc (.cells #[.slice ja J.length jc] 54) := ⟨_, rfl⟩
  have bX : Below w.heap.size w X := by rw [hX]; exact (Below.refl _ _).alloc (Nat.le_refl _) _
  have zX : X.heap.size = w.heap.size + 1 := by rw [hX]; simp
  have cb : X.cell? ⟨w.heap.size, 0, none⟩ = some (.slice ja J.length jc) := by rw [hX]; simp
  have HX : Hid (Below w.heap.size w X ∧ X.heap.size = w.heap.size + 1 ∧ X.cell? ⟨w.heap.size, 0, none⟩ = some (.slice ja J.length jc)) := ⟨bX, zX, cb⟩
  rw [← hX]
  obtain ⟨g, HG⟩ : ∃ g, Hid ((0 < J.length → ja = some ⟨g, 0, none⟩) ∧ (0 < J.length → g < w.heap.size ∧ g ∉ F.L ∧ ∀ j t, J[j]? = some t → w.cell? ⟨g, j, none⟩ = some (.pointer (some ⟨t, 0, none⟩)))) := by
    by_cases hp : 0 < J.length
    · have ho := HA.out.jnd
      rw [HJE.out] at ho
      obtain ⟨g, e, -, hl, hc⟩ := ho.is.2.2.2 hp
      refine ⟨g, fun _ => e, fun _ => ⟨hl, ?_, hc⟩⟩
      exact (HS.out g (.inr (.inr (by rw [HJE.out, e]; rfl)))).1
    · exact ⟨0, fun h => absurd h hp, fun h => absurd h hp⟩
  have HLX : Hid ((∀ b ∈ F.L, b < X.heap.size) ∧ ∀ b, K b → b < X.heap.size) := ⟨fun b hb => by have := HT.out.lt hb; omega, fun b hb => by have := HKL.out.1 b hb; omega⟩
  clear hX bX zX cb a3
  refine range_rounds rfl (by omega) (gf := 44) (lb := #[.pointer (some ⟨w.heap.size, 0, none⟩)]) rfl trivial (enters_of Try.func44 (by kernel_rfl) rfl)
    (fun k => #[.int .i64 ((J.length - 1 - k : Nat) : Int), .pointer (some ⟨J[J.length - 1 - k]?.getD 0, 0, none⟩)]) J.length (fun k => rfl)
    (fun k W => ∃ is', UnI X W K F cm sn is J (J.length - k) is') (fun k W W' ⟨is', h⟩ hb => ⟨is', h.below HLX.out.1 HLX.out.2 hb⟩)
    ⟨is, HT.out.below HX.out.1, Kept.refl _ _, fun j _ => rfl⟩ ?iter
    (fun k => { tmps := #[.pointer (some ⟨ab, 0, none⟩), undef, undef, .pointer (some ⟨J[J.length - 1 - k]?.getD 0, 0, none⟩), undef, undef, .pointer (some ⟨ab, 0, none⟩), .pointer (some ⟨ab, 0, none⟩), .pointer (some ⟨ab, 3, none⟩), .slice ja J.length jc, .func (.func 44) #[] #[.pointer (some ⟨w.heap.size, 0, none⟩)], .int .i64 ((J.length - 1 - k : Nat) : Int), .pointer (some ⟨J[J.length - 1 - k]?.getD 0, 0, none⟩), undef, undef, undef, undef, undef, undef, undef, undef, undef, undef, undef, undef, undef, undef, undef, undef, undef, undef, undef, undef, undef, undef, undef, undef, undef, undef, undef, undef, undef, undef, undef, undef, undef, undef, undef], defers := [] }) ?assign ?body ?done
  case iter =>
    intro l J' W hJI hY h0
    refine uback_in Fence.wide (6 - 1) trivial rfl (by omega) l w.heap.size g jc ja J HG.out.1 HKL.out.2.1 J' (fun k W hk => ?_) (fun j t W ht hj => ?_) W h0
    · obtain ⟨is', h⟩ := hJI k W hk
      have h1 := HX.out.2.1
      refine ⟨?_, fun j t ht => ?_⟩
      · rw [h.kept.cell (by omega) (fun hm => by have := HT.out.lt hm; omega) 0]; exact HX.out.2.2
      · have hp : 0 < J.length := by have := (List.getElem?_eq_some_iff.1 ht).1; omega
        obtain ⟨g1, g2, g3⟩ := HG.out.2 hp
        rw [h.kept.cell (by omega) g2 j, HX.out.1.cell (p := ⟨g, j, none⟩) g1]; exact g3 j t ht
    · have hl := (List.getElem?_eq_some_iff.1 ht).1
      have e : J.length - 1 - (J.length - 1 - j) = j := by omega
      have := hY (J.length - 1 - j) W hj (by omega)
      simpa only [e, ht, Option.getD_some] using this
  case assign =>
    intro l k W K' hk hK
    gi_wp2
    exact hK
  case body =>
    rintro l k W ⟨is', hI⟩ hk
    obtain ⟨t, ht⟩ : ∃ t, J[J.length - 1 - k]? = some t := ⟨_, List.getElem?_eq_getElem (by omega)⟩
    have HI : Hid (UnI X W K F cm sn is J (J.length - k) is') := hI
    have HTK : Hid (J[J.length - 1 - k]? = some t ∧ k < J.length) := ⟨ht, hk⟩
    obtain ⟨htL, c, hcL, hic⟩ := HJ.out.1 t (List.mem_of_getElem? ht)
    have htk : t ∈ J.take (J.length - k) := List.mem_iff_getElem?.2 ⟨J.length - 1 - k, by rw [List.getElem?_take]; rw [if_pos (by omega)]; exact ht⟩
    have hi := (hI.left t htk).trans hic
    obtain ⟨xa, xc, xs, -, -, -, x3, x4, -, -, fx, -⟩ := (hI.tms t htL).2.cells
    obtain ⟨ya, yc, ys, -, -, -, -, y4, -, -, fy, -⟩ := (hI.tms c hcL).2.cells
    rw [hi, ptr_some] at x3
    have HL : Hid (t ∈ F.L ∧ c ∈ F.L) := ⟨htL, hcL⟩
    rw [ht, Option.getD_some]
    clear hI htk hi htL hcL hic ht
    gi_wp2
    refine wpIn_region_round (by kernel_rfl) (by kernel_rfl) ?_
    refine wpAnyIn_take (i := 0) (v := ?_) rfl rfl (by kernel_rfl) (by kernel_rfl) (by kernel_rfl) (fun _ _ _ h => h) ⟨Or.inl ⟨by rfl, ?_⟩, fun _ => rfl⟩ ?_
    rotate_left
    · (intro w; go_simp); all_goals (with_reducible rfl)
    simp only [List.getElem_toArray, List.getElem_cons_succ, List.getElem_cons_zero, Act.put, List.setIfInBounds_toArray, List.set_cons_zero, List.set_cons_succ]
    refine wpAnyIn_take (i := 1) (v := ?_) rfl rfl (by kernel_rfl) (by kernel_rfl) (by kernel_rfl) (fun _ _ _ h => h) ⟨Or.inl ⟨by rfl, ?_⟩, fun _ => rfl⟩ ?_
    rotate_left
    · (intro w; go_simp); all_goals (with_reducible rfl)
    simp only [List.getElem_toArray, List.getElem_cons_succ, List.getElem_cons_zero, Act.put, List.setIfInBounds_toArray, List.set_cons_zero, List.set_cons_succ]
    refine wpAnyIn_take (i := 2) (v := ?_) rfl rfl (by kernel_rfl) (by kernel_rfl) (by kernel_rfl) (fun _ _ _ h => h) ⟨Or.inl ⟨by rfl, ?_⟩, fun _ => rfl⟩ ?_
    rotate_left
    · (intro w; go_simp); all_goals (with_reducible rfl)
    simp only [List.getElem_toArray, List.getElem_cons_succ, List.getElem_cons_zero, Act.put, List.setIfInBounds_toArray, List.set_cons_zero, List.set_cons_succ]
    refine wpAnyIn_take (i := 7) (v := ?_) rfl rfl (by kernel_rfl) (by kernel_rfl) (by kernel_rfl) (fun _ _ _ h => h) ⟨Or.inl ⟨by rfl, ?_⟩, fun _ => rfl⟩ ?_
    rotate_left
    · (intro w; go_simp); all_goals (with_reducible rfl)
    simp only [List.getElem_toArray, List.getElem_cons_succ, List.getElem_cons_zero, Act.put, List.setIfInBounds_toArray, List.set_cons_zero, List.set_cons_succ]
    refine wpAnyIn_take (i := 8) (v := ?_) rfl rfl (by kernel_rfl) (by kernel_rfl) (by kernel_rfl) (fun _ _ _ h => h) ⟨Or.inl ⟨by rfl, ?_⟩, fun _ => rfl⟩ ?_
    rotate_left
    · (intro w; go_simp); all_goals (with_reducible rfl)
    simp only [List.getElem_toArray, List.getElem_cons_succ, List.getElem_cons_zero, Act.put, List.setIfInBounds_toArray, List.set_cons_zero, List.set_cons_succ]
    refine wpAnyIn_take (i := 9) (v := ?_) rfl rfl (by kernel_rfl) (by kernel_rfl) (by kernel_rfl) (fun _ _ _ h => h) ⟨Or.inl ⟨by rfl, ?_⟩, fun _ => rfl⟩ ?_
    rotate_left
    · (intro w; go_simp); all_goals (with_reducible rfl)
    simp only [List.getElem_toArray, List.getElem_cons_succ, List.getElem_cons_zero, Act.put, List.setIfInBounds_toArray, List.set_cons_zero, List.set_cons_succ]
    refine wpAnyIn_ready (rs := [3, 10]) (by kernel_rfl) (by simp) (AllReadyIn.cons rfl (fun K hK => ?_) (AllReadyIn.cons rfl (fun K hK => ?_) AllReadyIn.nil))
    ·
      go_simp
      refine hK _ _ ?_
      clear hK K
      refine wpAnyIn_take (i := 4) (v := ?_) rfl rfl (by kernel_rfl) (by kernel_rfl) (by kernel_rfl) (fun _ _ _ h => h) ⟨Or.inl ⟨by rfl, ?_⟩, fun _ => rfl⟩ ?_
      rotate_left
      · (intro w; go_simp); all_goals (with_reducible rfl)
      simp only [List.getElem_toArray, List.getElem_cons_succ, List.getElem_cons_zero, Act.put, List.setIfInBounds_toArray, List.set_cons_zero, List.set_cons_succ]
      refine wpAnyIn_take (i := 5) (v := ?_) rfl rfl (by kernel_rfl) (by kernel_rfl) (by kernel_rfl) (fun _ _ _ h => h) ⟨Or.inl ⟨by rfl, ?_⟩, fun _ => rfl⟩ ?_
      rotate_left
      · (intro w; go_simp); all_goals (with_reducible rfl)
      simp only [List.getElem_toArray, List.getElem_cons_succ, List.getElem_cons_zero, Act.put, List.setIfInBounds_toArray, List.set_cons_zero, List.set_cons_succ]
      refine wpAnyIn_ready (rs := [6, 10]) (by kernel_rfl) (by simp) (AllReadyIn.cons rfl (fun K hK => ?_) (AllReadyIn.cons rfl (fun K hK => ?_) AllReadyIn.nil))
      ·
        go_simp
        refine hK _ _ ?_
        clear hK K
        refine wpAnyIn_ready (rs := [10]) (by kernel_rfl) (by simp) (AllReadyIn.cons rfl (fun K hK => ?_) AllReadyIn.nil)
        go_simp
        refine hK _ _ ?_
        clear hK K
        refine wpAnyIn_take (i := 11) (v := ?_) rfl rfl (by kernel_rfl) (by kernel_rfl) (by kernel_rfl) (fun _ _ _ h => h) ⟨Or.inl ⟨by rfl, ?_⟩, fun _ => rfl⟩ ?_
        rotate_left
        · (intro w; go_simp); all_goals (with_reducible rfl)
        simp only [List.getElem_toArray, List.getElem_cons_succ, List.getElem_cons_zero, Act.put, List.setIfInBounds_toArray, List.set_cons_zero, List.set_cons_succ]
        refine wpAnyIn_take (i := 12) (v := ?_) rfl rfl (by kernel_rfl) (by kernel_rfl) (by kernel_rfl) (fun _ _ _ h => h) ⟨Or.inl ⟨by rfl, ?_⟩, fun _ => rfl⟩ ?_
        rotate_left
        · (intro w; go_simp); all_goals (with_reducible rfl)
        simp only [List.getElem_toArray, List.getElem_cons_succ, List.getElem_cons_zero, Act.put, List.setIfInBounds_toArray, List.set_cons_zero, List.set_cons_succ]
        refine wpAnyIn_take (i := 13) (v := ?_) rfl rfl (by kernel_rfl) (by kernel_rfl) (by kernel_rfl) (fun _ _ _ h => h) ⟨Or.inl ⟨by rfl, ?_⟩, fun _ => rfl⟩ ?_
        rotate_left
        · (intro w; go_simp); all_goals (with_reducible rfl)
        simp only [List.getElem_toArray, List.getElem_cons_succ, List.getElem_cons_zero, Act.put, List.setIfInBounds_toArray, List.set_cons_zero, List.set_cons_succ]
        refine wpAnyIn_ready (rs := [14]) (by kernel_rfl) (by simp) (AllReadyIn.cons rfl (fun K hK => ?_) AllReadyIn.nil)
        go_simp
        refine hK _ _ ?_
        clear hK K
        refine wpAnyIn_done (by kernel_rfl) ?_ _
        gi_wp2
        exact HI.out.step HLX.out.1 HJ.out.2 HTK.out.1 HTK.out.2 HL.out.1 HL.out.2 _
      ·
        go_simp
        refine hK _ _ ?_
        clear hK K
        refine wpAnyIn_ready (rs := [6]) (by kernel_rfl) (by simp) (AllReadyIn.cons rfl (fun K hK => ?_) AllReadyIn.nil)
        go_simp
        refine hK _ _ ?_
        clear hK K
        refine wpAnyIn_take (i := 11) (v := ?_) rfl rfl (by kernel_rfl) (by kernel_rfl) (by kernel_rfl) (fun _ _ _ h => h) ⟨Or.inl ⟨by rfl, ?_⟩, fun _ => rfl⟩ ?_
        rotate_left
        · (intro w; go_simp); all_goals (with_reducible rfl)
        simp only [List.getElem_toArray, List.getElem_cons_succ, List.getElem_cons_zero, Act.put, List.setIfInBounds_toArray, List.set_cons_zero, List.set_cons_succ]
        refine wpAnyIn_take (i := 12) (v := ?_) rfl rfl (by kernel_rfl) (by kernel_rfl) (by kernel_rfl) (fun _ _ _ h => h) ⟨Or.inl ⟨by rfl, ?_⟩, fun _ => rfl⟩ ?_
        rotate_left
        · (intro w; go_simp); all_goals (with_reducible rfl)
        simp only [List.getElem_toArray, List.getElem_cons_succ, List.getElem_cons_zero, Act.put, List.setIfInBounds_toArray, List.set_cons_zero, List.set_cons_succ]
        refine wpAnyIn_take (i := 13) (v := ?_) rfl rfl (by kernel_rfl) (by kernel_rfl) (by kernel_rfl) (fun _ _ _ h => h) ⟨Or.inl ⟨by rfl, ?_⟩, fun _ => rfl⟩ ?_
        rotate_left
        · (intro w; go_simp); all_goals (with_reducible rfl)
        simp only [List.getElem_toArray, List.getElem_cons_succ, List.getElem_cons_zero, Act.put, List.setIfInBounds_toArray, List.set_cons_zero, List.set_cons_succ]
        refine wpAnyIn_ready (rs := [14]) (by kernel_rfl) (by simp) (AllReadyIn.cons rfl (fun K hK => ?_) AllReadyIn.nil)
        go_simp
        refine hK _ _ ?_
        clear hK K
        refine wpAnyIn_done (by kernel_rfl) ?_ _
        gi_wp2
        exact HI.out.step HLX.out.1 HJ.out.2 HTK.out.1 HTK.out.2 HL.out.1 HL.out.2 _
    ·
      go_simp
      refine hK _ _ ?_
      clear hK K
      refine wpAnyIn_ready (rs := [3]) (by kernel_rfl) (by simp) (AllReadyIn.cons rfl (fun K hK => ?_) AllReadyIn.nil)
      go_simp
      refine hK _ _ ?_
      clear hK K
      refine wpAnyIn_take (i := 4) (v := ?_) rfl rfl (by kernel_rfl) (by kernel_rfl) (by kernel_rfl) (fun _ _ _ h => h) ⟨Or.inl ⟨by rfl, ?_⟩, fun _ => rfl⟩ ?_
      rotate_left
      · (intro w; go_simp); all_goals (with_reducible rfl)
      simp only [List.getElem_toArray, List.getElem_cons_succ, List.getElem_cons_zero, Act.put, List.setIfInBounds_toArray, List.set_cons_zero, List.set_cons_succ]
      refine wpAnyIn_take (i := 5) (v := ?_) rfl rfl (by kernel_rfl) (by kernel_rfl) (by kernel_rfl) (fun _ _ _ h => h) ⟨Or.inl ⟨by rfl, ?_⟩, fun _ => rfl⟩ ?_
      rotate_left
      · (intro w; go_simp); all_goals (with_reducible rfl)
      simp only [List.getElem_toArray, List.getElem_cons_succ, List.getElem_cons_zero, Act.put, List.setIfInBounds_toArray, List.set_cons_zero, List.set_cons_succ]
      refine wpAnyIn_ready (rs := [6]) (by kernel_rfl) (by simp) (AllReadyIn.cons rfl (fun K hK => ?_) AllReadyIn.nil)
      go_simp
      refine hK _ _ ?_
      clear hK K
      refine wpAnyIn_take (i := 11) (v := ?_) rfl rfl (by kernel_rfl) (by kernel_rfl) (by kernel_rfl) (fun _ _ _ h => h) ⟨Or.inl ⟨by rfl, ?_⟩, fun _ => rfl⟩ ?_
      rotate_left
      · (intro w; go_simp); all_goals (with_reducible rfl)
      simp only [List.getElem_toArray, List.getElem_cons_succ, List.getElem_cons_zero, Act.put, List.setIfInBounds_toArray, List.set_cons_zero, List.set_cons_succ]
      refine wpAnyIn_take (i := 12) (v := ?_) rfl rfl (by kernel_rfl) (by kernel_rfl) (by kernel_rfl) (fun _ _ _ h => h) ⟨Or.inl ⟨by rfl, ?_⟩, fun _ => rfl⟩ ?_
      rotate_left
      · (intro w; go_simp); all_goals (with_reducible rfl)
      simp only [List.getElem_toArray, List.getElem_cons_succ, List.getElem_cons_zero, Act.put, List.setIfInBounds_toArray, List.set_cons_zero, List.set_cons_succ]
      refine wpAnyIn_take (i := 13) (v := ?_) rfl rfl (by kernel_rfl) (by kernel_rfl) (by kernel_rfl) (fun _ _ _ h => h) ⟨Or.inl ⟨by rfl, ?_⟩, fun _ => rfl⟩ ?_
      rotate_left
      · (intro w; go_simp); all_goals (with_reducible rfl)
      simp only [List.getElem_toArray, List.getElem_cons_succ, List.getElem_cons_zero, Act.put, List.setIfInBounds_toArray, List.set_cons_zero, List.set_cons_succ]
      refine wpAnyIn_ready (rs := [14]) (by kernel_rfl) (by simp) (AllReadyIn.cons rfl (fun K hK => ?_) AllReadyIn.nil)
      go_simp
      refine hK _ _ ?_
      clear hK K
      refine wpAnyIn_done (by kernel_rfl) ?_ _
      gi_wp2
      exact HI.out.step HLX.out.1 HJ.out.2 HTK.out.1 HTK.out.2 HL.out.1 HL.out.2 _
  case done =>
    intro dl W hdl hI hdef
    obtain ⟨is', hI⟩ := hI
    have HI : Hid (UnI X W K F cm sn is J (J.length - J.length) is') := hI
    have hkW : Kept (fun q => q ∈ F.L) w W := (Kept.of (Q := fun q => q ∈ F.L) HX.out.1).trans hI.kept fun _ _ e => e
    have HKW : Hid (Kept (fun q => q ∈ F.L) w W) := hkW
    have HAW : Hid (Att W B sb ab N vv jv Vl J) := HA.out.turn hkW fun b hb => (HS.out b hb).1
    have HSW : Hid (SubS W sb mv fr N M n) := HSB.out.keep hkW HM.out.1 HM.out.2
    have HDW : Hid (W.heap[dl]? = some (.deferred (some [])) ∧ X.heap.size ≤ dl) := ⟨hdef, hdl⟩
    obtain ⟨va, vc, hve⟩ := HA.out.vars.form
    have HVE : Hid (vv = .slice va Vl.length vc) := hve
    obtain ⟨-, -, c2, -, -⟩ := HAW.out.get
    rw [hve] at c2
    clear hI hkW hdef hdl hve a0 a2
    gi_wp2
    gi_loopw [35] (fun i wr => ∃ j : Nat, j ≤ Vl.length ∧ i = .int .i64 j ∧ Hid (Kept (fun k => some k = mv) W wr ∧ ∀ mb, mv = some mb → ∃ n D, wr.ownsMap Try.prog 3 ptrElem mb n D)) (fun i _ => Vl.length - (intOf i).toNat)
    case atStart => exact ⟨0, Nat.zero_le _, rfl, Kept.refl _ _, fun mb e => by obtain ⟨D, h, -⟩ := HSW.out.map mb e; exact ⟨n, D, h⟩⟩
    case round =>
      obtain ⟨j, hj, rfl, HR⟩ := hrel
      clear c2
      by_cases hlt : j < Vl.length
      · obtain ⟨x, hx⟩ : ∃ x, Vl[j]? = some x := ⟨_, List.getElem?_eq_getElem hlt⟩
        have hxi : Em5.I64 x := HV.out x (List.mem_of_getElem? hx)
        obtain ⟨g1, off, cap, e2, -, -, hb, hc⟩ := (HAW.out.vars.is HV.out).plain (by omega)
        have e3 := HVE.out.symm.trans e2
        simp only [Value.slice.injEq, true_and] at e3
        obtain ⟨rfl, rfl⟩ := e3
        have hgm : some g1 ≠ mv := (HS.out g1 (.inr (.inl (by rw [e2]; rfl)))).2.2.2
        have cx : wr.cell? ⟨g1, off + j, none⟩ = some (.int .i64 x) := by rw [HR.out.1.cell hb hgm]; exact hc j x hx
        obtain ⟨k0, -, -, -, -⟩ := HAW.out.get
        rw [← HR.out.1.cell (HAW.out.lt (.inl rfl)).2 (HS.out ab (.inl rfl)).2.2.2 0] at k0
        obtain ⟨-, s1, -, -⟩ := HSW.out.get
        rw [← HR.out.1.cell HSW.out.lt.1 (fun e => (HSW.out.lt.2 sb e.symm).2 rfl) 1] at s1
        obtain ⟨w5, hdel, hm5, hk5⟩ := del9 HR.out.2 hxi 0
        have HR5 : Hid (Kept (fun k => some k = mv) W w5 ∧ ∀ mb, mv = some mb → ∃ n D, w5.ownsMap Try.prog 3 ptrElem mb n D) := ⟨HR.out.1.trans hk5 fun _ _ e => e, hm5⟩
        have hj0 : (0 : Int) ≤ (j : Int) := by omega
        have hjl : (j : Int) < (Vl.length : Int) := by omega
        have hvl : (Vl.length : Int) ≤ 1000000 := by have := HKL.out.2.2; omega
        clear hx hxi e2 hb hc hm5 hk5
        gi_wp2
        go_roundw
        case rel => exact ⟨j + 1, by omega, by go_num, HR5⟩
        case measure => simp [intOf]; omega
      · have hje : j = Vl.length := by omega
        subst hje
        gi_wp2
        have hdl9 : wr.heap[dl]? = some (.deferred (some [])) := by
          rw [HR.out.1.block dl (heap_lt9 HDW.out.1) (fun e => by have := (HSW.out.lt.2 dl e.symm).1; have := (HSB.out.lt.2 dl e.symm).1; have := HDW.out.2; have := HX.out.1.size; omega)]; exact HDW.out.1
        refine ⟨by simp, .inl ⟨_, _, rfl, run_takeDeferred hdl9, ?_⟩⟩
        refine ⟨.tuple #[], by simp [results, Try.results30, go_sem], rfl, ?_⟩
        have hk2 : Kept (fun k => k ∈ F.L ∨ k = sb ∨ some k = mv) w wr := (HKW.out.wide fun k _ e => .inl e).trans HR.out.1 fun k _ e => .inr (.inr e)
        refine hk2.trans (Q' := fun q => w.heap.size ≤ q) ?_ fun b hb e => absurd e (by omega)
        have hbb := belowK_b (w := w) (Nat.le_refl _) wr dl _ (.deferred none) (by have := HDW.out.2; have := HX.out.1.size; omega) hdl9 rfl rfl
        exact ⟨hbb.os, hbb.tape, hbb.output, hbb.size, fun q hq hn => hbb.block q (by omega)⟩
end Go.Proofs.Ytadhjnbhcenocaa

namespace Go.Proofs.Ytadhjnbhcenocaa
open Go.RowKit Go.Em8 Go.Em9
set_option linter.unusedSimpArgs false
set_option linter.unusedVariables false

set_option maxRecDepth 100000 in
set_option maxHeartbeats 4000000 in
theorem uUnify_any {w : World} {sb : Nat} {fr N : Int} {Mn : Nat → Prop} {len : Nat} {d : Int → Ty} {dom : Int → Prop} (h : Uf w sb fr N Mn len d dom) (hN : 0 ≤ N ∧ N ≤ 900000) {a b : Ty} (ha : Em8.teach a = true) (hb : Em8.teach b = true) (hl : len + a.size + b.size ≤ 100000)
    (hu : (∃ t, Fac t d ∧ tsub t a = tsub t b) ∨ UndoOk) {va vb : Value} (hA : IsTyP (fun k => ¬ Mn k) w a va) (hB : IsTyP (fun k => ¬ Mn k) w b vb) :
    Calls Try.prog 12 #[.pointer (some ⟨sb, 0, none⟩), va, vb] w fun e w' => Kept Mn w w' ∧
      ((e = .returned (.bool true) ∧ ∃ Mn' d', Uf w' sb fr (N + 1) Mn' (len + a.size + b.size) d' (fun z => dom z ∨ tocc z a ∨ tocc z b) ∧ (∀ t, Fac t d' ↔ Fac t d ∧ tsub t a = tsub t b) ∧ (∀ k, Mn' k → Mn k ∨ w.heap.size ≤ k)) ∨
       (e = .returned (.bool false) ∧ ∀ t, ¬ (Fac t d ∧ tsub t a = tsub t b))) := by
  have hM : ∀ k, Mn k → k < w.heap.size := fun k => h.lt
  obtain ⟨K, F, is, cm, sn, E, D, T, mv, M, n, hS, hMn⟩ := h
  subst hMn
  have HS : Hid (UfS w sb fr N len d dom K F is cm sn E D T mv M n) := hS
  have HN : Hid (0 ≤ N ∧ N ≤ 900000) := hN
  have HT : Hid (Em8.teach a = true ∧ Em8.teach b = true ∧ len + a.size + b.size ≤ 100000) := ⟨ha, hb, hl⟩
  have HU : Hid ((∃ t, Fac t d ∧ tsub t a = tsub t b) ∨ UndoOk) := hu
  have HA : Hid (IsTyP (fun k => ¬ MineOf sb K F mv k) w a va ∧ IsTyP (fun k => ¬ MineOf sb K F mv k) w b vb ∧ ∀ k, MineOf sb K F mv k → k < w.heap.size) := ⟨hA, hB, hM⟩
  obtain ⟨p0, p1, pa, pk, pc, rfl⟩ := isTyP_form hA
  obtain ⟨r0, r1, ra, rk, rc, rfl⟩ := isTyP_form hB
  obtain ⟨g1, g2, g3, g4⟩ := hS.sub.get
  obtain ⟨W, hW⟩ : ∃ W, W = (w.alloc (.cells #[.string p0, .int .i64 p1, .slice pa pk pc] 25)).alloc (.cells #[.string r0, .int .i64 r1, .slice ra rk rc] 25) := ⟨_, rfl⟩
  obtain ⟨X, hX⟩ : ∃ X, X = attNew w sb N (.cells #[.string p0, .int .i64 p1, .slice pa pk pc] 25) (.cells #[.string r0, .int .i64 r1, .slice ra rk rc] 25) := ⟨_, rfl⟩
  have bW : Below w.heap.size w W := by rw [hW]; exact ((Below.refl _ _).alloc (Nat.le_refl _) _).alloc (by simp) _
  have zW : W.heap.size = w.heap.size + 2 := by rw [hW]; simp
  have hsl := hS.sub.lt.1
  have q2 : W.cell? ⟨sb, 2, none⟩ = some (.int .i64 N) := by rw [bW.cell (p := ⟨sb, 2, none⟩) hsl]; exact g3
  have qf : W.frozen? ⟨sb, 2, none⟩ = false := by rw [bW.frozen (p := ⟨sb, 2, none⟩) hsl]; exact g4 2
  have HWE : Hid ((w.alloc (.cells #[.string p0, .int .i64 p1, .slice pa pk pc] 25)).alloc (.cells #[.string r0, .int .i64 r1, .slice ra rk rc] 25) = W) := hW.symm
  have HXE : Hid ((W.setCell ⟨sb, 2, none⟩ (.int .i64 (N + 1))).alloc (.cells #[.pointer (some ⟨sb, 0, none⟩), .int .i64 (N + 1), .slice none 0 0, .slice none 0 0] 56) = X) := by rw [Hid, hX, hW]; rfl
  obtain ⟨o1, o2, o3⟩ := att_start hS hX
  have HO : Hid (S9Ok X w.heap.size sb (w.heap.size + 2) fr (N + 1) (.slice none 0 0) [] ⟨F, is, cm, sn, M, mv, .slice none 0 0, [], n, K⟩ ∧ Kept (fun k => k = sb) w X ∧ X.heap.size = w.heap.size + 3) := ⟨o1, o2, o3⟩
  have HX0 : Hid (sb ≠ w.heap.size ∧ sb ≠ w.heap.size + 1) := ⟨by omega, by omega⟩
  have hN0 : 0 ≤ N := hN.1
  have hN1 : N ≤ 900000 := hN.2
  clear hS hN ha hb hl hu hA hB hM hW hX bW g1 g2 g3 g4 o1 o2 o3 
  go_enter Try.func12, Try.ntmps12
  go_upto_region 1 with fail
  rw [HWE.out]
  go_upto_region 5 with fail
  have a0 : X.cell? ⟨w.heap.size, 0, none⟩ = some (.string p0) := by rw [← HXE.out, ← HWE.out]; simp [go_sem, HX0.out.1]
  have a1 : X.cell? ⟨w.heap.size, 1, none⟩ = some (.int .i64 p1) := by rw [← HXE.out, ← HWE.out]; simp [go_sem, HX0.out.1]
  have a2 : X.cell? ⟨w.heap.size, 2, none⟩ = some (.slice pa pk pc) := by rw [← HXE.out, ← HWE.out]; simp [go_sem, HX0.out.1]
  have b0 : X.cell? ⟨w.heap.size + 1, 0, none⟩ = some (.string r0) := by rw [← HXE.out, ← HWE.out]; simp [go_sem, HX0.out.1, HX0.out.2]
  have b1 : X.cell? ⟨w.heap.size + 1, 1, none⟩ = some (.int .i64 r1) := by rw [← HXE.out, ← HWE.out]; simp [go_sem, HX0.out.1, HX0.out.2]
  have b2 : X.cell? ⟨w.heap.size + 1, 2, none⟩ = some (.slice ra rk rc) := by rw [← HXE.out, ← HWE.out]; simp [go_sem, HX0.out.1, HX0.out.2]
  have HB1 : Hid (X.cell? ⟨w.heap.size + 1, 0, none⟩ = some (.string r0) ∧ X.cell? ⟨w.heap.size + 1, 1, none⟩ = some (.int .i64 r1) ∧ X.cell? ⟨w.heap.size + 1, 2, none⟩ = some (.slice ra rk rc)) := ⟨b0, b1, b2⟩
  rw [HXE.out]
  clear HXE HWE zW q2 qf hsl hN0 hN1
  have HK1 : Hid (∀ w', Below X.heap.size X w' → Calls Try.prog 27 #[.pointer (some ⟨w.heap.size + 2, 0, none⟩), .agg #[.string p0, .int .i64 p1, .slice pa pk pc]] w' fun e w'' => ∃ x s', e = .returned (.pointer (some ⟨x, 0, none⟩)) ∧ KeptAs X w'' w.heap.size sb (w.heap.size + 2) fr (N + 1) (.slice none 0 0) [] ⟨F, is, cm, sn, M, mv, .slice none 0 0, [], n, K⟩ s' a x) := fun w' hb => by
    obtain ⟨h1, h2, h3⟩ := HO.out
    refine (ukeep_any w.heap.size sb (w.heap.size + 2) fr (N + 1) (.slice none 0 0) [] mv (by have := HN.out; unfold Em5.I64; omega) (.inl HS.out.sub.lt.1) a HT.out.1 w' _ _ (h1.below hb) (.inl rfl) (far_of HA.out.2.2 HA.out.1 (h2.trans (Q' := fun _ => False) (Kept.of hb) fun _ _ e => e.elim) fun k _ e => .inl e) (by have := hb.size; omega) (by have := HS.out.len; have := HT.out.2.2; simp only; omega)).mono ?_
    rintro e w'' ⟨x, s', he, hk⟩
    exact ⟨x, s', he, hk.from hb⟩
  have HK2 : Hid (∀ w3 s1 x, KeptAs X w3 w.heap.size sb (w.heap.size + 2) fr (N + 1) (.slice none 0 0) [] ⟨F, is, cm, sn, M, mv, .slice none 0 0, [], n, K⟩ s1 a x → Calls Try.prog 27 #[.pointer (some ⟨w.heap.size + 2, 0, none⟩), .agg #[.string r0, .int .i64 r1, .slice ra rk rc]] w3 fun e w'' => ∃ y s', e = .returned (.pointer (some ⟨y, 0, none⟩)) ∧ KeptAs w3 w'' w.heap.size sb (w.heap.size + 2) fr (N + 1) (.slice none 0 0) [] s1 s' b y) := fun w3 s1 x hk1 => by
    obtain ⟨h1, h2, h3⟩ := HO.out
    refine ukeep_any w.heap.size sb (w.heap.size + 2) fr (N + 1) (.slice none 0 0) [] mv (by have := HN.out; unfold Em5.I64; omega) (.inl HS.out.sub.lt.1) b HT.out.2.1 w3 _ _ hk1.ok ?_ (far_of HA.out.2.2 HA.out.2.1 ((h2.wide fun k _ e => .inl e).trans (Q := fun k => k = sb ∨ some k = mv) hk1.kept fun k hk e => ?_) fun k _ e => e) (by have := hk1.kept.size; omega) (by have := hk1.len; have := HS.out.len; have := HT.out.2.2; simp only at *; omega)
    · rcases hk1.ext.mv with e | ⟨-, g, e, hg⟩
      · exact .inl e
      · exact .inr ⟨g, e, by omega⟩
    · rcases e with e | e | e | e
      · exact .inl e
      · exact .inr e
      · omega
      · simp [Value.ownBlock] at e
  have HBX : Hid (∀ w3 s1 x, KeptAs X w3 w.heap.size sb (w.heap.size + 2) fr (N + 1) (.slice none 0 0) [] ⟨F, is, cm, sn, M, mv, .slice none 0 0, [], n, K⟩ s1 a x → w3.cell? ⟨w.heap.size + 1, 0, none⟩ = some (.string r0) ∧ w3.cell? ⟨w.heap.size + 1, 1, none⟩ = some (.int .i64 r1) ∧ w3.cell? ⟨w.heap.size + 1, 2, none⟩ = some (.slice ra rk rc)) := fun w3 s1 x hk1 => by
    obtain ⟨h1, h2, h3⟩ := HO.out
    have key : ∀ o, w3.cell? ⟨w.heap.size + 1, o, none⟩ = X.cell? ⟨w.heap.size + 1, o, none⟩ := fun o => hk1.kept.cell (by omega) (fun e => by
      rcases e with e | e | e | e
      · have := HS.out.sub.lt.1; omega
      · have := (HS.out.sub.lt.2 _ e.symm).1; omega
      · omega
      · simp [Value.ownBlock] at e) o
    rw [key, key, key]; exact HB1.out
  clear HB1
  have d0 : Below X.heap.size X X.drew := (Below.refl _ _).drew
  go_cut [8, 9] from 10 (fun s8 s9 wx => ∃ x y s2, s8 = .pointer (some ⟨x, 0, none⟩) ∧ s9 = .pointer (some ⟨y, 0, none⟩) ∧ Hid (Att2 w wx sb (w.heap.size + 2) fr N len d dom K F is cm sn E D T mv M n s2 x y a b))
  case first =>
    go_region_law (first
      | (go_simp; go_at_call 27; have dq := hk1; clear dq; refine (HK2.out _ _ _ hk1.out).mono ?_; rintro e w4 ⟨y, s2, rfl, hk2⟩; have hk2 : Hid (KeptAs w3 w4 w.heap.size sb (w.heap.size + 2) fr (N + 1) (.slice none 0 0) [] s1 s2 b y) := hk2)
      | (go_simp; go_at_call 27; refine (HK1.out _ d0).mono ?_; rintro e w3 ⟨x, s1, rfl, hk1⟩; obtain ⟨b03, b13, b23⟩ := HBX.out _ _ _ hk1; have hk1 : Hid (KeptAs X w3 w.heap.size sb (w.heap.size + 2) fr (N + 1) (.slice none 0 0) [] ⟨F, is, cm, sn, M, mv, .slice none 0 0, [], n, K⟩ s1 a x) := hk1))
    all_goals
      go_wp2_with fail
      go_meet
      exact ⟨x, y, s2, rfl, rfl, att2_mk HS.out HO.out.2.1 (by have := HO.out.2.2; omega) (by omega) hk1.out hk2.out⟩
  case rest =>
    obtain ⟨x, y, s2, rfl, rfl, HC2⟩ := hcut
    obtain ⟨w4, hw4⟩ : ∃ q, q = wc := ⟨_, rfl⟩
    rw [← hw4] at HC2
    rw [← hw4]
    clear hw4 a0 a1 a2 b0 b1 b2 d0 HK1 HK2 HBX HO
    have HLL : Hid (s2.F.L.length ≤ 100000) := by have := HC2.out.len; have := HT.out.2.2; show _ ≤ _; omega
    have HBL : Hid (w.heap.size ≤ w4.heap.size) := HC2.out.kept.size
    have HMK := umake_any HC2.out.ok.fo HC2.out.cong HC2.out.ends HC2.out.ok.tms HC2.out.leads HC2.out.ok.att (fun k hk => ⟨(HC2.out.ok.sepA k hk).1, (HC2.out.ok.sepA k hk).2.1⟩) HC2.out.ok.kl HC2.out.hx.1 HC2.out.hy.1 HBL.out HLL.out
    go_wp2_with fail
    refine HMK.mono ?_
    rintro e w5 ⟨S, J, is', E', D', jv, hmk, ⟨rfl, hno⟩ | ⟨rfl, rfl⟩⟩
    · have HM : Hid (MkI w4 w5 s2.K s2.F E s2.cm s2.sn w.heap.size sb (w.heap.size + 2) (N + 1) s2.vv (.slice none 0 0) s2.Vl x y S J is' E' D' jv) := hmk
      have HNO : Hid (∀ t, ¬ (Fac t d ∧ tsub t a = tsub t b)) := fun t ht => hno t ⟨(HC2.out.sol t).2 ht.1, by rw [HC2.out.hx.2, HC2.out.hy.2]; exact ht.2⟩
      clear hmk hno HMK
      go_wp2_with fail
      rcases HU.out with ⟨t, ht⟩ | hU
      · exact absurd ht (HNO.out t)
      · refine (HC2.out.undo HT.out.2.2 hU HM.out HM.out.tms (Kept.refl _ _)).mono ?_
        rintro e w7 ⟨rfl, hk⟩
        have HK : Hid (Kept (MineOf sb K F mv) w w7) := hk
        clear hk
        go_wp2_with fail
        go_ret
        exact ⟨HK.out, .inr ⟨rfl, HNO.out⟩⟩
    · have HM : Hid (MkI w4 w5 s2.K s2.F E s2.cm s2.sn w.heap.size sb (w.heap.size + 2) (N + 1) s2.vv (.slice none 0 0) s2.Vl x y [] J is' E' D' jv) := hmk
      have HFI := ufin_any HC2.out.ok.fo HM.out.joins.ends HM.out.tms HM.out.leads HM.out.att HM.out.sepA (fun k hk => Nat.lt_of_lt_of_le (HC2.out.ok.kl k hk) HM.out.kept.size) HM.out.joins.jmem (by have := HM.out.count; have := HLL.out; omega) HC2.out.hx.1 HLL.out (by have := HN.out; omega) (HC2.out.seen HN.out.1) F.L HC2.out.came
      clear hmk HMK
      go_wp2_with fail
      refine HFI.mono ?_
      rintro e w6 ⟨sn', ht, hk, hsn, ⟨rfl, hw⟩ | ⟨rfl, hno⟩⟩
      · have HD := Att2.done HC2.out HN.out.1 HM.out ht hk hsn hw
        have HD : Hid _ := HD
        clear ht hk hsn hw HFI
        go_wp2_with fail
        go_ret
        exact ⟨HD.out.2, .inl ⟨rfl, HD.out.1⟩⟩
      · have HNO : Hid (∀ t, ¬ (Fac t d ∧ tsub t a = tsub t b)) := fun t ht => by
          refine hno t ((HM.out.joins.sol t).2 ⟨(HC2.out.sol t).2 ht.1, by rw [HC2.out.hx.2, HC2.out.hy.2]; exact ht.2⟩).1
        have HTK : Hid (Tms w6 s2.K s2.F is' s2.cm sn' ∧ Kept (fun k => k ∈ s2.F.L) w5 w6) := ⟨ht, hk⟩
        clear ht hk hsn hno HFI
        go_wp2_with fail
        rcases HU.out with ⟨t, ht⟩ | hU
        · exact absurd ht (HNO.out t)
        · refine (HC2.out.undo HT.out.2.2 hU HM.out HTK.out.1 HTK.out.2).mono ?_
          rintro e w7 ⟨rfl, hk⟩
          have HK : Hid (Kept (MineOf sb K F mv) w w7) := hk
          clear hk
          go_wp2_with fail
          go_ret
          exact ⟨HK.out, .inr ⟨rfl, HNO.out⟩⟩
end Go.Proofs.Ytadhjnbhcenocaa

namespace Go.Proofs.Ytadhjnbhcenocaa
open Go.RowKit Go.Em8 Go.Em9
set_option linter.unusedSimpArgs false
set_option linter.unusedVariables false

/-- Nothing is said. -/
theorem Uf.empty {w : World} {sb : Nat} (h : w.heap[sb]? = some (.cells #[.int .i64 0, .map none, .int .i64 0] 53 (0, 0))) : Uf w sb 0 0 (MineOf sb (fun _ => False) ⟨[], fun _ => tv 0, fun _ => []⟩ none) 0 tv (fun _ => False) := by
  refine ⟨fun _ => False, ⟨[], fun _ => tv 0, fun _ => []⟩, fun _ => none, fun _ => 0, fun _ => 0, id, fun _ => 0, fun _ => tv 0, none, fun _ => none, 0, ⟨⟨by simp, by simp, by simp, by simp⟩, ⟨by simp, by simp, by simp, by simp⟩, by simp [Cong], by simp [TOk], by simp [Tms], ⟨by simp, by simp⟩, by simp, by simp, ⟨h, by simp, by simp⟩, ⟨by simp, by simp⟩, ?_, by simp, by simp, by simp, by simp, by simp, by simp⟩, rfl⟩
  funext x
  rw [ofM_none rfl]
theorem Uf.fresh {w w' : World} {sb : Nat} {fr N : Int} {Mn : Nat → Prop} {len : Nat} {d : Int → Ty} {dom : Int → Prop} (h : Uf w sb fr N Mn len d dom) (hk : Kept (fun k => k = sb) w w') {fr' : Int} (hc : ∀ mv, w.heap[sb]? = some (.cells #[.int .i64 fr, .map mv, .int .i64 N] 53 (0, 0)) → w'.heap[sb]? = some (.cells #[.int .i64 fr', .map mv, .int .i64 N] 53 (0, 0))) : Uf w' sb fr' N Mn len d dom := by
  obtain ⟨K, F, is, cm, sn, E, D, T, mv, M, n, h, rfl⟩ := h
  refine ⟨K, F, is, cm, sn, E, D, T, mv, M, n, ⟨h.fo, h.ends, h.cong, h.tok, h.tms.turn hk (fun b hb e => h.sepS.1 (e ▸ hb)) (fun b hb e => h.sepS.2 (e ▸ hb)), h.leads, fun k hK => Nat.lt_of_lt_of_le (h.kl k hK) hk.size, h.len, ⟨hc mv h.sub.cells, fun mb e => ?_, h.sub.none⟩, h.map, h.d, h.seen, h.came, h.sepS, h.sepM, h.nl, h.dom⟩, rfl⟩
  obtain ⟨D, g1, g2⟩ := h.sub.map mb e
  refine ⟨D, ?_, g2⟩
  obtain ⟨es, clock, hb, F, hs, hD⟩ := g1
  exact ⟨es, clock, by rw [hk.block mb (h.sub.lt.2 mb e).1 (h.sub.lt.2 mb e).2]; exact hb, F, hs, hD⟩
theorem Uf.cells {w : World} {sb : Nat} {fr N : Int} {Mn : Nat → Prop} {len : Nat} {d : Int → Ty} {dom : Int → Prop} (h : Uf w sb fr N Mn len d dom) : ∃ mv, w.heap[sb]? = some (.cells #[.int .i64 fr, .map mv, .int .i64 N] 53 (0, 0)) ∧ sb < w.heap.size := by
  obtain ⟨K, F, is, cm, sn, E, D, T, mv, M, n, h, rfl⟩ := h
  exact ⟨mv, h.sub.cells, h.sub.lt.1⟩
theorem Uf.mine {w : World} {sb : Nat} {fr N : Int} {Mn : Nat → Prop} {len : Nat} {d : Int → Ty} {dom : Int → Prop} (h : Uf w sb fr N Mn len d dom) : Mn sb := by
  obtain ⟨K, F, is, cm, sn, E, D, T, mv, M, n, h, rfl⟩ := h
  exact .inl rfl

set_option maxRecDepth 100000 in
set_option maxHeartbeats 1000000 in
theorem unew_any (w : World) : Calls Try.prog 11 #[] w fun e w' => e = .returned (.pointer (some ⟨w.heap.size, 0, none⟩)) ∧ Below w.heap.size w w' ∧ ∃ Mn, Uf w' w.heap.size 0 0 Mn 0 tv (fun _ => False) ∧ ∀ k, Mn k → k = w.heap.size := by
  go_enter Try.func11, Try.ntmps11
  go_wp2_with fail
  go_ret
  refine ⟨rfl, (Below.refl _ _).alloc (Nat.le_refl _) _, _, Uf.empty (heap_alloc_new w _), fun k hk => ?_⟩
  rcases hk with e | e | e | e
  · exact e
  · simp at e
  · simp at e
  · exact e.elim

set_option maxRecDepth 100000 in
set_option maxHeartbeats 1000000 in
/-- 'Fresh'. -/
theorem ufresh_any {w : World} {sb : Nat} {fr N : Int} {Mn : Nat → Prop} {len : Nat} {d : Int → Ty} {dom : Int → Prop} (h : Uf w sb fr N Mn len d dom) (hN : 0 ≤ fr ∧ fr ≤ 1000000) :
    Calls Try.prog 20 #[.pointer (some ⟨sb, 0, none⟩)] w fun e w' => e = .returned (.agg #[.string (Em.str tVar), .int .i64 fr, .slice none 0 0]) ∧ Uf w' sb (fr + 1) N Mn len d dom ∧ Kept (fun k => k = sb) w w' := by
  obtain ⟨mv, hc, hlt⟩ := h.cells
  have HS : Hid (Uf w sb fr N Mn len d dom) := h
  obtain ⟨W, hW⟩ : ∃ W, W = w.alloc (.cells #[.string ⟨#[]⟩, .int .i64 0, .slice none 0 0] 25) := ⟨_, rfl⟩
  have hcW : W.heap[sb]? = some (.cells #[.int .i64 fr, .map mv, .int .i64 N] 53 (0, 0)) := by rw [hW, heap_alloc_old _ _ hlt]; exact hc
  have c0 : W.cell? ⟨sb, 0, none⟩ = some (.int .i64 fr) := by simp [World.cell?, hcW]
  have f0 : W.frozen? ⟨sb, 0, none⟩ = false := by simp [World.frozen?, hcW]
  have kW : Kept (fun k => k = sb) w W := by rw [hW]; exact (Kept.refl _ w).alloc _
  have zW : W.heap.size = w.heap.size + 1 := by rw [hW]; simp
  obtain ⟨X, hX⟩ : ∃ X, X = W.setCell ⟨sb, 0, none⟩ (.int .i64 (fr + 1)) := ⟨_, rfl⟩
  have hcX : X.heap[sb]? = some (.cells #[.int .i64 (fr + 1), .map mv, .int .i64 N] 53 (0, 0)) := by rw [hX]; exact heap_set9 0 _ hcW
  have kX : Kept (fun k => k = sb) w X := by rw [hX]; exact kW.set sb 0 _ fun _ => rfl
  have hbX : X.heap[w.heap.size]? = W.heap[w.heap.size]? := by rw [hX]; exact Below.heap_setCell _ _ _ _ (by simp; omega)
  have r0 : X.cell? ⟨w.heap.size, 0, none⟩ = some (.string ⟨#[]⟩) := by rw [World.cell?_of_block (w := W) (a := ⟨w.heap.size, 0, none⟩) hbX, hW]; simp
  have r1 : X.cell? ⟨w.heap.size, 1, none⟩ = some (.int .i64 0) := by rw [World.cell?_of_block (w := W) (a := ⟨w.heap.size, 1, none⟩) hbX, hW]; simp
  have r2 : X.cell? ⟨w.heap.size, 2, none⟩ = some (.slice none 0 0) := by rw [World.cell?_of_block (w := W) (a := ⟨w.heap.size, 2, none⟩) hbX, hW]; simp
  have rf : ∀ o, X.frozen? ⟨w.heap.size, o, none⟩ = false := fun o => by rw [World.frozen?_of_block (w := W) (a := ⟨w.heap.size, o, none⟩) hbX, hW]; simp [go_sem]
  have HWE : Hid (w.alloc (.cells #[.string ⟨#[]⟩, .int .i64 0, .slice none 0 0] 25) = W) := hW.symm
  have HXE : Hid (W.setCell ⟨sb, 0, none⟩ (.int .i64 (fr + 1)) = X) := hX.symm
  have HR : Hid (True ∧ Kept (fun k => k = sb) w X) := ⟨trivial, kX⟩
  have HC : Hid (sb < w.heap.size ∧ X.heap[sb]? = some (.cells #[.int .i64 (fr + 1), .map mv, .int .i64 N] 53 (0, 0)) ∧ w.heap[sb]? = some (.cells #[.int .i64 fr, .map mv, .int .i64 N] 53 (0, 0))) := ⟨hlt, hcX, hc⟩
  have hn0 := hN.1
  have hn1 := hN.2
  clear hX hW hcW kW zW hcX kX hbX h hc
  go_enter Try.func20, Try.ntmps20
  go_upto_region 1 with fail
  rw [HWE.out]
  go_upto_region 5 with fail
  rw [HXE.out]
  clear c0 f0
  go_wp2_with fail
  refine bodyPost_ret (v := .agg #[.string (Em.str tVar), .int .i64 fr, .slice none 0 0]) (by simp [results, Try.results20, go_sem, r0, r1, r2]; try rfl) rfl ?_
  have K3 : Kept (fun k => k = sb) w (((X.setCell ⟨w.heap.size, 0, none⟩ (.string (Em.str tVar))).setCell ⟨w.heap.size, 1, none⟩ (.int .i64 fr)).setCell ⟨w.heap.size, 2, none⟩ (.slice none 0 0)) :=
    ((HR.out.2.set _ 0 _ fun h => absurd h (by omega)).set _ 1 _ fun h => absurd h (by omega)).set _ 2 _ fun h => absurd h (by omega)
  refine ⟨rfl, HS.out.fresh K3 fun mv' h' => ?_, K3⟩
  obtain ⟨g1, g2, g3⟩ := HC.out
  rw [g3] at h'
  simp only [Option.some.injEq, Obj.cells.injEq, Array.mk.injEq, List.cons.injEq, Value.map.injEq, true_and, and_true] at h'
  rw [Below.heap_setCell _ _ _ _ (by simp; omega), Below.heap_setCell _ _ _ _ (by simp; omega), Below.heap_setCell _ _ _ _ (by simp; omega), g2, h']
end Go.Proofs.Ytadhjnbhcenocaa

namespace Go.Proofs.Ytadhjnbhcenocaa
open Go.RowKit Go.Em8 Go.Em9
set_option linter.unusedSimpArgs false
set_option linter.unusedVariables false

set_option maxRecDepth 100000 in
set_option maxHeartbeats 1000000 in
theorem rtTc_any (op : ByteArray) (a : Option Addr) (n cap : Nat) (w : World) :
    Calls Try.prog 25 #[.string op, .slice a n cap] w fun e w' => e = .returned (.agg #[.string op, .int .i64 0, .slice a n cap]) ∧ Below w.heap.size w w' := by
  go_enter Try.func25, Try.ntmps25
  go_wp2
  refine bodyPost_ret (v := .agg #[.string op, .int .i64 0, .slice a n cap]) (by simp [results, Try.results25, go_sem]) rfl ⟨rfl, (Below.refl _ _).alloc (Nat.le_refl _) _⟩
theorem isTyP_leaf (P : Nat → Prop) (w : World) {op : List Int} {n : Int} (ho : Em5.Txt op) (hn : Em5.I64 n) : IsTyP P w (.mk op n []) (.agg #[.string (Em.str op), .int .i64 n, .slice none 0 0]) := by
  unfold IsTyP
  exact ⟨none, 0, rfl, ho, hn, by simp, by simp, by simp⟩
/-- A type of one kid, laid into new memory. -/
theorem isTyP_one {P : Nat → Prop} {w : World} {op : List Int} {x : Ty} {c0 c1 c2 : Value} (ho : Em5.Txt op) (hx : IsTyP P w x (.agg #[c0, c1, c2])) (hP : P w.heap.size) (t : TypeId) : IsTyP P (w.alloc (.cells #[c0, c1, c2] t)) (.mk op 0 [x]) (.agg #[.string (Em.str op), .int .i64 0, .slice (some ⟨w.heap.size, 0, none⟩) 1 1]) := by
  have hb : Below w.heap.size w (w.alloc (.cells #[c0, c1, c2] t)) := (Below.refl _ _).alloc (Nat.le_refl _) _
  unfold IsTyP
  refine ⟨_, 1, rfl, ho, by unfold Em5.I64; decide, by simp, by simp, fun _ => ⟨w.heap.size, 0, rfl, by simp, hP, ?_⟩⟩
  unfold TysAtP TysAtP
  exact ⟨⟨c0, c1, c2, by simp, by simp, by simp, isTyP_keep hb.size (fun k hp hl => ⟨hb.block k hl, hp⟩) _ _ hx⟩, trivial⟩
theorem isTyP_bel {P : Nat → Prop} {w w' : World} {t : Ty} {v : Value} (h : IsTyP P w t v) (hb : Below w.heap.size w w') : IsTyP P w' t v := isTyP_keep hb.size (fun k hp hl => ⟨hb.block k hl, hp⟩) _ _ h

def k9A : Ty := .mk tList 0 [tv 0]
def k9B : Ty := .mk tList 0 [.mk tInt 0 []]
theorem k9_teach : Em8.teach k9A = true ∧ Em8.teach k9B = true ∧ Em8.teach (tv 0) = true := by decide +kernel
theorem k9_size : k9A.size = 2 ∧ k9B.size = 2 := by decide +kernel
theorem k9_could : ∃ t, Fac t tv ∧ tsub t k9A = tsub t k9B := ⟨fun _ => .mk tInt 0 [], fun x => tsub_tv _ _, by
  unfold k9A k9B
  rw [tsub_else _ (by decide), tsub_else _ (by decide)]
  simp only [List.map_cons, List.map_nil]
  rw [tsub_tv, tsub_else _ (by decide)]; rfl⟩
theorem k9_then {d : Int → Ty} (hd : Fac d d) (h : ∀ t, Fac t d ↔ Fac t tv ∧ tsub t k9A = tsub t k9B) : tsub d (tv 0) = .mk tInt 0 [] := by
  have := ((h d).1 hd).2
  unfold k9A k9B at this
  rw [tsub_else d (by decide), tsub_else d (by decide)] at this
  simp only [List.map_cons, List.map_nil, Ty.mk.injEq, List.cons.injEq, and_true, true_and] at this
  rw [this, tsub_else d (by decide)]
  rfl

set_option maxRecDepth 100000 in
set_option maxHeartbeats 4000000 in
theorem known9_any (w : World) : Calls Try.prog 14 #[] w fun e w' => e = .returned (.bool true) ∧ Below w.heap.size w w' := by
  go_enter Try.func14, Try.ntmps14
  go_wp2_with fail
  refine (unew_any w).mono ?_
  rintro e w1 ⟨rfl, hb1, Mn, hU1, hMn⟩
  have HB1 : Hid (Below w.heap.size w w1) := hb1
  have HM : Hid (∀ k, Mn k → k = w.heap.size) := hMn
  have HFR := ufresh_any hU1 ⟨by omega, by omega⟩
  clear hb1 hMn hU1
  go_wp2_with fail
  refine HFR.mono ?_
  rintro e w2 ⟨rfl, hU2, hk2⟩
  have HU2 : Hid (Uf w2 w.heap.size (0 + 1) 0 Mn 0 tv fun _ => False) := hU2
  have HB2 : Hid (Below w.heap.size w w2 ∧ w.heap.size < w2.heap.size) := ⟨HB1.out.trans (hk2.below HB1.out.size fun b hb e => by omega), by have := hU2.lt hU2.mine; exact this⟩
  clear hk2 hU2 HFR HB1
  obtain ⟨X2, hX2⟩ : ∃ X, X = w2.alloc (.cells #[.string (Em.str tVar), .int .i64 0, .slice none 0 0] 25) := ⟨_, rfl⟩
  obtain ⟨X3, hX3⟩ : ∃ X, X = X2.alloc (.cells #[.string (Em.str tVar), .int .i64 0, .slice none 0 0] 25) := ⟨_, rfl⟩
  have bX2 : Below w2.heap.size w2 X2 := by rw [hX2]; exact (Below.refl _ _).alloc (Nat.le_refl _) _
  have zX2 : X2.heap.size = w2.heap.size + 1 := by rw [hX2]; simp
  have bX3 : Below X2.heap.size X2 X3 := by rw [hX3]; exact (Below.refl _ _).alloc (Nat.le_refl _) _
  have k0 : X2.cell? ⟨w2.heap.size, 0, none⟩ = some (.string (Em.str tVar)) := by rw [hX2]; simp
  have k1 : X2.cell? ⟨w2.heap.size, 1, none⟩ = some (.int .i64 0) := by rw [hX2]; simp
  have k2 : X2.cell? ⟨w2.heap.size, 2, none⟩ = some (.slice none 0 0) := by rw [hX2]; simp
  have HK : Hid (X2.cell? ⟨w2.heap.size, 0, none⟩ = some (.string (Em.str tVar)) ∧ X2.cell? ⟨w2.heap.size, 1, none⟩ = some (.int .i64 0) ∧ X2.cell? ⟨w2.heap.size, 2, none⟩ = some (.slice none 0 0)) := ⟨k0, k1, k2⟩
  have DA : Hid (IsTyP (fun k => ¬ Mn k) X3 k9A (.agg #[.string (Em.str tList), .int .i64 0, .slice (some ⟨X2.heap.size, 0, none⟩) 1 1])) := by
    rw [Hid, hX3]
    exact isTyP_one ⟨by decide, by decide⟩ (isTyP_leaf _ _ ⟨by decide, by decide⟩ (by unfold Em5.I64; decide)) (fun h => by have := HM.out _ h; have := HB2.out.2; omega) _
  have HX : Hid (Below w2.heap.size w2 X2 ∧ Below w2.heap.size w2 X3 ∧ Below X2.heap.size X2 X3 ∧ X2.heap.size = w2.heap.size + 1) := ⟨bX2, bX2.trans (bX3.mono bX2.size), bX3, zX2⟩
  have HX2 : Hid (w2.alloc (.cells #[.string (Em.str tVar), .int .i64 0, .slice none 0 0] 25) = X2) := hX2.symm
  have HX3 : Hid (X2.alloc (.cells #[.string (Em.str tVar), .int .i64 0, .slice none 0 0] 25) = X3) := hX3.symm
  have HZ : Hid (w2.heap.size + 1 = X2.heap.size) := zX2.symm
  clear hX2 hX3 bX2 bX3 zX2
  go_upto_region 5 with fail
  rw [HX2.out]
  go_wp2_with fail
  rw [HX3.out]
  refine (rtTc_any _ _ _ _ _).mono ?_
  rintro e w3 ⟨rfl, hb3⟩
  have HB3 : Hid (Below X3.heap.size X3 w3) := hb3
  clear hb3 k0 k1 k2
  go_wp2_with fail
  refine (rtTc_any _ _ _ _ _).mono ?_
  rintro e w4 ⟨rfl, hb4⟩
  have HB4 : Hid (Below w3.heap.size w3 w4) := hb4
  clear hb4
  obtain ⟨X4, hX4⟩ : ∃ X, X = w4.alloc (.cells #[.string ⟨#[105, 110, 116]⟩, .int .i64 0, .slice none 0 0] 25) := ⟨_, rfl⟩
  have HX4 : Hid (w4.alloc (.cells #[.string ⟨#[105, 110, 116]⟩, .int .i64 0, .slice none 0 0] 25) = X4) := hX4.symm
  have HY : Hid (Below X3.heap.size X3 w4) := HB3.out.trans (HB4.out.mono HB3.out.size)
  have DB : Hid (IsTyP (fun k => ¬ Mn k) X4 k9B (.agg #[.string (Em.str tList), .int .i64 0, .slice (some ⟨w4.heap.size, 0, none⟩) 1 1])) := by
    rw [Hid, hX4]
    exact isTyP_one ⟨by decide, by decide⟩ (isTyP_leaf _ _ ⟨by decide, by decide⟩ (by unfold Em5.I64; decide)) (fun h => by have := HM.out _ h; have := HB2.out.2; have := HX.out.2.1.size; have := HY.out.size; omega) _
  have HB5 : Hid (Below X3.heap.size X3 X4) := by
    rw [Hid, hX4]; exact HY.out.alloc HY.out.size _
  clear hX4
  go_wp2_with fail
  rw [HX4.out]
  refine (rtTc_any _ _ _ _ _).mono ?_
  rintro e w5 ⟨rfl, hb5⟩
  have HB6 : Hid (Below X3.heap.size X3 w5) := HB5.out.trans (hb5.mono HB5.out.size)
  have DB5 : Hid (IsTyP (fun k => ¬ Mn k) w5 k9B (.agg #[.string (Em.str tList), .int .i64 0, .slice (some ⟨w4.heap.size, 0, none⟩) 1 1])) := isTyP_bel DB.out hb5
  have DA5 : Hid (IsTyP (fun k => ¬ Mn k) w5 k9A (.agg #[.string (Em.str tList), .int .i64 0, .slice (some ⟨X2.heap.size, 0, none⟩) 1 1])) := isTyP_bel DA.out HB6.out
  have HU5 : Hid (Uf w5 w.heap.size (0 + 1) 0 Mn 0 tv fun _ => False) := HU2.out.below (HX.out.2.1.trans (HB6.out.mono HX.out.2.1.size))
  have HUN := uUnify_any HU5.out ⟨by omega, by omega⟩ k9_teach.1 k9_teach.2.1 (by rw [k9_size.1, k9_size.2]; decide) (.inl k9_could) DA5.out DB5.out
  clear hb5
  go_wp2_with fail
  refine HUN.mono ?_
  rintro e w6 ⟨hk6, ⟨rfl, Mn', d', hU6, hf6, -⟩ | ⟨rfl, hno⟩⟩
  · have HO := uOf_any (some w.heap.size) d' (tv 0) k9_teach.2.2 (.agg #[.string (Em.str tVar), .int .i64 0, .slice none 0 0]) w6 (isTyP_is _ _ (isTyP_leaf (fun _ => True) w6 ⟨by decide, by decide⟩ (by unfold Em5.I64; decide))) (hU6.ready (by rw [k9_size.1, k9_size.2]; decide))
    have HT : Hid (tsub d' (tv 0) = .mk tInt 0 []) := k9_then hU6.fac hf6
    have b6 : ∀ o, w6.cell? ⟨w2.heap.size, o, none⟩ = X2.cell? ⟨w2.heap.size, o, none⟩ := fun o => by
      have h1 := HX.out.2.2.2
      have h2 := HX.out.2.2.1.size
      have h3 := HB6.out.size
      rw [hk6.cell (by omega) (fun h => by have := HM.out _ h; have := HB2.out.2; omega) o, HB6.out.cell (p := ⟨w2.heap.size, o, none⟩) (by simp only; omega), HX.out.2.2.1.cell (p := ⟨w2.heap.size, o, none⟩) (by simp only; omega)]
    have k0 := (b6 0).trans HK.out.1
    have k1 := (b6 1).trans HK.out.2.1
    have k2 := (b6 2).trans HK.out.2.2
    have HB7 : Hid (Below w.heap.size w w6) := by
      have h1 := HX.out.2.1
      have b5 : Below w.heap.size w w5 := HB2.out.1.trans ((h1.trans (HB6.out.mono h1.size)).mono HB2.out.1.size)
      exact b5.trans (hk6.below b5.size fun b hb h => by have := HM.out _ h; omega)
    clear hk6 hU6 hf6 b6 HUN
    rw [ptr_some] at HO
    go_wp2_with fail
    refine HO.mono ?_
    rintro e w7 ⟨u, rfl, hu, hb7⟩
    rw [HT.out] at hu
    unfold IsTyP at hu
    obtain ⟨ua, uc, rfl, -⟩ := hu
    have HB8 : Hid (Below w.heap.size w w7) := HB7.out.trans (hb7.mono HB7.out.size)
    clear hb7 HO k0 k1 k2
    have hfd : Sem.run Try.prog (Instr.field 25 (.agg #[.string (Em.str tInt), .int .i64 0, .slice ua 0 uc]) 0) w7 = .ok (.string (Em.str tInt)) w7 := by kernel_rfl
    have hq : ((Em.str tInt).toList == [105, 110, 116]) = true := (Em5.str_eq (by decide) _).trans (by decide)
    go_wp2_with fail
    go_ret
    exact ⟨by first | rfl | simp, HB8.out⟩
  · obtain ⟨t, ht⟩ := k9_could
    exact absurd ht (hno t)
end Go.Proofs.Ytadhjnbhcenocaa

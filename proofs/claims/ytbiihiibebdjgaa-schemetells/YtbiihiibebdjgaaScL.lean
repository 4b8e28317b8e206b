/- slices.Backward over bounds; what stays where a loop's record is written (package scheme). -/
import Derived.Test.YtbiihiibebdjgaaScV
import Derived.Test.YtbiihiibebdjgaaRSchA
namespace Go.Proofs.Ytbiihiibebdjgaa
open Go.RowKit Go.Shelf Go.Em8
set_option linter.unusedSimpArgs false
set_option linter.unusedVariables false
attribute [local go_sem] Oper.semAt_some

/-- The j-th bound of a row, as a value. -/
def BdAt (w : World) (pa : Option Addr) (j : Nat) (x : Bd) (v : Value) : Prop :=
  ∃ b off va vk vc s n ka kl kc, pa = some ⟨b, off, none⟩ ∧ b < w.heap.size ∧ v = .agg #[.string (Em.str x.nm), .slice va vk vc, .string s, .int .i64 n, .slice ka kl kc] ∧ Em5.Txt x.nm ∧
    w.cell? ⟨b, off + j * 5, none⟩ = some (.string (Em.str x.nm)) ∧ w.cell? ⟨b, off + j * 5 + 1, none⟩ = some (.slice va vk vc) ∧ w.cell? ⟨b, off + j * 5 + 2, none⟩ = some (.string s) ∧ w.cell? ⟨b, off + j * 5 + 3, none⟩ = some (.int .i64 n) ∧ w.cell? ⟨b, off + j * 5 + 4, none⟩ = some (.slice ka kl kc) ∧
    IsInts w (.slice va vk vc) x.vs ∧ IsTy w x.ty (.agg #[.string s, .int .i64 n, .slice ka kl kc])
theorem BdAt.below {w w' : World} {pa : Option Addr} {j : Nat} {x : Bd} {v : Value} (h : BdAt w pa j x v) (hb : Below w.heap.size w w') : BdAt w' pa j x v := by
  obtain ⟨b, off, va, vk, vc, s, n, ka, kl, kc, e, hl, h1, h2, m0, m1, m2, m3, m4, g1, g2⟩ := h
  have key : ∀ o, w'.cell? ⟨b, o, none⟩ = w.cell? ⟨b, o, none⟩ := fun o => hb.cell (p := ⟨b, o, none⟩) hl
  exact ⟨b, off, va, vk, vc, s, n, ka, kl, kc, e, Nat.lt_of_lt_of_le hl hb.size, h1, h2, (key _).trans m0, (key _).trans m1, (key _).trans m2, (key _).trans m3, (key _).trans m4, g1.below hb, isTy_below hb _ _ g2⟩
theorem IsBds.nth {w : World} {pa : Option Addr} {k pc : Nat} {l : List Bd} (h : IsBds w (.slice pa k pc) l) {j : Nat} {x : Bd} (hj : l[j]? = some x) : ∃ v, BdAt w pa j x v := by
  obtain ⟨b, off, va, vk, vc, s, n, ka, kl, kc, e, -, -, -, hb, ht, m0, m1, m2, m3, m4, gV, gT⟩ := h.get hj
  exact ⟨_, b, off, va, vk, vc, s, n, ka, kl, kc, e, hb, rfl, ht, m0, m1, m2, m3, m4, gV, gT⟩
theorem IsBds.fn {w : World} {pa : Option Addr} {k pc : Nat} {l : List Bd} (h : IsBds w (.slice pa k pc) l) : ∃ f : Nat → Value, ∀ j x, l[j]? = some x → BdAt w pa j x (f j) := by
  have hk : ∀ j, ∃ v, ∀ x, l[j]? = some x → BdAt w pa j x v := fun j => by
    cases hj : l[j]? with
    | none => exact ⟨undef, by simp⟩
    | some y =>
      obtain ⟨v, hv⟩ := h.nth hj
      exact ⟨v, fun x e => by cases e; exact hv⟩
  exact ⟨fun j => (hk j).choose, fun j x hx => (hk j).choose_spec x hx⟩

theorem IsInts.putObj {W : World} {v : Value} {l : List Int} (h : IsInts W v l) {q : Nat} {o o' : Obj} (ho : W.heap[q]? = some o) (hn : o.isCells = false) : IsInts (W.putObj q o') v l := by
  obtain ⟨a, cap, rfl, h1, h2, h3, h4⟩ := h
  refine ⟨a, cap, rfl, h1, h2, h3, fun j t hj => ?_⟩
  obtain ⟨ad, rfl, hc⟩ := h4 j t hj
  exact ⟨ad, rfl, cell_putObj ho hn hc⟩
theorem isTyP_putObj {P : Nat → Prop} {W : World} {q : Nat} {o o' : Obj} (ho : W.heap[q]? = some o) (hn : o.isCells = false) : ∀ (t : Ty) (v : Value), IsTyP P W t v → IsTyP P (W.putObj q o') t v := by
  intro t
  induction t using Ty.ind with
  | h op n l ih =>
    intro v h
    unfold IsTyP at h ⊢
    obtain ⟨a, cap, h1, h2, h5, h7, h8, h9⟩ := h
    refine ⟨a, cap, h1, h2, h5, h7, h8, fun hp => ?_⟩
    obtain ⟨b, off, e, hlt, hP, hk⟩ := h9 hp
    refine ⟨b, off, e, by simpa [World.putObj] using hlt, hP, tysAtP_mk l off fun j t hj => ?_⟩
    obtain ⟨c0, c1, c2, k0, k1, k2, kn⟩ := tysAtP_get l off j t hk hj
    exact ⟨c0, c1, c2, cell_putObj ho hn k0, cell_putObj ho hn k1, cell_putObj ho hn k2, ih t (List.mem_of_getElem? hj) _ kn⟩

set_option maxRecDepth 100000 in
set_option maxHeartbeats 2000000 in
theorem sback_in (F : Fence) (n : Nat) (hF : F.fn 38) (hro : F.round = none) (hn : 1 ≤ n) (l bx c : Nat) (pa : Option Addr) (L : List Bd) (f : Nat → Value) (hlen : L.length ≤ 1000000) (J : Nat → World → Prop) (Jx : World → Prop)
    (hJ : ∀ k W, J k W → W.cell? ⟨bx, 0, none⟩ = some (.slice pa L.length c) ∧ ∀ j x, L[j]? = some x → BdAt W pa j x (f j))
    (hY : ∀ (j : Nat) (x : Bd) (W : World), L[j]? = some x → J (L.length - 1 - j) W → YieldAt F (n - 1) Try.prog l #[.int .i64 (j : Int), f j] W fun e W' => (e = .returned (.bool true) ∧ J (L.length - 1 - j + 1) W') ∨ (e = .returned (.bool false) ∧ Jx W'))
    (W : World) (h0 : J 0 W) : CallsIn F n Try.prog 38 #[.func (.yield l) #[] #[], .pointer (some ⟨bx, 0, none⟩)] W fun e W' => (∃ v, e = .returned v) ∧ (J L.length W' ∨ Jx W') := by
  refine callsIn_of_wp Try.func38 rfl hF ?_ hro
  simp only [Try.ntmps38, List.size_toArray, List.length_cons, List.length_nil, Nat.reduceAdd, Nat.reduceSub, Array.replicate_succ, Array.replicate_zero, List.push_toArray, List.append_toArray, List.nil_append, List.cons_append]
  have c0 := (hJ 0 W h0).1
  gi_wp2
  gi_loopw [3] (fun i wr => ∃ k : Nat, k ≤ L.length ∧ i = .int .i64 ((k : Int) - 1) ∧ J (L.length - k) wr) (fun i _ => (intOf i + 1).toNat)
  case atStart => exact ⟨L.length, Nat.le_refl _, by first | rfl | simp, by rw [Nat.sub_self]; exact h0⟩
  case round =>
    obtain ⟨k, hk, rfl, hJs⟩ := hrel
    cases k with
    | zero =>
      clear c0
      have e0 : ((0 : Nat) : Int) - 1 = -1 := by omega
      rw [e0]
      gi_wp2
      go_end0
      exact ⟨⟨_, rfl⟩, .inl (by simpa using hJs)⟩
    | succ j =>
      clear c0
      obtain ⟨x, hx⟩ : ∃ x, L[j]? = some x := ⟨_, List.getElem?_eq_getElem (by omega)⟩
      have e0 : ((j + 1 : Nat) : Int) - 1 = (j : Int) := by omega
      rw [e0]
      have e1 : L.length - (j + 1) = L.length - 1 - j := by omega
      rw [e1] at hJs
      obtain ⟨c1, c2⟩ := hJ _ wr hJs
      obtain ⟨b, off, va, vk, vc, s, tn, ka, kl, kc, rfl, -, hf, -, m0, m1, m2, m3, m4, -, -⟩ := c2 j x hx
      have j0 : (0 : Int) ≤ (j : Int) := by omega
      have j1 : (j : Int) < (L.length : Int) := by omega
      obtain ⟨fn, tmps, assign, body, hy, hR⟩ := hY j x wr hx hJs
      rw [hf] at hy
      clear c2 e0 e1 hf
      gi_wp2
      refine hR.mono ?_
      rintro e W3 (⟨rfl, hJ3⟩ | ⟨rfl, hJ3⟩)
      · have e2 : L.length - 1 - j + 1 = L.length - j := by omega
        rw [e2] at hJ3
        gi_wp2
        go_roundw
        case rel => exact ⟨j, by omega, by first | rfl | simp, hJ3⟩
        case measure => simp [intOf]
      · gi_wp2
        refine bodyPost_ret (results_none rfl _ _ _) rfl ?_
        exact ⟨⟨_, rfl⟩, .inr hJ3⟩
set_option maxRecDepth 100000 in
set_option maxHeartbeats 1000000 in
theorem sbackward_in (F : Fence) (n : Nat) (hF : F.fn 24) (hro : F.round = none) (a : Option Addr) (k c : Nat) (w : World) :
    CallsIn F n Try.prog 24 #[.slice a k c] w fun e w' => e = .returned (.func (.func 38) #[] #[.pointer (some ⟨w.heap.size, 0, none⟩)]) ∧ w' = w.alloc (.cells #[.slice a k c] 22) := by
  refine callsIn_of_wp Try.func24 rfl hF ?_ hro
  simp only [Try.ntmps24, List.size_toArray, List.length_cons, List.length_nil, Nat.reduceAdd, Nat.reduceSub, Array.replicate_succ, Array.replicate_zero, List.push_toArray, List.append_toArray, List.nil_append, List.cons_append]
  gi_wp2
  go_ret
  exact ⟨rfl, rfl⟩
end Go.Proofs.Ytbiihiibebdjgaa

/- slices.Backward over an attempt's joined terms: the function that it makes (package unify). -/
import Derived.Test.YtadhjnbhcenocaaUfU
namespace Go.Proofs.Ytadhjnbhcenocaa
open Go.RowKit Go.Shelf Go.Em8 Go.Em9
set_option linter.unusedSimpArgs false
set_option linter.unusedVariables false
attribute [local go_sem] Oper.semAt_some

set_option maxRecDepth 100000 in
set_option maxHeartbeats 2000000 in
theorem uback_in (F : Fence) (n : Nat) (hF : F.fn 44) (hro : F.round = none) (hn : 1 ≤ n) (l bx g c : Nat) (a : Option Addr) (L : List Nat) (ha : 0 < L.length → a = some ⟨g, 0, none⟩) (hlen : L.length ≤ 1000000) (J : Nat → World → Prop)
    (hJ : ∀ k W, J k W → W.cell? ⟨bx, 0, none⟩ = some (.slice a L.length c) ∧ ∀ j t, L[j]? = some t → W.cell? ⟨g, j, none⟩ = some (.pointer (some ⟨t, 0, none⟩)))
    (hY : ∀ (j : Nat) (t : Nat) (W : World), L[j]? = some t → J (L.length - 1 - j) W → YieldAt F (n - 1) Try.prog l #[.int .i64 (j : Int), .pointer (some ⟨t, 0, none⟩)] W fun e W' => e = .returned (.bool true) ∧ J (L.length - 1 - j + 1) W')
    (W : World) (h0 : J 0 W) : CallsIn F n Try.prog 44 #[.func (.yield l) #[] #[], .pointer (some ⟨bx, 0, none⟩)] W fun e W' => (∃ v, e = .returned v) ∧ J L.length W' := by
  refine callsIn_of_wp Try.func44 rfl hF ?_ hro
  simp only [Try.ntmps44, List.size_toArray, List.length_cons, List.length_nil, Nat.reduceAdd, Nat.reduceSub, Array.replicate_succ, Array.replicate_zero, List.push_toArray, List.append_toArray, List.nil_append, List.cons_append]
  have c0 := (hJ 0 W h0).1
  gi_wp2
  gi_loopw [3] (fun i wr => ∃ k : Nat, k ≤ L.length ∧ i = .int .i64 ((k : Int) - 1) ∧ J (L.length - k) wr) (fun i _ => (intOf i + 1).toNat)
  case atStart => exact ⟨L.length, Nat.le_refl _, by first | rfl | simp, by rw [Nat.sub_self]; exact h0⟩
  case round =>
    obtain ⟨k, hk, rfl, hJs⟩ := hrel
    cases k with
    | zero =>
      clear c0
      have e0 : ((0 : Nat) : Int) - 1 = -1 := by omega
      rw [e0]
      gi_wp2
      go_end0
      exact ⟨⟨_, rfl⟩, by simpa using hJs⟩
    | succ j =>
      clear c0
      obtain ⟨t, ht⟩ : ∃ t, L[j]? = some t := ⟨_, List.getElem?_eq_getElem (by omega)⟩
      have e0 : ((j + 1 : Nat) : Int) - 1 = (j : Int) := by omega
      rw [e0]
      have e1 : L.length - (j + 1) = L.length - 1 - j := by omega
      rw [e1] at hJs
      obtain ⟨c1, c2⟩ := hJ _ wr hJs
      have c3 := c2 j t ht
      have hal := ha (by omega)
      subst hal
      have j0 : (0 : Int) ≤ (j : Int) := by omega
      have j1 : (j : Int) < (L.length : Int) := by omega
      obtain ⟨fn, tmps, assign, body, hy, hR⟩ := hY j t wr ht hJs
      clear c2 e0 e1
      gi_wp2
      refine hR.mono ?_
      rintro e W3 ⟨rfl, hJ3⟩
      have e2 : L.length - 1 - j + 1 = L.length - j := by omega
      rw [e2] at hJ3
      gi_wp2
      go_roundw
      case rel => exact ⟨j, by omega, by first | rfl | simp, hJ3⟩
      case measure => simp [intOf]
end Go.Proofs.Ytadhjnbhcenocaa

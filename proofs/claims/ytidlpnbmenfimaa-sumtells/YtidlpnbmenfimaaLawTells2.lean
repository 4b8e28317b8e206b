/- SumTells: any bytes' sum and mark are the document's. No condition. -/
import Derived.Test.YtidlpnbmenfimaaKnown2
import Derived.Test.YtidlpnbmenfimaaRSum
import Derived.Test.YtidlpnbmenfimaaFrame
namespace Go.Proofs.Ytidlpnbmenfimaa
open Go.ChangeShapes Go.WideShapes Go.ChangeAt Go.RowKit
set_option linter.unusedVariables false

theorem flat1 (L : List Int) : List.flatten [L] = L := by simp

set_option maxRecDepth 100000 in
set_option maxHeartbeats 1000000 in
theorem walk_sumTells (w : World) (y : Value) (hy : ∃ L, Em.IsBytes w y L) :
    Calls Try.prog 3 #[y] w fun e w' => e = .returned (.bool true) ∧ Below w.heap.size w w' := by
  obtain ⟨L, hy⟩ := hy
  have hlen := hy.len
  have HY : Hid (∀ w', Below w.heap.size w w' → Em.IsBytes w' y L) := fun w' h => hy.below h
  obtain ⟨a, cap, rfl, hcap1, hcap2, hnil, hbd, hcells⟩ := id hy
  clear hcells hbd hnil hy
  by_cases h50 : 3000 < L.length
  · go_enter Try.func3, Try.ntmps3
    go_wp2_with fail
    go_ret
    exact ⟨rfl, Below.refl _ _⟩
  · go_enter Try.func3, Try.ntmps3
    go_wp2_with fail
    refine (adler_any _ _ _ (Em.rows_one _ 22 (by simp) (HY.out _ (Below.refl _ _)))).mono ?_
    rintro e w1 ⟨rfl, rfl⟩
    rw [flat1]
    have hb1 : Below w.heap.size w (w.alloc (.cells #[.slice a L.length cap] 22)) := (Below.refl _ _).alloc (Nat.le_refl _) _
    go_wp2_with fail
    refine (radler_any _ _ _ (HY.out _ hb1)).mono ?_
    rintro e w1 ⟨rfl, rfl⟩
    obtain ⟨A, hA⟩ : ∃ A, A = Em2.adler L := ⟨_, rfl⟩
    rw [← hA]
    clear hA
    go_wp2_with fail
    refine (mark_any _ _ _ (Em.rows_one _ 22 (by simp) (HY.out _ hb1))).mono ?_
    rintro e w1 ⟨rfl, rfl⟩
    rw [flat1]
    have hb2 := hb1.alloc (by simp) (.cells #[.slice a L.length cap] 22)
    go_wp2_with fail
    refine (rmark_any _ _ _ (HY.out _ hb2)).mono ?_
    rintro e w1 ⟨rfl, rfl⟩
    obtain ⟨M, hM⟩ : ∃ M, M = Em2.mark L := ⟨_, rfl⟩
    rw [← hM]
    clear hM
    go_wp2_with fail
    refine (known2_any _).mono ?_
    rintro e w6 ⟨rfl, hb6⟩
    have bel6 : Below w.heap.size w w6 := hb2.trans (hb6.mono hb2.size)
    clear hb6 hb1 hb2
    go_wp2_with fail
    go_ret
    exact ⟨rfl, bel6⟩

theorem sumTells_own : ownKnob Try.prog.godebug = none := by kernel_rfl
theorem sumTells_laidOut : laidOutB Try.prog = true := by kernel_rfl
set_option maxRecDepth 100000 in
theorem sumTells_lifted (os : Os) (started : os.Started) (H : Type) (enc : TypeId × Value → H) :
    ReturnsInHanded {} Try.checked os 3 .any (Rows.sumTellsSpec.pre6 enc Try.prog Try.f3 Rows.sumTellsRow.domain false) (Rows.sumTellsSpec.post enc Try.prog Try.f3 false true false false) := by
  refine returnsInHanded_of_change (C := Try.checked) sumTells_own started (by kernel_rfl) Try.func3
    (ChangeSpec.witness6 (enc := enc) (C := Try.checked) false ⟨#[], #[.slice none 0 0], []⟩ 8 (by kernel_rfl) (by kernel_rfl) (by kernel_rfl) (by kernel_rfl)) ?_
  intro W base args ds gs before hval0 hW hcnd _
  have hval : ∀ (j : Nat) t v, Try.f3.params[j]? = some t → args[j]? = some v → Value.okWide Try.prog W .any base t v := hval0
  have hW' := hW
  obtain ⟨p, q, hA0, hV, rfl, hfz, hnd⟩ := hW
  have hA : DataW.TrodAll enc Try.prog W 0 (fun _ => true) true Try.f3.params.toList args.toList ds p := hA0
  rw [Try.params3] at hA hval
  obtain ⟨v0, vs0, d0, ds0, p0, q0, hargs, rfl, rfl, h0, r0⟩ := trodAll_cons hA
  obtain ⟨rfl, rfl, rfl⟩ := trodAll_nil r0
  obtain rfl : args = #[v0] := by cases args; simp_all
  obtain ⟨rfl, rfl⟩ := trodVars_none hV
  have lt0 : ∀ x ∈ p0, x.block < W.heap.size := by obtain ⟨m, hm⟩ := h0; exact DataW.trod_lt m _ _ _ hm
  have o0 := Em.open_bytes (e := 5) Try.underlying22 Try.underlying5 (by kernel_rfl) (hval 0 22 v0 rfl rfl) h0
  clear hA0 hval0
  refine (walk_sumTells W v0 o0).mono fun e W' ⟨he, bel⟩ => ?_
  subst he
  exact ⟨_, rfl, _, _, _, [], _, [], hW', trodAll_mk1 (shut_bool Try.underlying4 _), (trodAll_cons_mk (Below.trod sumTells_laidOut (by kernel_rfl) (of_decide_eq_true (by kernel_rfl)) h0 bel lt0) trodAll_mk0), rfl, bel.frame _, fun h => by cases h⟩
theorem sumTells_holds : Rows.SumTellsSaid :=
  OpenClaim.holds_of_wide 3 Try.f3 rfl rfl rfl rfl rfl rfl rfl ⟨rfl, rfl, rfl, rfl, rfl⟩ rfl rfl rfl rfl rfl (by kernel_rfl) Try.func3 (by kernel_rfl)
    (of_decide_eq_true (by kernel_rfl)) (by unfold Func.isWrapper; first | (rw [if_pos (by decide +kernel)]; kernel_rfl) | (rw [if_neg (by decide +kernel)]; exact ⟨rfl, rfl⟩))
    (fun os started H enc _ => sumTells_lifted os started H enc)
#print axioms sumTells_holds
end Go.Proofs.Ytidlpnbmenfimaa

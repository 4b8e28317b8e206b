/- FrameGets: of any bytes Get answers what the document says. No condition. -/
import Derived.Test.YtecoopclaogoiaaRows
import Derived.Test.YtecoopclaogoiaaKnown3
import Derived.Test.YtecoopclaogoiaaFrame
namespace Go.Proofs.Ytecoopclaogoiaa
open Go.ChangeShapes Go.WideShapes Go.ChangeAt Go.RowKit
set_option linter.unusedVariables false

set_option maxRecDepth 100000 in
set_option maxHeartbeats 1000000 in
theorem walk_frameGets (w : World) (y : Value) (hy : ∃ L, Em.IsBytes w y L) :
    Calls Try.prog 4 #[y] w fun e w' => e = .returned (.bool true) ∧ Below w.heap.size w w' := by
  obtain ⟨L, hy⟩ := hy
  have hlen := hy.len
  have hbd := hy.bd
  have HY : Hid (∀ w', Below w.heap.size w w' → Em.IsBytes w' y L) := fun w' h => hy.below h
  obtain ⟨a, cap, rfl, -⟩ := hy
  by_cases h300 : 300 < L.length
  · go_enter Try.func4, Try.ntmps4
    go_wp2_with fail
    go_ret
    exact ⟨rfl, Below.refl _ _⟩
  have o1 : Own (w.alloc (.cells #[] 5)) w.heap.size (.slice (some ⟨w.heap.size, 0, none⟩) 0 0) [] := World.ownsRow_made w #[] 0 (Nat.le_refl _) (by simp [maxLen]) rfl
  have bel1 : Below w.heap.size w (w.alloc (.cells #[] 5)) := (Below.refl _ _).alloc (Nat.le_refl _) _
  have n1 := HY.out _ bel1
  go_enter Try.func4, Try.ntmps4
  go_wp2_with (at_builtin; refine wpList_app rfl (.tmp 15) (.tmp 16) rfl w.heap.size _ [] rfl o1 _ L rfl n1 (by simp; omega) bel1.size ?_; intro v2 w2 o2 _ hb2; have bel2 := bel1.trans hb2; rw [List.nil_append] at o2; clear o1 n1 hb2 bel1)
  refine (fget_any _ L _ (Em.IsBytes.own hbd o2)).mono ?_
  rintro e w3 ⟨hgot, hb3⟩
  have bel3 : Below w.heap.size w w3 := bel2.trans (hb3.mono bel2.size)
  clear o2 hb3 bel2 hbd
  cases hf : Em3.fget L with
  | none =>
    have HF : Hid (Em3.fget L = none) := hf
    rw [hf] at hgot
    clear hf
    simp only [FGot] at hgot
    subst hgot
    go_wp2_with fail
    refine (rfget_any _ L _ (HY.out _ bel3)).mono ?_
    rintro e w4 ⟨hgot, hb4⟩
    have bel4 : Below w.heap.size w w4 := bel3.trans (hb4.mono bel3.size)
    rw [HF.out] at hgot
    simp only [FGot] at hgot
    subst hgot
    clear hb4 bel3
    have hs := Em.run_str (P := Try.prog) 22 9 5 Try.underlying22 Try.underlying5 Try.underlying9 (Em.IsBytes.nil w4)
    have heq : ((Em.str []).toList == (Em.str []).toList) = true := by simp
    go_wp2_with fail
    refine (known3_any _).mono ?_
    rintro e w5 ⟨rfl, hb5⟩
    have bel5 : Below w.heap.size w w5 := bel4.trans (hb5.mono bel4.size)
    go_wp2_with fail
    go_ret
    exact ⟨rfl, bel5⟩
  | some p =>
    obtain ⟨k, B, n⟩ := p
    have HF : Hid (Em3.fget L = some (k, B, n)) := hf
    rw [hf] at hgot
    clear hf
    simp only [FGot] at hgot
    obtain ⟨v3, rfl, n3⟩ := hgot
    go_wp2_with fail
    refine (rfget_any _ L _ (HY.out _ bel3)).mono ?_
    rintro e w4 ⟨hgot, hb4⟩
    have bel4 : Below w.heap.size w w4 := bel3.trans (hb4.mono bel3.size)
    rw [HF.out] at hgot
    simp only [FGot] at hgot
    obtain ⟨v4, rfl, n4⟩ := hgot
    have hs3 := Em.run_str (P := Try.prog) 22 9 5 Try.underlying22 Try.underlying5 Try.underlying9 (n3.below hb4)
    have hs4 := Em.run_str (P := Try.prog) 22 9 5 Try.underlying22 Try.underlying5 Try.underlying9 n4
    have heq : ((Em.str B).toList == (Em.str B).toList) = true := by simp
    clear hb4 bel3 n3 n4
    go_wp2_with fail
    refine (known3_any _).mono ?_
    rintro e w5 ⟨rfl, hb5⟩
    have bel5 : Below w.heap.size w w5 := bel4.trans (hb5.mono bel4.size)
    go_wp2_with fail
    go_ret
    exact ⟨rfl, bel5⟩

theorem frameGets_own : ownKnob Try.prog.godebug = none := by kernel_rfl
theorem frameGets_laidOut : laidOutB Try.prog = true := by kernel_rfl
set_option maxRecDepth 100000 in
theorem frameGets_lifted (os : Os) (started : os.Started) (H : Type) (enc : TypeId × Value → H) :
    ReturnsInHanded {} Try.checked os 4 .any (Rows.frameGetsSpec.pre6 enc Try.prog Try.f4 Rows.frameGetsRow.domain false) (Rows.frameGetsSpec.post enc Try.prog Try.f4 false true false false) := by
  refine returnsInHanded_of_change (C := Try.checked) frameGets_own started (by kernel_rfl) Try.func4
    (ChangeSpec.witness6 (enc := enc) (C := Try.checked) false ⟨#[], #[.slice none 0 0], []⟩ 8 (by kernel_rfl) (by kernel_rfl) (by kernel_rfl) (by kernel_rfl)) ?_
  intro W base args ds gs before hval0 hW hcnd _
  have hval : ∀ (j : Nat) t v, Try.f4.params[j]? = some t → args[j]? = some v → Value.okWide Try.prog W .any base t v := hval0
  have hW' := hW
  obtain ⟨p, q, hA0, hV, rfl, hfz, hnd⟩ := hW
  have hA : DataW.TrodAll enc Try.prog W 0 (fun _ => true) true Try.f4.params.toList args.toList ds p := hA0
  rw [Try.params4] at hA hval
  obtain ⟨v0, vs0, d0, ds0, p0, q0, hargs, rfl, rfl, h0, r0⟩ := trodAll_cons hA
  obtain ⟨rfl, rfl, rfl⟩ := trodAll_nil r0
  obtain rfl : args = #[v0] := by cases args; simp_all
  obtain ⟨rfl, rfl⟩ := trodVars_none hV
  have lt0 : ∀ x ∈ p0, x.block < W.heap.size := by obtain ⟨m, hm⟩ := h0; exact DataW.trod_lt m _ _ _ hm
  have o0 := Em.open_bytes (e := 5) Try.underlying22 Try.underlying5 (by kernel_rfl) (hval 0 22 v0 rfl rfl) h0
  clear hA0 hval0
  refine (walk_frameGets W v0 o0).mono fun e W' ⟨he, bel⟩ => ?_
  subst he
  exact ⟨_, rfl, _, _, _, [], _, [], hW', trodAll_mk1 (shut_bool Try.underlying4 _), (trodAll_cons_mk (Below.trod frameGets_laidOut (by kernel_rfl) (of_decide_eq_true (by kernel_rfl)) h0 bel lt0) trodAll_mk0), rfl, bel.frame _, fun h => by cases h⟩
theorem frameGets_holds : Rows.FrameGetsSaid :=
  OpenClaim.holds_of_wide 4 Try.f4 rfl rfl rfl rfl rfl rfl rfl ⟨rfl, rfl, rfl, rfl, rfl⟩ rfl rfl rfl rfl rfl (by kernel_rfl) Try.func4 (by kernel_rfl)
    (of_decide_eq_true (by kernel_rfl)) (by unfold Func.isWrapper; first | (rw [if_pos (by decide +kernel)]; kernel_rfl) | (rw [if_neg (by decide +kernel)]; exact ⟨rfl, rfl⟩))
    (fun os started H enc _ => frameGets_lifted os started H enc)
#print axioms frameGets_holds
end Go.Proofs.Ytecoopclaogoiaa

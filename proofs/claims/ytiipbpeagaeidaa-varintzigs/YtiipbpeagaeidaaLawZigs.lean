/- VarintZigs: for every number Zig and Zag answer as the document does, each undoes the other, and small ones stay small. No condition. -/
import Derived.Test.YtiipbpeagaeidaaKnown
import Derived.Test.YtiipbpeagaeidaaFrame
namespace Go.Proofs.Ytiipbpeagaeidaa
open Go.ChangeShapes Go.WideShapes Go.ChangeAt Go.RowKit
set_option linter.unusedVariables false

theorem bne_self_int (a : Int) : (a != a) = false := by simp

set_option maxRecDepth 100000 in
set_option maxHeartbeats 1000000 in
theorem walk_varintZigs (w : World) (x y : Value) (hx : ∃ n, x = .int .i64 n ∧ (Lit.int .i64 n).wf = true) (hy : ∃ n, y = .int .u64 n ∧ (Lit.int .u64 n).wf = true) :
    Calls Try.prog 5 #[x, y] w fun e w' => e = .returned (.bool true) ∧ Below w.heap.size w w' := by
  obtain ⟨v, rfl, wv⟩ := hx
  obtain ⟨u, rfl, wu⟩ := hy
  have bv := bounds_i64 wv
  have bu := bounds_u64 wu
  clear wv wu
  obtain ⟨bv1, bv2⟩ := bv
  obtain ⟨bu1, bu2⟩ := bu
  have bz := Em1.zig_bd v bv1 bv2
  have ba := Em1.zag_bd u bu1 bu2
  have Hz := Em1.zag_zig v
  have Ha := Em1.zig_zag u bu1
  have Hs := Em1.zig_small v
  obtain ⟨z, hz⟩ : ∃ z, z = Em1.zig v := ⟨_, rfl⟩
  obtain ⟨a, ha⟩ : ∃ a, a = Em1.zag u := ⟨_, rfl⟩
  rw [← hz] at bz Hz Hs
  rw [← ha] at ba Ha
  have HZ : Hid (Em1.zag z = v) := Hz
  have HA : Hid (Em1.zig a = u) := Ha
  have HS : Hid (-1000 ≤ v → v ≤ 1000 → z ≤ 2000) := Hs
  have Ez : Hid (Em1.zig v = z) := hz.symm
  have Ea : Hid (Em1.zag u = a) := ha.symm
  clear Hz Ha Hs hz ha
  obtain ⟨bz1, bz2⟩ := bz
  obtain ⟨ba1, ba2⟩ := ba
  have nz := bne_self_int z
  have nv := bne_self_int v
  have na := bne_self_int a
  have nu := bne_self_int u
  go_enter Try.func5, Try.ntmps5
  go_wp2_with fail
  refine (zig_any v _ bv1 bv2).mono ?_
  rintro e w1 ⟨rfl, rfl⟩
  rw [Ez.out]
  go_wp2_with fail
  refine (rzig_any v _ bv1 bv2).mono ?_
  rintro e w2 ⟨rfl, rfl⟩
  rw [Ez.out]
  go_wp2_with fail
  refine (zag_any z _ bz1 bz2).mono ?_
  rintro e w2 ⟨rfl, rfl⟩
  rw [HZ.out]
  go_wp2_with fail
  refine (zag_any u _ bu1 bu2).mono ?_
  rintro e w2 ⟨rfl, rfl⟩
  rw [Ea.out]
  go_wp2_with fail
  refine (rzag_any u _ bu1 bu2).mono ?_
  rintro e w2 ⟨rfl, rfl⟩
  rw [Ea.out]
  go_wp2_with fail
  refine (zag_any u _ bu1 bu2).mono ?_
  rintro e w2 ⟨rfl, rfl⟩
  rw [Ea.out]
  go_wp2_with fail
  refine (zig_any a _ ba1 ba2).mono ?_
  rintro e w2 ⟨rfl, rfl⟩
  rw [HA.out]
  rcases (show v < -1000 ∨ (-1000 ≤ v ∧ 1000 < v) ∨ (-1000 ≤ v ∧ v ≤ 1000) from by omega) with hr | ⟨hr, hr'⟩ | ⟨hr, hr'⟩
  · go_wp2_with fail
    refine (known_any _).mono ?_
    rintro e w3 ⟨rfl, hb⟩
    go_wp2_with fail
    go_ret
    exact ⟨rfl, hb⟩
  · go_wp2_with fail
    refine (known_any _).mono ?_
    rintro e w3 ⟨rfl, hb⟩
    go_wp2_with fail
    go_ret
    exact ⟨rfl, hb⟩
  · have h2 := HS.out hr hr'
    go_wp2_with fail
    refine (known_any _).mono ?_
    rintro e w3 ⟨rfl, hb⟩
    go_wp2_with fail
    go_ret
    exact ⟨rfl, hb⟩

theorem varintZigs_own : ownKnob Try.prog.godebug = none := by kernel_rfl
theorem varintZigs_laidOut : laidOutB Try.prog = true := by kernel_rfl
set_option maxRecDepth 100000 in
theorem varintZigs_lifted (os : Os) (started : os.Started) (H : Type) (enc : TypeId × Value → H) :
    ReturnsInHanded {} Try.checked os 5 .any (Rows.varintZigsSpec.pre6 enc Try.prog Try.f5 Rows.varintZigsRow.domain false) (Rows.varintZigsSpec.post enc Try.prog Try.f5 false true false false) := by
  refine returnsInHanded_of_change (C := Try.checked) varintZigs_own started (by kernel_rfl) Try.func5
    (ChangeSpec.witness6 (enc := enc) (C := Try.checked) false ⟨#[], #[.int .i64 0, .int .u64 0], []⟩ 8 (by kernel_rfl) (by kernel_rfl) (by kernel_rfl) (by kernel_rfl)) ?_
  intro W base args ds gs before hval0 hW hcnd _
  have hval : ∀ (j : Nat) t v, Try.f5.params[j]? = some t → args[j]? = some v → Value.okWide Try.prog W .any base t v := hval0
  have hW' := hW
  obtain ⟨p, q, hA0, hV, rfl, hfz, hnd⟩ := hW
  have hA : DataW.TrodAll enc Try.prog W 0 (fun _ => true) true Try.f5.params.toList args.toList ds p := hA0
  rw [Try.params5] at hA hval
  obtain ⟨v0, vs0, d0, ds0, p0, q0, hargs, rfl, rfl, h0, r0⟩ := trodAll_cons hA
  obtain ⟨v1, vs1, d1, ds1, p1, q1, rfl, rfl, rfl, h1, r1⟩ := trodAll_cons r0
  obtain ⟨rfl, rfl, rfl⟩ := trodAll_nil r1
  obtain rfl : args = #[v0, v1] := by cases args; simp_all
  obtain ⟨rfl, rfl⟩ := trodVars_none hV
  have lt0 : ∀ x ∈ p0, x.block < W.heap.size := by obtain ⟨m, hm⟩ := h0; exact DataW.trod_lt m _ _ _ hm
  have o0 := Em.open_int Try.underlying2 (hval 0 2 v0 rfl rfl) h0
  have lt1 : ∀ x ∈ p1, x.block < W.heap.size := by obtain ⟨m, hm⟩ := h1; exact DataW.trod_lt m _ _ _ hm
  have o1 := Em.open_int Try.underlying22 (hval 1 22 v1 rfl rfl) h1
  clear hA0 hval0
  refine (walk_varintZigs W v0 v1 o0 o1).mono fun e W' ⟨he, bel⟩ => ?_
  subst he
  exact ⟨_, rfl, _, _, _, [], _, [], hW', trodAll_mk1 (shut_bool Try.underlying4 _), (trodAll_cons_mk (Below.trod varintZigs_laidOut (by kernel_rfl) (of_decide_eq_true (by kernel_rfl)) h0 bel lt0) (trodAll_cons_mk (Below.trod varintZigs_laidOut (by kernel_rfl) (of_decide_eq_true (by kernel_rfl)) h1 bel lt1) trodAll_mk0)), rfl, bel.frame _, fun h => by cases h⟩
theorem varintZigs_holds : Rows.VarintZigsSaid :=
  OpenClaim.holds_of_wide 5 Try.f5 rfl rfl rfl rfl rfl rfl rfl ⟨rfl, rfl, rfl, rfl, rfl⟩ rfl rfl rfl rfl rfl (by kernel_rfl) Try.func5 (by kernel_rfl)
    (of_decide_eq_true (by kernel_rfl)) (by unfold Func.isWrapper; first | (rw [if_pos (by decide +kernel)]; kernel_rfl) | (rw [if_neg (by decide +kernel)]; exact ⟨rfl, rfl⟩))
    (fun os started H enc _ => varintZigs_lifted os started H enc)
#print axioms varintZigs_holds
end Go.Proofs.Ytiipbpeagaeidaa

/- FramePuts: any body's frame is the document's, and is had back, whatever stands behind it. No condition. -/
import Derived.Test.YtecoopclaogoiaaRows
import Derived.Test.YtecoopclaogoiaaKnown3
import Derived.Test.YtecoopclaogoiaaFrame
namespace Go.Proofs.Ytecoopclaogoiaa
open Go.ChangeShapes Go.WideShapes Go.ChangeAt Go.RowKit
set_option linter.unusedVariables false

set_option maxRecDepth 100000 in
set_option maxHeartbeats 1000000 in
theorem walk_framePuts (w : World) (x y z : Value) (hx : ∃ n, x = .int .u8 n ∧ (Lit.int .u8 n).wf = true) (hy : ∃ L, Em.IsBytes w y L) (hz : ∃ L, Em.IsBytes w z L) :
    Calls Try.prog 3 #[x, y, z] w fun e w' => e = .returned (.bool true) ∧ Below w.heap.size w w' := by
  obtain ⟨k, rfl, wk⟩ := hx
  obtain ⟨hk0, hk1⟩ := bounds_u8 wk
  clear wk
  obtain ⟨B, hy⟩ := hy
  obtain ⟨M, hz⟩ := hz
  have hlen := hy.len
  have hlen2 := hz.len
  have hbd := hy.bd
  have hbd2 := hz.bd
  have HY : Hid (∀ w', Below w.heap.size w w' → Em.IsBytes w' y B) := fun w' h => hy.below h
  have HZ : Hid (∀ w', Below w.heap.size w w' → Em.IsBytes w' z M) := fun w' h => hz.below h
  obtain ⟨a, cap, rfl, -⟩ := hy
  obtain ⟨a', cap', rfl, -⟩ := hz
  by_cases h500 : 500 < B.length
  · go_enter Try.func3, Try.ntmps3
    go_wp2_with fail
    go_ret
    exact ⟨rfl, Below.refl _ _⟩
  by_cases h50 : 50 < M.length
  · go_enter Try.func3, Try.ntmps3
    go_wp2_with fail
    go_ret
    exact ⟨rfl, Below.refl _ _⟩
  have hfl := Em3.frm_len k B
  have hpl := Em1.put_len B.length
  have hfb := Em3.frm_bytes hk0 hk1 hbd (by omega)
  have HG : Hid (Em3.fget (Em3.frm k B ++ M) = some (k, B, (Em3.frm k B).length)) := Em3.fget_frm k B M (by omega)
  go_enter Try.func3, Try.ntmps3
  go_wp2_with fail
  refine (fput_any k _ B _ hk0 hk1 (HY.out _ (Below.refl _ _)) (by omega)).mono ?_
  rintro e w1 ⟨u1, rfl, hown1, hb1⟩
  go_wp2_with fail
  refine (rfput_any k _ B _ hk0 hk1 (HY.out _ hb1) (by omega)).mono ?_
  rintro e w2 ⟨u2, rfl, hown2, hb2⟩
  obtain ⟨F, hF⟩ : ∃ F, F = Em3.frm k B := ⟨_, rfl⟩
  rw [← hF] at hown1 hown2 HG hfl hfb
  have hf1 : 1 ≤ F.length := by omega
  have hf2 : F.length ≤ 1000 := by omega
  clear hF hfl hpl
  have bel2 : Below w.heap.size w w2 := hb1.trans (hb2.mono hb1.size)
  have n1 := (Em.IsBytes.own hfb hown1).below hb2
  have n2 := Em.IsBytes.own hfb hown2
  obtain ⟨g1, c1, rfl, -, -⟩ := Em.own_shape hown1 (by omega)
  have N1 : Hid (∀ w', Below w2.heap.size w2 w' → Em.IsBytes w' (.slice (some ⟨g1, 0, none⟩) F.length c1) F) := fun w' h => n1.below h
  have N2 : Hid (∀ w', Below w2.heap.size w2 w' → Em.IsBytes w' u2 F) := fun w' h => n2.below h
  clear hown1 hown2 hb1 hb2 n1 n2
  have o1 : Own (w2.alloc (.cells #[] 5)) w2.heap.size (.slice (some ⟨w2.heap.size, 0, none⟩) 0 0) [] := World.ownsRow_made w2 #[] 0 (Nat.le_refl _) (by simp [maxLen]) rfl
  have bel3 : Below w2.heap.size w2 (w2.alloc (.cells #[] 5)) := (Below.refl _ _).alloc (Nat.le_refl _) _
  have n3 := N1.out _ bel3
  go_wp2_with (first | (at_builtin; refine wpList_app rfl (.tmp 36) (.tmp 37) rfl w2.heap.size _ [] rfl o1 _ F rfl n3 (by simp; omega) bel3.size ?_; intro v4 w4 o4 _ hb4; have bel4 := bel3.trans hb4; rw [List.nil_append] at o4; clear o1 n3 hb4 bel3) | (at_builtin; refine wpList_app rfl (.tmp 38) (.tmp 39) rfl w2.heap.size _ F rfl o4 _ M rfl (HZ.out _ (bel2.trans (bel4.mono bel2.size))) (by omega) bel4.size ?_; intro v5 w5 o5 _ hb5; have bel5 := bel4.trans hb5; clear o4 hb5 bel4))
  refine (fget_any _ (F ++ M) _ (Em.IsBytes.own (by intro x hx; simp only [List.mem_append] at hx; rcases hx with hx | hx; exact hfb x hx; exact hbd2 x hx) o5)).mono ?_
  rintro e w6 ⟨hgot, hb6⟩
  have bel6 : Below w2.heap.size w2 w6 := bel5.trans (hb6.mono bel5.size)
  rw [HG.out] at hgot
  simp only [FGot] at hgot
  obtain ⟨v6, rfl, n6⟩ := hgot
  have bel7 : Below w.heap.size w w6 := bel2.trans (bel6.mono bel2.size)
  have hs1 := Em.run_str (P := Try.prog) 22 9 5 Try.underlying22 Try.underlying5 Try.underlying9 (N1.out _ bel6)
  have hs2 := Em.run_str (P := Try.prog) 22 9 5 Try.underlying22 Try.underlying5 Try.underlying9 (N2.out _ bel6)
  have hs3 := Em.run_str (P := Try.prog) 22 9 5 Try.underlying22 Try.underlying5 Try.underlying9 n6
  have hs4 := Em.run_str (P := Try.prog) 22 9 5 Try.underlying22 Try.underlying5 Try.underlying9 (HY.out _ bel7)
  have heq1 : ((Em.str F).toList == (Em.str F).toList) = true := by simp
  have heq2 : ((Em.str B).toList == (Em.str B).toList) = true := by simp
  clear o5 hb6 n6 bel5 bel6 hbd hbd2 hfb
  go_wp2_with fail
  refine (known3_any _).mono ?_
  rintro e w8 ⟨rfl, hb8⟩
  have bel8 : Below w.heap.size w w8 := bel7.trans (hb8.mono bel7.size)
  go_wp2_with fail
  go_ret
  exact ⟨rfl, bel8⟩

theorem framePuts_own : ownKnob Try.prog.godebug = none := by kernel_rfl
theorem framePuts_laidOut : laidOutB Try.prog = true := by kernel_rfl
set_option maxRecDepth 100000 in
theorem framePuts_lifted (os : Os) (started : os.Started) (H : Type) (enc : TypeId × Value → H) :
    ReturnsInHanded {} Try.checked os 3 .any (Rows.framePutsSpec.pre6 enc Try.prog Try.f3 Rows.framePutsRow.domain false) (Rows.framePutsSpec.post enc Try.prog Try.f3 false true false false) := by
  refine returnsInHanded_of_change (C := Try.checked) framePuts_own started (by kernel_rfl) Try.func3
    (ChangeSpec.witness6 (enc := enc) (C := Try.checked) false ⟨#[], #[.int .u8 0, .slice none 0 0, .slice none 0 0], []⟩ 8 (by kernel_rfl) (by kernel_rfl) (by kernel_rfl) (by kernel_rfl)) ?_
  intro W base args ds gs before hval0 hW hcnd _
  have hval : ∀ (j : Nat) t v, Try.f3.params[j]? = some t → args[j]? = some v → Value.okWide Try.prog W .any base t v := hval0
  have hW' := hW
  obtain ⟨p, q, hA0, hV, rfl, hfz, hnd⟩ := hW
  have hA : DataW.TrodAll enc Try.prog W 0 (fun _ => true) true Try.f3.params.toList args.toList ds p := hA0
  rw [Try.params3] at hA hval
  obtain ⟨v0, vs0, d0, ds0, p0, q0, hargs, rfl, rfl, h0, r0⟩ := trodAll_cons hA
  obtain ⟨v1, vs1, d1, ds1, p1, q1, rfl, rfl, rfl, h1, r1⟩ := trodAll_cons r0
  obtain ⟨v2, vs2, d2, ds2, p2, q2, rfl, rfl, rfl, h2, r2⟩ := trodAll_cons r1
  obtain ⟨rfl, rfl, rfl⟩ := trodAll_nil r2
  obtain rfl : args = #[v0, v1, v2] := by cases args; simp_all
  obtain ⟨rfl, rfl⟩ := trodVars_none hV
  have lt0 : ∀ x ∈ p0, x.block < W.heap.size := by obtain ⟨m, hm⟩ := h0; exact DataW.trod_lt m _ _ _ hm
  have o0 := Em.open_int Try.underlying5 (hval 0 5 v0 rfl rfl) h0
  have lt1 : ∀ x ∈ p1, x.block < W.heap.size := by obtain ⟨m, hm⟩ := h1; exact DataW.trod_lt m _ _ _ hm
  have o1 := Em.open_bytes (e := 5) Try.underlying22 Try.underlying5 (by kernel_rfl) (hval 1 22 v1 rfl rfl) h1
  have lt2 : ∀ x ∈ p2, x.block < W.heap.size := by obtain ⟨m, hm⟩ := h2; exact DataW.trod_lt m _ _ _ hm
  have o2 := Em.open_bytes (e := 5) Try.underlying22 Try.underlying5 (by kernel_rfl) (hval 2 22 v2 rfl rfl) h2
  clear hA0 hval0
  refine (walk_framePuts W v0 v1 v2 o0 o1 o2).mono fun e W' ⟨he, bel⟩ => ?_
  subst he
  exact ⟨_, rfl, _, _, _, [], _, [], hW', trodAll_mk1 (shut_bool Try.underlying4 _), (trodAll_cons_mk (Below.trod framePuts_laidOut (by kernel_rfl) (of_decide_eq_true (by kernel_rfl)) h0 bel lt0) (trodAll_cons_mk (Below.trod framePuts_laidOut (by kernel_rfl) (of_decide_eq_true (by kernel_rfl)) h1 bel lt1) (trodAll_cons_mk (Below.trod framePuts_laidOut (by kernel_rfl) (of_decide_eq_true (by kernel_rfl)) h2 bel lt2) trodAll_mk0))), rfl, bel.frame _, fun h => by cases h⟩
theorem framePuts_holds : Rows.FramePutsSaid :=
  OpenClaim.holds_of_wide 3 Try.f3 rfl rfl rfl rfl rfl rfl rfl ⟨rfl, rfl, rfl, rfl, rfl⟩ rfl rfl rfl rfl rfl (by kernel_rfl) Try.func3 (by kernel_rfl)
    (of_decide_eq_true (by kernel_rfl)) (by unfold Func.isWrapper; first | (rw [if_pos (by decide +kernel)]; kernel_rfl) | (rw [if_neg (by decide +kernel)]; exact ⟨rfl, rfl⟩))
    (fun os started H enc _ => framePuts_lifted os started H enc)
#print axioms framePuts_holds
end Go.Proofs.Ytecoopclaogoiaa

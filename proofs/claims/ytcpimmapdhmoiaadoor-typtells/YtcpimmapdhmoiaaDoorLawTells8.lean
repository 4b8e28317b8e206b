/- TypTells: of a type of at most 300 nodes the program answers as the document does whether it is one, and if it is: its vars, what it is normed, its text, whether it is sent. No condition but that the tables that the program reads hold what their initialisers lay, to which the card ties them. -/
import Derived.Test.YtcpimmapdhmoiaaDoorRows
import Derived.Test.YtcpimmapdhmoiaaDoorCards
import Derived.Test.YtcpimmapdhmoiaaDoorTie
import Derived.Test.YtcpimmapdhmoiaaDoorLaid8
import Derived.Test.YtcpimmapdhmoiaaDoorKnown8
import Derived.Test.YtcpimmapdhmoiaaDoorRTypW
import Derived.Test.YtcpimmapdhmoiaaDoorFrame
import Derived.Test.YtcpimmapdhmoiaaDoorFrame2
import Derived.Test.YtcpimmapdhmoiaaDoorFrameT
import Derived.Deep.RegionHeld
namespace Go.Proofs.YtcpimmapdhmoiaaDoor
open Go.ChangeShapes Go.WideShapes Go.ChangeAt Go.RowKit Go.Em8
set_option linter.unusedVariables false
set_option linter.unusedSimpArgs false

set_option maxRecDepth 100000 in
set_option maxHeartbeats 8000000 in
theorem walk_typTells (w : World) (u : Value) (hu : ∃ T, IsTy w T u) (hp : IsPow w) :
    Calls Tryd.prog 3 #[u] w fun e w' => e = .returned (.bool true) ∧ Below w.heap.size w w' := by
  obtain ⟨T, hu⟩ := hu
  have HPA : Hid (∀ w', Below w.heap.size w w' → IsPow w') := fun w' h => hp.below h
  have HU : Hid (∀ w', Below w.heap.size w w' → IsTy w' T u) := fun w' h => isTy_below h _ _ hu
  obtain ⟨op, n, a, k, cap, rfl⟩ := isTyP_form (isTy_isP _ _ hu)
  obtain ⟨W, hW⟩ : ∃ W, W = w.alloc (.cells #[.string op, .int .i64 n, .slice a k cap] 24) := ⟨_, rfl⟩
  have hbW : Below w.heap.size w W := by rw [hW]; exact (Below.refl _ _).alloc (Nat.le_refl _) _
  have h3 : Tri W w.heap.size (.string op) (.int .i64 n) (.slice a k cap) := by rw [hW]; exact Tri.made _ _ _ _ _
  have H3 : Hid (∀ w', Below W.heap.size W w' → Tri w' w.heap.size (.string op) (.int .i64 n) (.slice a k cap)) := fun w' h => h3.below h
  have HW : Hid (Below w.heap.size w W) := hbW
  have HWE : Hid (w.alloc (.cells #[.string op, .int .i64 n, .slice a k cap] 24) = W) := hW.symm
  obtain ⟨k0, k1, k2⟩ := h3
  clear hW hbW hp hu
  go_enter Tryd.func3, Tryd.ntmps3
  go_upto_region 1 with fail
  rw [HWE.out]
  clear HWE
  go_wp2_with fail
  refine (ylong_any T _ _ (HU.out _ HW.out)).mono ?_
  rintro e w1 ⟨rfl, hb1⟩
  have hbw1 : Below w.heap.size w w1 := HW.out.trans (hb1.mono HW.out.size)
  clear k0 k1 k2
  by_cases h300 : 300 < T.size
  · rw [decide_eq_true h300]
    clear h300
    go_wp2_with fail
    go_ret
    exact ⟨rfl, hbw1⟩
  rw [decide_eq_false h300]
  have HS3 : Hid (T.size ≤ 1000000) := by rw [Hid]; omega
  clear h300
  obtain ⟨k0, k1, k2⟩ := H3.out _ hb1
  go_wp2_with fail
  refine (rtIs_any T _ _ (HU.out _ hbw1)).mono ?_
  rintro e w2 ⟨rfl, hb2⟩
  have hb2' : Below W.heap.size W w2 := hb1.trans (hb2.mono hb1.size)
  have hbw2 : Below w.heap.size w w2 := HW.out.trans (hb2'.mono HW.out.size)
  clear k0 k1 k2 hb1 hbw1 hb2
  have HB2 : Hid (Below w.heap.size w w2) := hbw2
  have HX : Hid (Below W.heap.size W w2) := hb2'
  cases hi : isTy T with
  | false =>
    have HI : Hid (isTy T = false) := hi
    clear hi
    obtain ⟨k0, k1, k2⟩ := H3.out _ hb2'
    go_wp2_with fail
    refine (yIs_any T _ _ (HU.out _ hbw2)).mono ?_
    rintro e w3 ⟨rfl, hb3⟩
    rw [HI.out]
    have hbw3 : Below w.heap.size w w3 := hbw2.trans (hb3.mono hbw2.size)
    clear k0 k1 k2 hb3 hbw2 hb2'
    go_wp2_with fail
    refine (known8_any _ (HPA.out _ hbw3)).mono ?_
    rintro e w4 ⟨rfl, hb4⟩
    have hbw4 : Below w.heap.size w w4 := hbw3.trans (hb4.mono hbw3.size)
    clear hb4 hbw3
    go_wp2_with fail
    go_ret
    exact ⟨rfl, hbw4⟩
  | true =>
  have HI : Hid (isTy T = true) := hi
  have HE : Hid (teach T = true) := by
    unfold isTy at hi
    simp only [Bool.and_eq_true] at hi
    exact hi.2
  have HSM : Hid (tsame (tnorm T) (tnorm T) = true) := (tsame_iff _ _).2 rfl
  obtain ⟨zz, hzz⟩ : ∃ zz, zz = tsent T := ⟨_, rfl⟩
  have HQ : Hid (tsent T = zz) := hzz.symm
  have HS : Hid (∀ w', Below w2.heap.size w2 w' → w'.cell? ⟨w.heap.size, 0, none⟩ = some (.string op) ∧ w'.cell? ⟨w.heap.size, 1, none⟩ = some (.int .i64 n) ∧ w'.cell? ⟨w.heap.size, 2, none⟩ = some (.slice a k cap)) := fun w' h => by
    obtain ⟨e0, e1, e2⟩ := (H3.out _ HX.out).below h
    exact ⟨e0, e1, e2⟩
  have HD : Hid (∀ w', Below w2.heap.size w2 w' → IsTy w' T (.agg #[.string op, .int .i64 n, .slice a k cap])) := fun w' h => HU.out _ (HB2.out.trans (h.mono HB2.out.size))
  have HPB : Hid (∀ w', Below w2.heap.size w2 w' → IsPow w') := fun w' h => HPA.out _ (HB2.out.trans (h.mono HB2.out.size))
  have b0 : Below w2.heap.size w2 w2.drew := (Below.refl _ _).drew
  clear hb2' hbw2 hi hzz
  cases zz
  all_goals
    go_wp2_with fail
    go_region_held (fun w' => w'.cell? ⟨w.heap.size, 0, none⟩ = some (.string op) ∧ w'.cell? ⟨w.heap.size, 1, none⟩ = some (.int .i64 n) ∧ w'.cell? ⟨w.heap.size, 2, none⟩ = some (.slice a k cap))
      (with_reducible (first | exact HS.out _ b12 | exact HS.out _ b11 | exact HS.out _ b10 | exact HS.out _ b9 | exact HS.out _ b8 | exact HS.out _ b7 | exact HS.out _ b6 | exact HS.out _ b5 | exact HS.out _ b4 | exact HS.out _ b3 | exact HS.out _ b2 | exact HS.out _ b1 | exact HS.out _ b0))
      (first
        | (go_at_call 10; refine (yIs_any T _ _ (HD.out _ b0)).mono ?_; rintro e x1 ⟨rfl, hc⟩; rw [HI.out]; have b1 := b0.trans (hc.mono b0.size); clear hc)
        | (go_at_call 13; refine (yVars_any T _ _ (HD.out _ b1) HS3.out).mono ?_; rintro e x2 ⟨u2, rfl, ho2, hi2, hc⟩; obtain ⟨a2, c2, rfl⟩ := ho2.form; have O2 : Hid (IsInts x2 (.slice a2 (tvars T []).length c2) (tvars T [])) := ho2.is hi2; have b2 := b1.trans (hc.mono b1.size); clear hc ho2 hi2)
        | (go_at_call 14; refine (rtVars_any T _ _ (HD.out _ b2) HS3.out).mono ?_; rintro e x3 ⟨u3, rfl, ho3, hi3, hc⟩; obtain ⟨a3, c3, rfl⟩ := ho3.form; have O3 : Hid (IsInts x3 (.slice a3 (tvars T []).length c3) (tvars T [])) := ho3.is hi3; have O23 : Hid (IsInts x3 (.slice a2 (tvars T []).length c2) (tvars T [])) := O2.out.below hc; have b3 := b2.trans (hc.mono b2.size); clear hc ho3 hi3)
        | (go_at_call 12; refine (yints_any (tvars T []) _ _ _ O23.out O3.out).mono ?_; rintro e x4 ⟨rfl, hc⟩; have b4 := b3.trans (hc.mono b3.size); clear hc)
        | (go_at_call 16; refine (yNorm_any T _ _ (HD.out _ b4) HE.out HS3.out).mono ?_; rintro e x5 ⟨u5, rfl, ho5, hc⟩; obtain ⟨y0, y1, ya, yk, yc, rfl⟩ := isTyP_form ho5; have O5 : Hid (IsTy x5 (tnorm T) (.agg #[.string y0, .int .i64 y1, .slice ya yk yc])) := isTyP_is _ _ ho5; have b5 := b4.trans (hc.mono b4.size); clear hc ho5)
        | (go_at_call 17; refine (rtNorm_any T _ _ (HD.out _ b5) HS3.out).mono ?_; rintro e x6 ⟨u6, rfl, ho6, hc⟩; obtain ⟨z0, z1, za, zk, zc, rfl⟩ := isTyP_form ho6; have O6 : Hid (IsTy x6 (tnorm T) (.agg #[.string z0, .int .i64 z1, .slice za zk zc])) := isTyP_is _ _ ho6; have O56 : Hid (IsTy x6 (tnorm T) (.agg #[.string y0, .int .i64 y1, .slice ya yk yc])) := isTy_below hc _ _ O5.out; have b6 := b5.trans (hc.mono b5.size); clear hc ho6)
        | (go_at_call 15; refine (rtSame_any (tnorm T) (tnorm T) _ _ _ O56.out O6.out).mono ?_; rintro e x7 ⟨rfl, hc⟩; rw [HSM.out]; have b7 := b6.trans (hc.mono b6.size); clear hc)
        | (go_at_call 18; refine (yShow_any T _ _ (HD.out _ b7) HE.out HS3.out (HPB.out _ b7)).mono ?_; rintro e x8 ⟨rfl, hc⟩; have b8 := b7.trans (hc.mono b7.size); clear hc)
        | (go_at_call 19; refine (rtShow_any T _ _ (HD.out _ b8) HE.out HS3.out).mono ?_; rintro e x9 ⟨rfl, hc⟩; have b9 := b8.trans (hc.mono b8.size); clear hc)
        | (go_at_call 20; refine (ySent_any T _ _ (HD.out _ b9)).mono ?_; rintro e x10 ⟨rfl, hc⟩; rw [HQ.out]; have b10 := b9.trans (hc.mono b9.size); clear hc)
        | (go_at_call 21; refine (rtSent_any T _ _ (HD.out _ b10)).mono ?_; rintro e x11 ⟨rfl, hc⟩; rw [HQ.out]; have b11 := b10.trans (hc.mono b10.size); clear hc)
        | (go_at_call 11; refine (known8_any _ (HPB.out _ b11)).mono ?_; rintro e x12 ⟨rfl, hc⟩; have b12 := b11.trans (hc.mono b11.size); clear hc))
    all_goals
      go_wp2_with fail
      go_ret
      exact ⟨rfl, HB2.out.trans (b12.mono HB2.out.size)⟩

theorem typTells_own : ownKnob Tryd.prog.godebug = none := by kernel_rfl
theorem typTells_laidOut : laidOutB Tryd.prog = true := by kernel_rfl
theorem typTells_met (os : Os) : laidMet Tryd.prog Rows.typTellsRow.laid ((laidWorld os).forCall (fun _ _ => 0) ⟨#[], #[.agg #[.string ByteArray.empty, .int .i64 0, .slice none 0 0]], []⟩).memory :=
  laidMet_of_run' 8 (by kernel_rfl) (by kernel_rfl)
theorem typTells_reads (os : Os) {H : Type} (enc : TypeId × Value → H) : ∃ places, DataW.whole enc Tryd.prog ((laidWorld os).forCall (fun _ _ => 0) ⟨#[], #[.agg #[.string ByteArray.empty, .int .i64 0, .slice none 0 0]], []⟩).memory Tryd.f3.params.toList Rows.typTellsSpec.vars false (#[.agg #[.string ByteArray.empty, .int .i64 0, .slice none 0 0]] : Array Value).toList 8 = some ([.agg [.lit (.string []), .lit (.int .i64 0), .nil]], [], places) :=
  ⟨[], by kernel_rfl⟩
set_option maxRecDepth 100000 in
theorem typTells_lifted (os : Os) (started : os.Started) (H : Type) (enc : TypeId × Value → H) (F : Stop.Interp) :
    ReturnsInHanded {} Tryd.checked os 3 .any ((OpenSpec.ofChange Rows.typTellsSpec).preRow enc Tryd.prog Tryd.f3 Rows.typTellsRow.domain false Rows.typTellsRow.laid) (((OpenSpec.ofChange Rows.typTellsSpec).at F).post enc Tryd.prog Tryd.f3 false true false false) := by
  obtain ⟨places, hx⟩ := typTells_reads os enc
  refine returnsInHanded_of_row (C := Tryd.checked) (s := OpenSpec.ofChange Rows.typTellsSpec) typTells_own started (by kernel_rfl) Tryd.func3
    (witness_row_at (enc := enc) (C := Tryd.checked) false (laidWorld os) #[.agg #[.string ByteArray.empty, .int .i64 0, .slice none 0 0]] rfl (by kernel_rfl) (by kernel_rfl) (by kernel_rfl)
      (OpenSpec.preRow_of_cond 8 hx (by kernel_rfl) (fun k hk => by cases hk) (by kernel_rfl) (typTells_met os))) ?_
  intro W base args ds gs before hval0 hW _ _ hsz0 hL _ _
  have hfact := laid_of_row hL
  have hval : ∀ (j : Nat) t v, Tryd.f3.params[j]? = some t → args[j]? = some v → Value.okWide Tryd.prog W .any base t v := hval0
  have hW' := hW
  obtain ⟨p, q, hA0, hV, rfl, hfz, hnd⟩ := hW
  have hA : DataW.TrodAll enc Tryd.prog W 0 (fun _ => true) true Tryd.f3.params.toList args.toList ds p := hA0
  have hsz : (DataW.weightsEach Tryd.prog (Tryd.f3.params.toList ++ Rows.typTellsSpec.plain.varTypes Tryd.prog) (ds ++ gs)).all (· ≤ reachBytes) = true := hsz0
  rw [Tryd.params3] at hA hval hsz
  obtain ⟨v0, vs0, d0, ds0, p0, q0, hargs, rfl, rfl, h0, r0⟩ := trodAll_cons hA
  obtain ⟨rfl, rfl, rfl⟩ := trodAll_nil r0
  obtain rfl : args = #[v0] := by cases args; simp_all
  obtain ⟨rfl, rfl⟩ := trodVars_none hV
  have lt0 : ∀ x ∈ p0, x.block < W.heap.size := by obtain ⟨m, hm⟩ := h0; exact DataW.trod_lt m _ _ _ hm
  have o0 := open_ty (hval 0 24 v0 rfl rfl) h0 (Em.sized_arg hsz 0 rfl rfl)
  clear hA0 hval0 hsz0 hsz
  refine (walk_typTells W v0 o0 hfact).mono fun e W' ⟨he, bel⟩ => ?_
  subst he
  exact ⟨_, rfl, _, _, _, [], _, [], hW', trodAll_mk1 (shut_bool Tryd.underlying4 _), (trodAll_cons_mk (Below.trod typTells_laidOut (by kernel_rfl) (of_decide_eq_true (by kernel_rfl)) h0 bel lt0) trodAll_mk0), rfl, bel.frame _, fun h => by cases h⟩
theorem typTells_said : Rows.TypTellsSaid :=
  OpenClaim.holds_of_cond 3 Tryd.f3 rfl rfl rfl rfl rfl rfl rfl ⟨rfl, rfl, rfl, rfl, rfl⟩ rfl rfl rfl rfl rfl (by kernel_rfl) Tryd.func3 (by kernel_rfl)
    (of_decide_eq_true (by kernel_rfl)) (by unfold Func.isWrapper; first | (rw [if_pos (by decide +kernel)]; kernel_rfl) | (rw [if_neg (by decide +kernel)]; exact ⟨rfl, rfl⟩))
    (fun os started H enc _ F => by rw [OpenClaim.pre_eq_preRow]; exact typTells_lifted os started H enc F)
theorem typTells_plain (f : FuncId) (fn : Func) (hf : Tryd.pinned.checked.prog.funcNamed "emissary/emissarylaw8.TypTells" = some f) (hfn : Tryd.pinned.checked.prog.funcs[f]? = some fn) :
    false = Tryd.pinned.checked.prog.looks [] ∧ ∀ (j : Nat) t, fn.params[j]? = some t → Tryd.pinned.checked.prog.wantsStandIn t = false := by
  obtain rfl : f = 3 := Option.some.inj ((show Tryd.prog.funcNamed "emissary/emissarylaw8.TypTells" = some 3 by kernel_rfl).symm.trans hf) |>.symm
  obtain rfl : fn = Tryd.f3 := (Option.some.inj (Tryd.func3.symm.trans hfn)).symm
  refine ⟨by kernel_rfl, fun j t ht => ?_⟩
  rw [Tryd.params3] at ht
  have hm : t ∈ ([24] : List Nat) := by simpa using Array.mem_of_getElem? ht
  have hall : (([24] : List Nat).all fun u => !Tryd.prog.wantsStandIn u) = true := by kernel_rfl
  exact (show Tryd.prog.wantsStandIn t = false by simpa using List.all_eq_true.1 hall t hm)
theorem typTells_holds : Rows.TypTellsCardSaid :=
  Claim7.holds_tied_plain_at .later [] _ _ _ _ typTells_said (fun _ h => by cases h) (by kernel_rfl) (fun _ h => by cases h) typTells_row_tie rfl ⟨rfl, rfl⟩ (by kernel_rfl) rfl typTells_plain (by kernel_rfl)
#print axioms typTells_holds
end Go.Proofs.YtcpimmapdhmoiaaDoor

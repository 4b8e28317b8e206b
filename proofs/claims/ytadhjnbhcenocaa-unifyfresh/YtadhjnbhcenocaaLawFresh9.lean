/- UnifyFresh: new vars come one after the other; of what nothing is said it stays; of no Sub at all too. -/
import Derived.Test.YtadhjnbhcenocaaRows
import Derived.Test.YtadhjnbhcenocaaUfNil
import Derived.Test.YtadhjnbhcenocaaUfW
import Derived.Test.YtadhjnbhcenocaaRTypC
import Derived.Test.YtadhjnbhcenocaaFrame
import Derived.Test.YtadhjnbhcenocaaFrame2
import Derived.Test.YtadhjnbhcenocaaFrameT
import Derived.Deep.RegionHeld
namespace Go.Proofs.Ytadhjnbhcenocaa
open Go.ChangeShapes Go.WideShapes Go.ChangeAt Go.RowKit Go.Em8 Go.Em9
set_option linter.unusedVariables false
set_option linter.unusedSimpArgs false

theorem isTy_teach {T : Ty} (h : isTy T = true) : teach T = true := by
  unfold isTy at h
  simp only [Bool.and_eq_true] at h
  exact h.2
/-- Where a type that lies below may lie. -/
theorem isTy_far {w w' : World} {T : Ty} {v : Value} (h : IsTy w T v) (hb : Below w.heap.size w w') {Mn : Nat → Prop} (hM : ∀ k, Mn k → w.heap.size ≤ k) : IsTyP (fun k => ¬ Mn k) w' T v :=
  isTyP_keep hb.size (fun k hp hl => ⟨hb.block k hl, fun e => absurd (hM k e) (by omega)⟩) _ _ (isTy_isP _ _ h)
/-- Nothing was said, and nothing new is. -/
theorem said_none {d : Int → Ty} {T : Ty} (hT : teach T = true) (h : ∀ t, Fac t d ↔ Fac t tv ∧ tsub t T = tsub t T) (hd : ∀ x, 0 ≤ x → teach (d x) = true) : tsub d T = T := by
  have h1 : Fac tv d := (h tv).2 ⟨fun x => tsub_tv _ _, rfl⟩
  have h2 : Fac d d := (h d).2 ⟨fun x => tsub_tv _ _, rfl⟩
  have e := h1.term T
  rw [tsub_id T hT] at e
  have ht := teach_subs T hT fun y hy => hd y (occ_nat hT hy)
  rw [tsub_id _ ht] at e
  exact e

set_option maxRecDepth 100000 in
set_option maxHeartbeats 8000000 in
theorem walk_unifyFresh (w : World) (v0 u : Value) (h0 : ∃ n, v0 = .int .i64 n ∧ (Lit.int .i64 n).wf = true) (hu : ∃ T, IsTy w T u) :
    Calls Try.prog 4 #[v0, u] w fun e w' => e = .returned (.bool true) ∧ Below w.heap.size w w' := by
  obtain ⟨n, rfl, -⟩ := h0
  obtain ⟨T, hu⟩ := hu
  have HU : Hid (∀ w', Below w.heap.size w w' → IsTy w' T u) := fun w' h => isTy_below h _ _ hu
  obtain ⟨op, tn, a, k, cap, rfl⟩ := isTyP_form (isTy_isP _ _ hu)
  obtain ⟨W, hW⟩ : ∃ W, W = w.alloc (.cells #[.string op, .int .i64 tn, .slice a k cap] 25) := ⟨_, rfl⟩
  have hbW : Below w.heap.size w W := by rw [hW]; exact (Below.refl _ _).alloc (Nat.le_refl _) _
  have k0 : W.cell? ⟨w.heap.size, 0, none⟩ = some (.string op) := by rw [hW]; simp
  have k1 : W.cell? ⟨w.heap.size, 1, none⟩ = some (.int .i64 tn) := by rw [hW]; simp
  have k2 : W.cell? ⟨w.heap.size, 2, none⟩ = some (.slice a k cap) := by rw [hW]; simp
  have H3 : Hid (∀ w', Below W.heap.size W w' → w'.cell? ⟨w.heap.size, 0, none⟩ = some (.string op) ∧ w'.cell? ⟨w.heap.size, 1, none⟩ = some (.int .i64 tn) ∧ w'.cell? ⟨w.heap.size, 2, none⟩ = some (.slice a k cap)) := fun w' h => by
    have hl : w.heap.size < W.heap.size := by rw [hW]; simp
    have key : ∀ o, w'.cell? ⟨w.heap.size, o, none⟩ = W.cell? ⟨w.heap.size, o, none⟩ := fun o => h.cell (p := ⟨w.heap.size, o, none⟩) hl
    exact ⟨(key 0).trans k0, (key 1).trans k1, (key 2).trans k2⟩
  have HW : Hid (Below w.heap.size w W) := hbW
  have HWE : Hid (w.alloc (.cells #[.string op, .int .i64 tn, .slice a k cap] 25) = W) := hW.symm
  clear hW hbW hu
  go_enter Try.func4, Try.ntmps4
  go_upto_region 1 with fail
  rw [HWE.out]
  clear HWE
  by_cases hn0 : n < 0
  · go_wp2_with fail
    go_ret
    exact ⟨rfl, HW.out⟩
  by_cases hn1 : 100 < n
  · go_wp2_with fail
    go_ret
    exact ⟨rfl, HW.out⟩
  go_wp2_with fail
  refine (rtsize_any T _ _ 100 (HU.out _ HW.out) (by omega) (by omega)).mono ?_
  rintro e w1 ⟨rfl, hb1⟩
  have HB1 : Hid (Below W.heap.size W w1) := hb1
  obtain ⟨q, hq⟩ : ∃ q, q = decide (50 < T.size) := ⟨_, rfl⟩
  have HQ : Hid (decide ((50 : Int) < ((min T.size 100 : Nat) : Int)) = q) := by rw [Hid, hq, decide_eq_decide]; omega
  have HQ1 : Hid (q = decide (50 < T.size)) := hq
  generalize min T.size 100 = z at HQ
  clear k0 k1 k2 hb1 hq
  obtain ⟨k0, k1, k2⟩ := H3.out _ HB1.out
  have hz := HQ.out
  cases q with
  | true =>
    go_wp2_with fail
    go_ret
    exact ⟨rfl, HW.out.trans (HB1.out.mono HW.out.size)⟩
  | false =>
  have HS : Hid (T.size ≤ 50) := by have := of_decide_eq_false HQ1.out.symm; show _ ≤ _; omega
  go_wp2_with fail
  refine (rtIs_any T _ _ (HU.out _ (HW.out.trans (HB1.out.mono HW.out.size)))).mono ?_
  rintro e w2 ⟨rfl, hb2⟩
  have HB2 : Hid (Below W.heap.size W w2) := HB1.out.trans (hb2.mono HB1.out.size)
  have HB2w : Hid (Below w.heap.size w w2) := HW.out.trans (HB2.out.mono HW.out.size)
  clear k0 k1 k2 hb2 hz HQ
  cases hi : isTy T with
  | false =>
    go_wp2_with fail
    go_ret
    exact ⟨rfl, HB2w.out⟩
  | true =>
  have HI : Hid (teach T = true) := isTy_teach hi
  clear hi
  go_wp2_with fail
  refine (unew_any w2).mono ?_
  rintro e w3 ⟨rfl, hb3, Mn, hU, hMn⟩
  have HU3 : Hid (Uf w3 w2.heap.size 0 0 Mn 0 tv (fun _ => False)) := hU
  have HM : Hid (∀ k, Mn k → w2.heap.size ≤ k) := fun k hk => by have := hMn k hk; omega
  have HM1 : Hid (∀ k, Mn k → k = w2.heap.size) := hMn
  have HB3 : Hid (Below w2.heap.size w2 w3) := hb3
  clear hb3 hU hMn
  have HBX : Hid (∀ w', Below w2.heap.size w2 w' → w'.cell? ⟨w.heap.size, 0, none⟩ = some (.string op) ∧ w'.cell? ⟨w.heap.size, 1, none⟩ = some (.int .i64 tn) ∧ w'.cell? ⟨w.heap.size, 2, none⟩ = some (.slice a k cap)) := fun w' h => H3.out _ (HB2.out.trans (h.mono HB2.out.size))
  have HD : Hid (∀ w', Below w2.heap.size w2 w' → IsTy w' T (.agg #[.string op, .int .i64 tn, .slice a k cap])) := fun w' h => HU.out _ (HB2w.out.trans (h.mono HB2w.out.size))
  go_wp2_with fail
  go_loopw [6] (fun i wr => ∃ j : Nat, Hid ((j : Int) ≤ n) ∧ i = .int .i64 j ∧ Hid (Uf wr w2.heap.size (j : Int) 0 Mn 0 tv (fun _ => False)) ∧ Hid (Below w2.heap.size w2 wr)) (fun i _ => (n - intOf i).toNat)
  case atStart => exact ⟨0, by show _ ≤ _; omega, rfl, HU3, HB3⟩
  case round =>
    obtain ⟨j, HJ, rfl, HUR, HBR⟩ := hrel
    by_cases hlt : (j : Int) < n
    · have HFR := ufresh_any HUR.out (by omega)
      have HJ1 : Hid ((j : Int) < n) := hlt
      go_wp2_with fail
      refine HFR.mono ?_
      rintro e w4 ⟨rfl, hU4, hk4⟩
      have HU4 : Hid (Uf w4 w2.heap.size ((j : Int) + 1) 0 Mn 0 tv (fun _ => False)) := hU4
      have HB4 : Hid (Below w2.heap.size w2 w4) := HBR.out.trans (hk4.below HBR.out.size fun b hb e => by omega)
      clear HFR hU4 hk4
      go_wp2_with fail
      refine (rtVar_any (j : Int) w4).mono ?_
      rintro e w5 ⟨rfl, hb5⟩
      have HB5 : Hid (Below w4.heap.size w4 w5) := hb5
      have hT : ∀ x, IsTy x (tv (j : Int)) (.agg #[.string (Em.str tVar), .int .i64 (j : Int), .slice none 0 0]) := fun x => isTyP_is _ _ (isTyP_leaf (fun _ => True) x ⟨by decide, by decide⟩ (by unfold Em5.I64; omega))
      have HSM := rtSame_any _ _ _ _ w5 (hT w5) (hT w5)
      rw [(tsame_iff _ _).2 rfl] at HSM
      clear hb5 hT
      go_wp2_with fail
      refine HSM.mono ?_
      rintro e w6 ⟨rfl, hb6⟩
      have HB6 : Hid (Below w4.heap.size w4 w6) := HB5.out.trans (hb6.mono HB5.out.size)
      clear hb6 HSM
      go_wp2_with fail
      go_roundw
      case rel => exact ⟨j + 1, by have := HJ1.out; show _ ≤ _; omega, by go_num, HU4.out.below HB6.out, HB4.out.trans (HB6.out.mono HB4.out.size)⟩
      case measure => have := HJ1.out; simp [intOf]; omega
    · have HSB : Hid (tsame T T = true) := (tsame_iff _ _).2 rfl
      have HST : Hid (tsub tv T = T) := tsub_id T HI.out
      have HSZ : Hid (0 + T.size + T.size ≤ 100000) := by have := HS.out; show _ ≤ _; omega
      have b0 : Below w2.heap.size w2 wr.drew := HBR.out.drew
      have U0 : Hid (Uf wr.drew w2.heap.size (j : Int) 0 Mn 0 tv (fun _ => False)) := HUR.out.below (Below.refl _ _).drew
      go_wp2_with fail
      go_region_held (fun w' => w'.cell? ⟨w.heap.size, 0, none⟩ = some (.string op) ∧ w'.cell? ⟨w.heap.size, 1, none⟩ = some (.int .i64 tn) ∧ w'.cell? ⟨w.heap.size, 2, none⟩ = some (.slice a k cap))
        (with_reducible (first | exact HBX.out _ b10 | exact HBX.out _ b9 | exact HBX.out _ b8 | exact HBX.out _ b7 | exact HBX.out _ b6 | exact HBX.out _ b5 | exact HBX.out _ b4 | exact HBX.out _ b3 | exact HBX.out _ b2 | exact HBX.out _ b1 | exact HBX.out _ b0))
        (first
          | (go_at_call 14; refine (known9_any _).mono ?_; rintro e x10 ⟨rfl, hc⟩; have b10 := b9.trans (hc.mono b9.size); clear hc)
          | (go_at_call 20; refine (ufresh_nil _).mono ?_; rintro e x9 ⟨rfl, hc⟩; have hf9 : Sem.run Try.prog (Instr.field 25 (.agg #[.string ⟨#[]⟩, .int .i64 0, .slice none 0 0]) 0) x9 = .ok (.string ⟨#[]⟩) x9 := (by kernel_rfl); have b9 := b8.trans (hc.mono b8.size); clear hc)
          | (go_at_call 12; have dq := b7; clear dq; refine (uUnify_nil _ _ _ _ _ _ _).mono ?_; rintro e x8 ⟨rfl, hc⟩; have b8 := b7.trans (hc.mono b7.size); clear hc)
          | (go_at_call 15; have dq := b6; clear dq; refine (rtSame_any T T _ _ _ O6.out (HD.out _ b6)).mono ?_; rintro e x7 ⟨rfl, hc⟩; rw [HSB.out]; have b7 := b6.trans (hc.mono b6.size); clear hc)
          | (go_at_call 16; have dq := b5; clear dq; refine (uOf_any none tv T HI.out _ _ (HD.out _ b5) rfl).mono ?_; rintro e x6 ⟨u6, rfl, ho6, hc⟩; rw [HST.out] at ho6; obtain ⟨z0, z1, za, zk, zc, rfl⟩ := isTyP_form ho6; have O6 : Hid (IsTy x6 T (.agg #[.string z0, .int .i64 z1, .slice za zk zc])) := isTyP_is _ _ ho6; have b6 := b5.trans (hc.mono b5.size); clear hc ho6)
          | (go_at_call 15; have dq := b4; clear dq; refine (rtSame_any T T _ _ _ O4.out (HD.out _ b4)).mono ?_; rintro e x5 ⟨rfl, hc⟩; rw [HSB.out]; have b5 := b4.trans (hc.mono b4.size); clear hc)
          | (go_at_call 16; have dq := b3; clear dq; refine (uOf_any (some w2.heap.size) d3 T HI.out _ _ (HD.out _ b3) (U3.out.1.ready HSZ.out)).mono ?_; rintro e x4 ⟨u4, rfl, ho4, hc⟩; rw [U3.out.2] at ho4; obtain ⟨y0, y1, ya, yk, yc, rfl⟩ := isTyP_form ho4; have O4 : Hid (IsTy x4 T (.agg #[.string y0, .int .i64 y1, .slice ya yk yc])) := isTyP_is _ _ ho4; have b4 := b3.trans (hc.mono b3.size); clear hc ho4)
          | (go_at_call 12; have dq := b2; clear dq; refine (uUnify_any U2.out ⟨by omega, by omega⟩ HI.out HI.out HSZ.out (.inl ⟨tv, fun x => tsub_tv _ _, rfl⟩) (isTy_far (HD.out _ (Below.refl _ _)) b2 HM.out) (isTy_far (HD.out _ (Below.refl _ _)) b2 HM.out)).mono ?_; rintro e x3 ⟨hk3, hr3⟩; obtain ⟨rfl, Mn3, d3, hU3, hf3, -⟩ : _ ∧ _ := hr3.resolve_right (fun h => h.2 tv ⟨fun x => tsub_tv _ _, rfl⟩); have U3 : Hid (Uf x3 w2.heap.size (j : Int) (0 + 1) Mn3 (0 + T.size + T.size) d3 (fun z => False ∨ tocc z T ∨ tocc z T) ∧ tsub d3 T = T) := ⟨hU3, said_none HI.out hf3 hU3.teach⟩; have b3 := b2.trans (hk3.below b2.size fun q hq hm => by have := HM.out q hm; omega); clear hk3 hr3 hU3 hf3)
          | (go_at_call 15; have dq := b1; clear dq; refine (rtSame_any T T _ _ _ O1.out (HD.out _ b1)).mono ?_; rintro e x2 ⟨rfl, hc⟩; rw [HSB.out]; have U2 : Hid (Uf x2 w2.heap.size (j : Int) 0 Mn 0 tv (fun _ => False)) := U1.out.below hc; have b2 := b1.trans (hc.mono b1.size); clear hc)
          | (go_at_call 16; refine (uOf_any (some w2.heap.size) tv T HI.out _ _ (HD.out _ b0) (U0.out.ready (by omega))).mono ?_; rintro e x1 ⟨u1, rfl, ho1, hc⟩; rw [HST.out] at ho1; obtain ⟨x0, x00, xa, xk, xc, rfl⟩ := isTyP_form ho1; have O1 : Hid (IsTy x1 T (.agg #[.string x0, .int .i64 x00, .slice xa xk xc])) := isTyP_is _ _ ho1; have U1 : Hid (Uf x1 w2.heap.size (j : Int) 0 Mn 0 tv (fun _ => False)) := U0.out.below hc; have b1 := b0.trans (hc.mono b0.size); clear hc ho1))
      all_goals
        go_wp2_with fail
        go_ret
        exact ⟨rfl, HB2w.out.trans (b10.mono HB2w.out.size)⟩

theorem unifyFresh_own : ownKnob Try.prog.godebug = none := by kernel_rfl
theorem unifyFresh_laidOut : laidOutB Try.prog = true := by kernel_rfl
set_option maxRecDepth 100000 in
theorem unifyFresh_lifted (os : Os) (started : os.Started) (H : Type) (enc : TypeId × Value → H) :
    ReturnsInHanded {} Try.checked os 4 .any (Rows.unifyFreshSpec.pre6 enc Try.prog Try.f4 Rows.unifyFreshRow.domain false) (Rows.unifyFreshSpec.post enc Try.prog Try.f4 false true false false) := by
  refine returnsInHanded_of_change_sized (C := Try.checked) unifyFresh_own started (by kernel_rfl) Try.func4
    (ChangeSpec.witness6 (enc := enc) (C := Try.checked) false ⟨#[], #[.int .i64 0, .agg #[.string ByteArray.empty, .int .i64 0, .slice none 0 0]], []⟩ 8 (by kernel_rfl) (by kernel_rfl) (by kernel_rfl) (by kernel_rfl)) ?_
  intro W base args ds gs before hval0 hW hcnd hsz0 _
  have hval : ∀ (j : Nat) t v, Try.f4.params[j]? = some t → args[j]? = some v → Value.okWide Try.prog W .any base t v := hval0
  have hW' := hW
  obtain ⟨p, q, hA0, hV, rfl, hfz, hnd⟩ := hW
  have hA : DataW.TrodAll enc Try.prog W 0 (fun _ => true) true Try.f4.params.toList args.toList ds p := hA0
  have hsz : (DataW.weightsEach Try.prog (Try.f4.params.toList ++ Rows.unifyFreshSpec.plain.varTypes Try.prog) (ds ++ gs)).all (· ≤ reachBytes) = true := hsz0
  rw [Try.params4] at hA hval hsz
  obtain ⟨v0, vs0, d0, ds0, p0, q0, hargs, rfl, rfl, h0, r0⟩ := trodAll_cons hA
  obtain ⟨v1, vs1, d1, ds1, p1, q1, rfl, rfl, rfl, h1, r1⟩ := trodAll_cons r0
  obtain ⟨rfl, rfl, rfl⟩ := trodAll_nil r1
  obtain rfl : args = #[v0, v1] := by cases args; simp_all
  obtain ⟨rfl, rfl⟩ := trodVars_none hV
  have lt0 : ∀ x ∈ p0, x.block < W.heap.size := by obtain ⟨m, hm⟩ := h0; exact DataW.trod_lt m _ _ _ hm
  have o0 := Em.open_int Try.underlying3 (hval 0 3 v0 rfl rfl) h0
  have lt1 : ∀ x ∈ p1, x.block < W.heap.size := by obtain ⟨m, hm⟩ := h1; exact DataW.trod_lt m _ _ _ hm
  have o1 := open_ty (hval 1 25 v1 rfl rfl) h1 (Em.sized_arg hsz 1 rfl rfl)
  clear hsz0 hsz
  clear hA0 hval0
  refine (walk_unifyFresh W v0 v1 o0 o1).mono fun e W' ⟨he, bel⟩ => ?_
  subst he
  exact ⟨_, rfl, _, _, _, [], _, [], hW', trodAll_mk1 (shut_bool Try.underlying4 _), (trodAll_cons_mk (Below.trod unifyFresh_laidOut (by kernel_rfl) (of_decide_eq_true (by kernel_rfl)) h0 bel lt0) (trodAll_cons_mk (Below.trod unifyFresh_laidOut (by kernel_rfl) (of_decide_eq_true (by kernel_rfl)) h1 bel lt1) trodAll_mk0)), rfl, bel.frame _, fun h => by cases h⟩
theorem unifyFresh_holds : Rows.UnifyFreshSaid :=
  OpenClaim.holds_of_wide 4 Try.f4 rfl rfl rfl rfl rfl rfl rfl ⟨rfl, rfl, rfl, rfl, rfl⟩ rfl rfl rfl rfl rfl (by kernel_rfl) Try.func4 (by kernel_rfl)
    (of_decide_eq_true (by kernel_rfl)) (by unfold Func.isWrapper; first | (rw [if_pos (by decide +kernel)]; kernel_rfl) | (rw [if_neg (by decide +kernel)]; exact ⟨rfl, rfl⟩))
    (fun os started H enc _ => unifyFresh_lifted os started H enc)
#print axioms unifyFresh_holds
end Go.Proofs.Ytadhjnbhcenocaa

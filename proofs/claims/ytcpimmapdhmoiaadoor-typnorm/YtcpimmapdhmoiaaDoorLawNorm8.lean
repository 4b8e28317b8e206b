/- TypNorm: a type of at most 300 nodes that is normed twice is as normed once; its vars are then 0, 1, .., as many as it had. No condition but that the tables that the program reads hold what their initialisers lay, to which the card ties them. -/
import Derived.Test.YtcpimmapdhmoiaaDoorRows
import Derived.Test.YtcpimmapdhmoiaaDoorCards
import Derived.Test.YtcpimmapdhmoiaaDoorTie
import Derived.Test.YtcpimmapdhmoiaaDoorLaid8
import Derived.Test.YtcpimmapdhmoiaaDoorKnown8
import Derived.Test.YtcpimmapdhmoiaaDoorFrame
import Derived.Test.YtcpimmapdhmoiaaDoorFrame2
import Derived.Test.YtcpimmapdhmoiaaDoorFrameT
import Derived.Deep.RegionHeld
namespace Go.Proofs.YtcpimmapdhmoiaaDoor
open Go.ChangeShapes Go.WideShapes Go.ChangeAt Go.RowKit Go.Em8
set_option linter.unusedVariables false
set_option linter.unusedSimpArgs false

theorem isTy_teach {T : Ty} (h : isTy T = true) : teach T = true := by
  unfold isTy at h
  simp only [Bool.and_eq_true] at h
  exact h.2
theorem size_ren (f : Int → Int) (t : Ty) : (tren f t).size = t.size := by
  induction t using Ty.ind with
  | h op n l ih =>
    by_cases h : op = tVar
    · rw [tren_var f h, Ty.size, Ty.size]
    · rw [tren_else f h, Ty.size, Ty.size]
      congr 1
      induction l with
      | nil => rfl
      | cons x r ihr =>
        rw [List.map_cons, tsizes, tsizes, ih x (by simp), ihr (fun t ht => ih t (by simp [ht]))]
theorem size_norm {T : Ty} (h : teach T = true) : (tnorm T).size = T.size := by rw [tnorm_ren h, size_ren]

set_option maxRecDepth 100000 in
set_option maxHeartbeats 8000000 in
theorem walk_typNorm (w : World) (u : Value) (hu : ∃ T, IsTy w T u) (hp : IsPow w) :
    Calls Tryd.prog 5 #[u] w fun e w' => e = .returned (.bool true) ∧ Below w.heap.size w w' := by
  obtain ⟨T, hu⟩ := hu
  have HPA : Hid (∀ w', Below w.heap.size w w' → IsPow w') := fun w' h => hp.below h
  have HU : Hid (∀ w', Below w.heap.size w w' → IsTy w' T u) := fun w' h => isTy_below h _ _ hu
  obtain ⟨op, n, a, k, cap, rfl⟩ := isTyP_form (isTy_isP _ _ hu)
  obtain ⟨W, hW⟩ : ∃ W, W = w.alloc (.cells #[.string op, .int .i64 n, .slice a k cap] 24) := ⟨_, rfl⟩
  have hbW : Below w.heap.size w W := by rw [hW]; exact (Below.refl _ _).alloc (Nat.le_refl _) _
  have h3 : Tri W w.heap.size (.string op) (.int .i64 n) (.slice a k cap) := by rw [hW]; exact Tri.made _ _ _ _ _
  have H3 : Hid (∀ w', Below W.heap.size W w' → Tri w' w.heap.size (.string op) (.int .i64 n) (.slice a k cap)) := fun w' h => h3.below h
  have HW : Hid (Below w.heap.size w W) := hbW
  have HWE : Hid (w.alloc (.cells #[.string op, .int .i64 n, .slice a k cap] 24) = W) := hW.symm
  obtain ⟨k0, k1, k2⟩ := h3
  clear hW hbW hp hu
  go_enter Tryd.func5, Tryd.ntmps5
  go_upto_region 1 with fail
  rw [HWE.out]
  clear HWE
  go_wp2_with fail
  refine (ylong_any T _ _ (HU.out _ HW.out)).mono ?_
  rintro e w1 ⟨rfl, hb1⟩
  have hbw1 : Below w.heap.size w w1 := HW.out.trans (hb1.mono HW.out.size)
  clear k0 k1 k2
  by_cases h300 : 300 < T.size
  · rw [decide_eq_true h300]
    clear h300
    go_wp2_with fail
    go_ret
    exact ⟨rfl, hbw1⟩
  rw [decide_eq_false h300]
  have HS3 : Hid (T.size ≤ 1000000) := by rw [Hid]; omega
  clear h300
  obtain ⟨k0, k1, k2⟩ := H3.out _ hb1
  go_wp2_with fail
  refine (rtIs_any T _ _ (HU.out _ hbw1)).mono ?_
  rintro e w2 ⟨rfl, hb2⟩
  have hb2' : Below W.heap.size W w2 := hb1.trans (hb2.mono hb1.size)
  have hbw2 : Below w.heap.size w w2 := HW.out.trans (hb2'.mono HW.out.size)
  clear k0 k1 k2 hb1 hbw1 hb2
  cases hi : isTy T with
  | false =>
    go_wp2_with fail
    go_ret
    exact ⟨rfl, hbw2⟩
  | true =>
  have he := isTy_teach hi
  have HE : Hid (teach T = true) := he
  have HEN : Hid (teach (tnorm T) = true) := teach_norm he
  have HSN : Hid ((tnorm T).size ≤ 1000000) := by rw [Hid, size_norm he]; exact HS3.out
  have HID : Hid (tnorm (tnorm T) = tnorm T) := tnorm_idem he
  have HSM : Hid (tsame (tnorm T) (tnorm T) = true) := (tsame_iff _ _).2 rfl
  obtain ⟨N, hN⟩ : ∃ N, N = (tvars T []).length := ⟨_, rfl⟩
  have HNL : Hid ((tvars T []).length = N) := hN.symm
  have HVN : Hid (tvars (tnorm T) [] = (List.range N).map (fun i : Nat => (i : Int))) := by rw [Hid, hN]; exact tvars_norm he
  have hNm : N ≤ 9223372036854775807 := by
    have := tvars_len T []
    have := HS3.out
    simp only [List.length_nil] at *
    omega
  clear hi he hN
  obtain ⟨k0, k1, k2⟩ := H3.out _ hb2'
  go_wp2_with fail
  refine (yNorm_any T _ _ (HU.out _ hbw2) HE.out HS3.out).mono ?_
  rintro e w3 ⟨u3, rfl, ho3, hb3⟩
  obtain ⟨y0, y1, ya, yk, yc, rfl⟩ := isTyP_form ho3
  have hb3' : Below W.heap.size W w3 := hb2'.trans (hb3.mono hb2'.size)
  obtain ⟨X, hX⟩ : ∃ X, X = w3.alloc (.cells #[.string y0, .int .i64 y1, .slice ya yk yc] 24) := ⟨_, rfl⟩
  have hbX : Below w3.heap.size w3 X := by rw [hX]; exact (Below.refl _ _).alloc (Nat.le_refl _) _
  have t3 : Tri X w3.heap.size (.string y0) (.int .i64 y1) (.slice ya yk yc) := by rw [hX]; exact Tri.made _ _ _ _ _
  have b03 : Below w.heap.size w w3 := hbw2.trans (hb3.mono hbw2.size)
  have HBX : Hid (Below w.heap.size w X ∧ Below W.heap.size W X) := ⟨b03.trans (hbX.mono b03.size), hb3'.trans (hbX.mono hb3'.size)⟩
  have HT3 : Hid (∀ w', Below X.heap.size X w' → Tri w' w3.heap.size (.string y0) (.int .i64 y1) (.slice ya yk yc)) := fun w' h => t3.below h
  have HN3 : Hid (∀ w', Below X.heap.size X w' → IsTy w' (tnorm T) (.agg #[.string y0, .int .i64 y1, .slice ya yk yc])) := fun w' h => isTy_below h _ _ (isTy_below hbX _ _ (isTyP_is _ _ ho3))
  have HXE : Hid (w3.alloc (.cells #[.string y0, .int .i64 y1, .slice ya yk yc] 24) = X) := hX.symm
  obtain ⟨m0, m1, m2⟩ := t3
  clear k0 k1 k2 ho3 hb3 hb3' hb2' hbw2 hX hbX b03
  go_upto_region 4 with fail
  rw [HXE.out]
  clear HXE
  go_wp2_with fail
  refine (yVars_any (tnorm T) _ _ (HN3.out _ (Below.refl _ _)) HSN.out).mono ?_
  rintro e w4 ⟨u4, rfl, ho4, hi4, hb4⟩
  have hI4 := ho4.is hi4
  obtain ⟨a4, c4, hu4⟩ := ho4.form
  have hl4 : (tvars (tnorm T) []).length = N := by rw [HVN.out]; simp
  rw [hl4] at hu4
  have HK : Hid (0 < N → ∃ b off, a4 = some ⟨b, off, none⟩ ∧ ∀ k, k < N → w4.cell? ⟨b, off + k, none⟩ = some (.int .i64 k)) := fun hp => by
    obtain ⟨b, off, cap2, e2, -, -, -, hc⟩ := hI4.plain (by omega)
    rw [hu4] at e2
    injection e2 with e3 e4 e5
    refine ⟨b, off, e3, fun k hk => hc k k ?_⟩
    rw [HVN.out]
    simp [hk]
  subst hu4
  have HB4 : Hid (Below X.heap.size X w4) := hb4
  clear m0 m1 m2 ho4 hi4 hI4 hb4 hl4
  go_wp2_with fail
  go_loop [5] (fun i => ∃ k : Nat, k ≤ N ∧ i = .int .i64 k) (fun i => N - (intOf i).toNat)
  case atStart => exact ⟨0, Nat.zero_le _, rfl⟩
  case round =>
    obtain ⟨j, hj, rfl⟩ := hrel
    by_cases hlt : j < N
    · obtain ⟨b, off, rfl, hc⟩ := HK.out (by omega)
      have hcell := hc j hlt
      have hjl : (j : Int) < (N : Int) := by omega
      have hqn : ((j : Int) != (j : Int)) = false := by simp
      clear hc
      go_wp2
      go_round
      case rel => exact ⟨j + 1, by omega, by go_num⟩
      case measure => simp [intOf]; omega
    · obtain rfl : j = N := by omega
      have HS : Hid (∀ w', Below w4.heap.size w4 w' → w'.cell? ⟨w.heap.size, 0, none⟩ = some (.string op) ∧ w'.cell? ⟨w.heap.size, 1, none⟩ = some (.int .i64 n) ∧ w'.cell? ⟨w.heap.size, 2, none⟩ = some (.slice a k cap) ∧ w'.cell? ⟨w3.heap.size, 0, none⟩ = some (.string y0) ∧ w'.cell? ⟨w3.heap.size, 1, none⟩ = some (.int .i64 y1) ∧ w'.cell? ⟨w3.heap.size, 2, none⟩ = some (.slice ya yk yc)) := fun w' h => by
        have h1 : Below X.heap.size X w' := HB4.out.trans (h.mono HB4.out.size)
        obtain ⟨e0, e1, e2⟩ := H3.out _ (HBX.out.2.trans (h1.mono HBX.out.2.size))
        obtain ⟨f0, f1, f2⟩ := HT3.out _ h1
        exact ⟨e0, e1, e2, f0, f1, f2⟩
      have HDN : Hid (∀ w', Below w4.heap.size w4 w' → IsTy w' (tnorm T) (.agg #[.string y0, .int .i64 y1, .slice ya yk yc])) := fun w' h => HN3.out _ (HB4.out.trans (h.mono HB4.out.size))
      have HBW4 : Hid (Below w.heap.size w w4) := HBX.out.1.trans (HB4.out.mono HBX.out.1.size)
      have HDT : Hid (∀ w', Below w4.heap.size w4 w' → IsTy w' T (.agg #[.string op, .int .i64 n, .slice a k cap])) := fun w' h => HU.out _ (HBW4.out.trans (h.mono HBW4.out.size))
      have HPB : Hid (∀ w', Below w4.heap.size w4 w' → IsPow w') := fun w' h => HPA.out _ (HBW4.out.trans (h.mono HBW4.out.size))
      have b0 : Below w4.heap.size w4 w4.drew := (Below.refl _ _).drew
      go_wp2_with fail
      go_region_held (fun w' => w'.cell? ⟨w.heap.size, 0, none⟩ = some (.string op) ∧ w'.cell? ⟨w.heap.size, 1, none⟩ = some (.int .i64 n) ∧ w'.cell? ⟨w.heap.size, 2, none⟩ = some (.slice a k cap) ∧ w'.cell? ⟨w3.heap.size, 0, none⟩ = some (.string y0) ∧ w'.cell? ⟨w3.heap.size, 1, none⟩ = some (.int .i64 y1) ∧ w'.cell? ⟨w3.heap.size, 2, none⟩ = some (.slice ya yk yc))
        (with_reducible (first | exact HS.out _ b4 | exact HS.out _ b3 | exact HS.out _ b2 | exact HS.out _ b1 | exact HS.out _ b0))
        (first
          | (go_at_call 16; refine (yNorm_any (tnorm T) _ _ (HDN.out _ b0) HEN.out HSN.out).mono ?_; rintro e x1 ⟨u1, rfl, ho1, hc⟩; rw [HID.out] at ho1; obtain ⟨z0, z1, za, zk, zc, rfl⟩ := isTyP_form ho1; have O1 : Hid (IsTy x1 (tnorm T) (.agg #[.string z0, .int .i64 z1, .slice za zk zc])) := isTyP_is _ _ ho1; have b1 := b0.trans (hc.mono b0.size); clear hc ho1)
          | (go_at_call 15; refine (rtSame_any (tnorm T) (tnorm T) _ _ _ O1.out (HDN.out _ b1)).mono ?_; rintro e x2 ⟨rfl, hc⟩; rw [HSM.out]; have b2 := b1.trans (hc.mono b1.size); clear hc)
          | (go_at_call 13; refine (yVars_any T _ _ (HDT.out _ b2) HS3.out).mono ?_; rintro e x3 ⟨u5, rfl, ho5, hi5, hc⟩; obtain ⟨a5, c5, rfl⟩ := ho5.form; rw [HNL.out]; have b3 := b2.trans (hc.mono b2.size); clear hc ho5 hi5)
          | (go_at_call 11; refine (known8_any _ (HPB.out _ b3)).mono ?_; rintro e x4 ⟨rfl, hc⟩; have b4 := b3.trans (hc.mono b3.size); clear hc))
      all_goals
        go_wp2_with fail
        go_ret
        exact ⟨rfl, HBW4.out.trans (b4.mono HBW4.out.size)⟩

theorem typNorm_own : ownKnob Tryd.prog.godebug = none := by kernel_rfl
theorem typNorm_laidOut : laidOutB Tryd.prog = true := by kernel_rfl
theorem typNorm_met (os : Os) : laidMet Tryd.prog Rows.typNormRow.laid ((laidWorld os).forCall (fun _ _ => 0) ⟨#[], #[.agg #[.string ByteArray.empty, .int .i64 0, .slice none 0 0]], []⟩).memory :=
  laidMet_of_run' 8 (by kernel_rfl) (by kernel_rfl)
theorem typNorm_reads (os : Os) {H : Type} (enc : TypeId × Value → H) : ∃ places, DataW.whole enc Tryd.prog ((laidWorld os).forCall (fun _ _ => 0) ⟨#[], #[.agg #[.string ByteArray.empty, .int .i64 0, .slice none 0 0]], []⟩).memory Tryd.f5.params.toList Rows.typNormSpec.vars false (#[.agg #[.string ByteArray.empty, .int .i64 0, .slice none 0 0]] : Array Value).toList 8 = some ([.agg [.lit (.string []), .lit (.int .i64 0), .nil]], [], places) :=
  ⟨[], by kernel_rfl⟩
set_option maxRecDepth 100000 in
theorem typNorm_lifted (os : Os) (started : os.Started) (H : Type) (enc : TypeId × Value → H) (F : Stop.Interp) :
    ReturnsInHanded {} Tryd.checked os 5 .any ((OpenSpec.ofChange Rows.typNormSpec).preRow enc Tryd.prog Tryd.f5 Rows.typNormRow.domain false Rows.typNormRow.laid) (((OpenSpec.ofChange Rows.typNormSpec).at F).post enc Tryd.prog Tryd.f5 false true false false) := by
  obtain ⟨places, hx⟩ := typNorm_reads os enc
  refine returnsInHanded_of_row (C := Tryd.checked) (s := OpenSpec.ofChange Rows.typNormSpec) typNorm_own started (by kernel_rfl) Tryd.func5
    (witness_row_at (enc := enc) (C := Tryd.checked) false (laidWorld os) #[.agg #[.string ByteArray.empty, .int .i64 0, .slice none 0 0]] rfl (by kernel_rfl) (by kernel_rfl) (by kernel_rfl)
      (OpenSpec.preRow_of_cond 8 hx (by kernel_rfl) (fun k hk => by cases hk) (by kernel_rfl) (typNorm_met os))) ?_
  intro W base args ds gs before hval0 hW _ _ hsz0 hL _ _
  have hfact := laid_of_row hL
  have hval : ∀ (j : Nat) t v, Tryd.f5.params[j]? = some t → args[j]? = some v → Value.okWide Tryd.prog W .any base t v := hval0
  have hW' := hW
  obtain ⟨p, q, hA0, hV, rfl, hfz, hnd⟩ := hW
  have hA : DataW.TrodAll enc Tryd.prog W 0 (fun _ => true) true Tryd.f5.params.toList args.toList ds p := hA0
  have hsz : (DataW.weightsEach Tryd.prog (Tryd.f5.params.toList ++ Rows.typNormSpec.plain.varTypes Tryd.prog) (ds ++ gs)).all (· ≤ reachBytes) = true := hsz0
  rw [Tryd.params5] at hA hval hsz
  obtain ⟨v0, vs0, d0, ds0, p0, q0, hargs, rfl, rfl, h0, r0⟩ := trodAll_cons hA
  obtain ⟨rfl, rfl, rfl⟩ := trodAll_nil r0
  obtain rfl : args = #[v0] := by cases args; simp_all
  obtain ⟨rfl, rfl⟩ := trodVars_none hV
  have lt0 : ∀ x ∈ p0, x.block < W.heap.size := by obtain ⟨m, hm⟩ := h0; exact DataW.trod_lt m _ _ _ hm
  have o0 := open_ty (hval 0 24 v0 rfl rfl) h0 (Em.sized_arg hsz 0 rfl rfl)
  clear hA0 hval0 hsz0 hsz
  refine (walk_typNorm W v0 o0 hfact).mono fun e W' ⟨he, bel⟩ => ?_
  subst he
  exact ⟨_, rfl, _, _, _, [], _, [], hW', trodAll_mk1 (shut_bool Tryd.underlying4 _), (trodAll_cons_mk (Below.trod typNorm_laidOut (by kernel_rfl) (of_decide_eq_true (by kernel_rfl)) h0 bel lt0) trodAll_mk0), rfl, bel.frame _, fun h => by cases h⟩
theorem typNorm_said : Rows.TypNormSaid :=
  OpenClaim.holds_of_cond 5 Tryd.f5 rfl rfl rfl rfl rfl rfl rfl ⟨rfl, rfl, rfl, rfl, rfl⟩ rfl rfl rfl rfl rfl (by kernel_rfl) Tryd.func5 (by kernel_rfl)
    (of_decide_eq_true (by kernel_rfl)) (by unfold Func.isWrapper; first | (rw [if_pos (by decide +kernel)]; kernel_rfl) | (rw [if_neg (by decide +kernel)]; exact ⟨rfl, rfl⟩))
    (fun os started H enc _ F => by rw [OpenClaim.pre_eq_preRow]; exact typNorm_lifted os started H enc F)
theorem typNorm_plain (f : FuncId) (fn : Func) (hf : Tryd.pinned.checked.prog.funcNamed "emissary/emissarylaw8.TypNorm" = some f) (hfn : Tryd.pinned.checked.prog.funcs[f]? = some fn) :
    false = Tryd.pinned.checked.prog.looks [] ∧ ∀ (j : Nat) t, fn.params[j]? = some t → Tryd.pinned.checked.prog.wantsStandIn t = false := by
  obtain rfl : f = 5 := Option.some.inj ((show Tryd.prog.funcNamed "emissary/emissarylaw8.TypNorm" = some 5 by kernel_rfl).symm.trans hf) |>.symm
  obtain rfl : fn = Tryd.f5 := (Option.some.inj (Tryd.func5.symm.trans hfn)).symm
  refine ⟨by kernel_rfl, fun j t ht => ?_⟩
  rw [Tryd.params5] at ht
  have hm : t ∈ ([24] : List Nat) := by simpa using Array.mem_of_getElem? ht
  have hall : (([24] : List Nat).all fun u => !Tryd.prog.wantsStandIn u) = true := by kernel_rfl
  exact (show Tryd.prog.wantsStandIn t = false by simpa using List.all_eq_true.1 hall t hm)
theorem typNorm_holds : Rows.TypNormCardSaid :=
  Claim7.holds_tied_plain_at .later [] _ _ _ _ typNorm_said (fun _ h => by cases h) (by kernel_rfl) (fun _ h => by cases h) typNorm_row_tie rfl ⟨rfl, rfl⟩ (by kernel_rfl) rfl typNorm_plain (by kernel_rfl)
#print axioms typNorm_holds
end Go.Proofs.YtcpimmapdhmoiaaDoor

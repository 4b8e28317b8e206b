/- ShowUnlike: two expressions of at most 60 nodes each have one text just if they are one, places aside. No condition but that the tables that the program reads hold what their initialisers lay, to which the card ties them. -/
import Derived.Test.YtoekhejpompjlaaDoorRows
import Derived.Test.YtoekhejpompjlaaDoorCards
import Derived.Test.YtoekhejpompjlaaDoorTie
import Derived.Test.YtoekhejpompjlaaDoorLexL7
import Derived.Test.YtoekhejpompjlaaDoorKnown7
import Derived.Test.YtoekhejpompjlaaDoorFrameX
import Derived.Deep.RegionHeld
namespace Go.Proofs.YtoekhejpompjlaaDoor
open Go.ChangeShapes Go.WideShapes Go.ChangeAt Go.RowKit Go.Em5 Go.Em6
set_option linter.unusedVariables false
set_option linter.unusedSimpArgs false

set_option maxRecDepth 100000 in
set_option maxHeartbeats 8000000 in
theorem walk_showUnlike (w : World) (u v : Value) (hu : ∃ T, IsNd w T u) (hv : ∃ T, IsNd w T v) (hl : IsLaid w) :
    Calls Tryd.prog 6 #[u, v] w fun e w' => e = .returned (.bool true) ∧ Below w.heap.size w w' := by
  obtain ⟨S, hu⟩ := hu
  obtain ⟨T, hv⟩ := hv
  have HLA : Hid (∀ w', Below w.heap.size w w' → IsLaid w') := fun w' h => hl.below h
  have HU : Hid (∀ w', Below w.heap.size w w' → IsNd w' S u) := fun w' h => isNd_below h _ _ hu
  have HV : Hid (∀ w', Below w.heap.size w w' → IsNd w' T v) := fun w' h => isNd_below h _ _ hv
  have HBU : Hid (Em7.Byt (Em7.text S)) := Em7.text_byt S u hu
  have HBV : Hid (Em7.Byt (Em7.text T)) := Em7.text_byt T v hv
  obtain ⟨op, nm, ar, n, p, l⟩ := S
  obtain ⟨op', nm', ar', n', p', l'⟩ := T
  unfold IsNd at hu hv
  obtain ⟨a, cap, rfl, -⟩ := hu
  obtain ⟨a', cap', rfl, -⟩ := hv
  obtain ⟨W, hW⟩ : ∃ W, W = (w.alloc (.cells #[.string (Em.str op), .string (Em.str nm), .string (Em.str ar), .int .i64 n, .int .i64 p, .slice a l.length cap] 24)).alloc (.cells #[.string (Em.str op'), .string (Em.str nm'), .string (Em.str ar'), .int .i64 n', .int .i64 p', .slice a' l'.length cap'] 24) := ⟨_, rfl⟩
  have hbW : Below w.heap.size w W := by rw [hW]; exact ((Below.refl _ _).alloc (Nat.le_refl _) _).alloc (by simp) _
  have e1 : (w.alloc (.cells #[.string (Em.str op), .string (Em.str nm), .string (Em.str ar), .int .i64 n, .int .i64 p, .slice a l.length cap] 24)).heap.size = w.heap.size + 1 := by simp
  have h6 : Six W w.heap.size (.string (Em.str op)) (.string (Em.str nm)) (.string (Em.str ar)) (.int .i64 n) (.int .i64 p) (.slice a l.length cap) := by
    rw [hW]
    exact (Six.made _ _ _ _ _ _ _ _).below ((Below.refl _ _).alloc (Nat.le_refl _) _)
  have h7 : Six W (w.heap.size + 1) (.string (Em.str op')) (.string (Em.str nm')) (.string (Em.str ar')) (.int .i64 n') (.int .i64 p') (.slice a' l'.length cap') := by
    rw [hW, ← e1]; exact Six.made _ _ _ _ _ _ _ _
  have H6 : Hid (∀ w', Below W.heap.size W w' → Six w' w.heap.size (.string (Em.str op)) (.string (Em.str nm)) (.string (Em.str ar)) (.int .i64 n) (.int .i64 p) (.slice a l.length cap)) := fun w' h => h6.below h
  have H7 : Hid (∀ w', Below W.heap.size W w' → Six w' (w.heap.size + 1) (.string (Em.str op')) (.string (Em.str nm')) (.string (Em.str ar')) (.int .i64 n') (.int .i64 p') (.slice a' l'.length cap')) := fun w' h => h7.below h
  have HW : Hid (Below w.heap.size w W) := hbW
  have HWE : Hid ((w.alloc (.cells #[.string (Em.str op), .string (Em.str nm), .string (Em.str ar), .int .i64 n, .int .i64 p, .slice a l.length cap] 24)).alloc (.cells #[.string (Em.str op'), .string (Em.str nm'), .string (Em.str ar'), .int .i64 n', .int .i64 p', .slice a' l'.length cap'] 24) = W) := hW.symm
  obtain ⟨S, hS⟩ : ∃ T, T = Nd.mk op nm ar n p l := ⟨_, rfl⟩
  obtain ⟨T, hT⟩ : ∃ T, T = Nd.mk op' nm' ar' n' p' l' := ⟨_, rfl⟩
  rw [← hS] at HU HBU
  rw [← hT] at HV HBV
  clear hW hbW h6 h7 hl hS hT e1
  go_enter Tryd.func6, Tryd.ntmps6
  go_wp2_with fail
  rw [HWE.out]
  clear HWE
  refine (rSize_any _ _ _ (HU.out _ HW.out)).mono ?_
  rintro e w1 ⟨rfl, hb1⟩
  obtain ⟨z, hz⟩ : ∃ z : Nat, z = min S.size 2001 := ⟨_, rfl⟩
  have hz2 : z ≤ 2001 := by omega
  rw [← hz]
  have hbw1 : Below w.heap.size w w1 := HW.out.trans (hb1.mono HW.out.size)
  clear hz
  by_cases h60 : 60 < z
  · go_wp2_with fail
    go_ret
    exact ⟨rfl, hbw1⟩
  obtain ⟨k0, k1, k2, k3, k4, k5, -⟩ := H7.out _ hb1
  go_wp2_with fail
  refine (rSize_any _ _ _ (HV.out _ hbw1)).mono ?_
  rintro e w2 ⟨rfl, hb2⟩
  obtain ⟨z', hz'⟩ : ∃ z : Nat, z = min T.size 2001 := ⟨_, rfl⟩
  have hz2' : z' ≤ 2001 := by omega
  rw [← hz']
  have hb2' : Below W.heap.size W w2 := hb1.trans (hb2.mono hb1.size)
  have hbw2 : Below w.heap.size w w2 := HW.out.trans (hb2'.mono HW.out.size)
  clear hz' k0 k1 k2 k3 k4 k5 hb1 hbw1 hb2
  by_cases h60' : 60 < z'
  · go_wp2_with fail
    go_ret
    exact ⟨rfl, hbw2⟩
  obtain ⟨g0, g1, g2, g3, g4, g5, -⟩ := H6.out _ hb2'
  go_wp2_with fail
  refine (rIs_any _ _ _ (HU.out _ hbw2)).mono ?_
  rintro e w3 ⟨rfl, hb3⟩
  have hb3' : Below W.heap.size W w3 := hb2'.trans (hb3.mono hb2'.size)
  have hbw3 : Below w.heap.size w w3 := HW.out.trans (hb3'.mono HW.out.size)
  clear g0 g1 g2 g3 g4 g5 hb2' hbw2 hb3
  cases hi : isNd S with
  | false =>
    go_wp2_with fail
    go_ret
    exact ⟨rfl, hbw3⟩
  | true =>
  obtain ⟨k0, k1, k2, k3, k4, k5, -⟩ := H7.out _ hb3'
  go_wp2_with fail
  refine (rIs_any _ _ _ (HV.out _ hbw3)).mono ?_
  rintro e w4 ⟨rfl, hb4⟩
  have hb4' : Below W.heap.size W w4 := hb3'.trans (hb4.mono hb3'.size)
  have hbw4 : Below w.heap.size w w4 := HW.out.trans (hb4'.mono HW.out.size)
  clear k0 k1 k2 k3 k4 k5 hb3' hbw3 hb4
  cases hj : isNd T with
  | false =>
    go_wp2_with fail
    go_ret
    exact ⟨rfl, hbw4⟩
  | true =>
  have HSU : Hid (shown S = Em7.text S) := shown_is hi
  have HSV : Hid (shown T = Em7.text T) := shown_is hj
  have hq0 : ((Em.str (Em7.text S)).toList == (Em.str (Em7.text T)).toList) = same S T := by
    rw [(Em.isStr_str HBU.out).beq (Em.isStr_str HBV.out)]
    exact Em7.text_iff (isNd_each hi).1 (isNd_each hj).1
  obtain ⟨zz, hzz⟩ : ∃ zz, zz = same S T := ⟨_, rfl⟩
  have HQ : Hid (same S T = zz) := hzz.symm
  have hq : ((Em.str (Em7.text S)).toList == (Em.str (Em7.text T)).toList) = zz := by rw [hq0, hzz]
  have HB4 : Hid (Below w.heap.size w w4) := hbw4
  have HX : Hid (Below W.heap.size W w4) := hb4'
  have HS : Hid (∀ w', Below w4.heap.size w4 w' → w'.cell? ⟨w.heap.size, 0, none⟩ = some (.string (Em.str op)) ∧ w'.cell? ⟨w.heap.size, 1, none⟩ = some (.string (Em.str nm)) ∧ w'.cell? ⟨w.heap.size, 2, none⟩ = some (.string (Em.str ar)) ∧ w'.cell? ⟨w.heap.size, 3, none⟩ = some (.int .i64 n) ∧ w'.cell? ⟨w.heap.size, 4, none⟩ = some (.int .i64 p) ∧ w'.cell? ⟨w.heap.size, 5, none⟩ = some (.slice a l.length cap) ∧ w'.cell? ⟨w.heap.size + 1, 0, none⟩ = some (.string (Em.str op')) ∧ w'.cell? ⟨w.heap.size + 1, 1, none⟩ = some (.string (Em.str nm')) ∧ w'.cell? ⟨w.heap.size + 1, 2, none⟩ = some (.string (Em.str ar')) ∧ w'.cell? ⟨w.heap.size + 1, 3, none⟩ = some (.int .i64 n') ∧ w'.cell? ⟨w.heap.size + 1, 4, none⟩ = some (.int .i64 p') ∧ w'.cell? ⟨w.heap.size + 1, 5, none⟩ = some (.slice a' l'.length cap')) := fun w' h => by
    obtain ⟨e0, e1, e2, e3, e4, e5, -⟩ := (H6.out _ HX.out).below h
    obtain ⟨f0, f1, f2, f3, f4, f5, -⟩ := (H7.out _ HX.out).below h
    exact ⟨e0, e1, e2, e3, e4, e5, f0, f1, f2, f3, f4, f5⟩
  have HDU : Hid (∀ w', Below w4.heap.size w4 w' → IsNd w' S (.agg #[.string (Em.str op), .string (Em.str nm), .string (Em.str ar), .int .i64 n, .int .i64 p, .slice a l.length cap])) := fun w' h => HU.out _ (HB4.out.trans (h.mono HB4.out.size))
  have HDV : Hid (∀ w', Below w4.heap.size w4 w' → IsNd w' T (.agg #[.string (Em.str op'), .string (Em.str nm'), .string (Em.str ar'), .int .i64 n', .int .i64 p', .slice a' l'.length cap'])) := fun w' h => HV.out _ (HB4.out.trans (h.mono HB4.out.size))
  have HLB : Hid (∀ w', Below w4.heap.size w4 w' → IsLaid w') := fun w' h => HLA.out _ (HB4.out.trans (h.mono HB4.out.size))
  have b0 : Below w4.heap.size w4 w4.drew := (Below.refl _ _).drew
  clear hb4' hbw4 hi hj hzz hq0
  cases zz
  all_goals
    go_wp2_with fail
    go_region_held (fun w' => w'.cell? ⟨w.heap.size, 0, none⟩ = some (.string (Em.str op)) ∧ w'.cell? ⟨w.heap.size, 1, none⟩ = some (.string (Em.str nm)) ∧ w'.cell? ⟨w.heap.size, 2, none⟩ = some (.string (Em.str ar)) ∧ w'.cell? ⟨w.heap.size, 3, none⟩ = some (.int .i64 n) ∧ w'.cell? ⟨w.heap.size, 4, none⟩ = some (.int .i64 p) ∧ w'.cell? ⟨w.heap.size, 5, none⟩ = some (.slice a l.length cap) ∧ w'.cell? ⟨w.heap.size + 1, 0, none⟩ = some (.string (Em.str op')) ∧ w'.cell? ⟨w.heap.size + 1, 1, none⟩ = some (.string (Em.str nm')) ∧ w'.cell? ⟨w.heap.size + 1, 2, none⟩ = some (.string (Em.str ar')) ∧ w'.cell? ⟨w.heap.size + 1, 3, none⟩ = some (.int .i64 n') ∧ w'.cell? ⟨w.heap.size + 1, 4, none⟩ = some (.int .i64 p') ∧ w'.cell? ⟨w.heap.size + 1, 5, none⟩ = some (.slice a' l'.length cap'))
      (with_reducible (first | exact HS.out _ b8 | exact HS.out _ b7 | exact HS.out _ b6 | exact HS.out _ b5 | exact HS.out _ b0))
      (first | (go_at_call 9; have bq := b5; clear bq; refine (ptext_any T _ _ (HDV.out _ b5) (HLB.out _ b5)).mono ?_; rintro e w6 ⟨rfl, hb6⟩; rw [HSV.out]; have b6 := b5.trans (hb6.mono b5.size); clear hb6) | (go_at_call 9; refine (ptext_any S _ _ (HDU.out _ b0) (HLB.out _ b0)).mono ?_; rintro e w5 ⟨rfl, hb5⟩; rw [HSU.out]; have b5 := b0.trans (hb5.mono b0.size); clear hb5) | (go_at_call 13; refine (rSame_any S T _ _ _ (HDU.out _ b6) (HDV.out _ b6)).mono ?_; rintro e w7 ⟨rfl, hb7⟩; rw [HQ.out]; have b7 := b6.trans (hb7.mono b6.size); clear hb7) | (go_at_call 11; refine (known7_any _ (HLB.out _ b7)).mono ?_; rintro e w8 ⟨rfl, hb8⟩; have b8 := b7.trans (hb8.mono b7.size); clear hb8))
    all_goals
      go_wp2_with fail
      go_ret
      exact ⟨rfl, HB4.out.trans (b8.mono HB4.out.size)⟩

theorem showUnlike_own : ownKnob Tryd.prog.godebug = none := by kernel_rfl
theorem showUnlike_laidOut : laidOutB Tryd.prog = true := by kernel_rfl
theorem showUnlike_met (os : Os) : laidMet Tryd.prog Rows.showUnlikeRow.laid ((laidWorld os).forCall (fun _ _ => 0) ⟨#[], #[.agg #[.string ByteArray.empty, .string ByteArray.empty, .string ByteArray.empty, .int .i64 0, .int .i64 0, .slice none 0 0], .agg #[.string ByteArray.empty, .string ByteArray.empty, .string ByteArray.empty, .int .i64 0, .int .i64 0, .slice none 0 0]], []⟩).memory :=
  laidMet_of_run' 8 (by kernel_rfl) (by kernel_rfl)
theorem showUnlike_reads (os : Os) {H : Type} (enc : TypeId × Value → H) : ∃ places, DataW.whole enc Tryd.prog ((laidWorld os).forCall (fun _ _ => 0) ⟨#[], #[.agg #[.string ByteArray.empty, .string ByteArray.empty, .string ByteArray.empty, .int .i64 0, .int .i64 0, .slice none 0 0], .agg #[.string ByteArray.empty, .string ByteArray.empty, .string ByteArray.empty, .int .i64 0, .int .i64 0, .slice none 0 0]], []⟩).memory Tryd.f6.params.toList Rows.showUnlikeSpec.vars false (#[.agg #[.string ByteArray.empty, .string ByteArray.empty, .string ByteArray.empty, .int .i64 0, .int .i64 0, .slice none 0 0], .agg #[.string ByteArray.empty, .string ByteArray.empty, .string ByteArray.empty, .int .i64 0, .int .i64 0, .slice none 0 0]] : Array Value).toList 8 = some ([.agg [.lit (.string []), .lit (.string []), .lit (.string []), .lit (.int .i64 0), .lit (.int .i64 0), .nil], .agg [.lit (.string []), .lit (.string []), .lit (.string []), .lit (.int .i64 0), .lit (.int .i64 0), .nil]], [], places) :=
  ⟨[], by kernel_rfl⟩
set_option maxRecDepth 100000 in
theorem showUnlike_lifted (os : Os) (started : os.Started) (H : Type) (enc : TypeId × Value → H) (F : Stop.Interp) :
    ReturnsInHanded {} Tryd.checked os 6 .any ((OpenSpec.ofChange Rows.showUnlikeSpec).preRow enc Tryd.prog Tryd.f6 Rows.showUnlikeRow.domain false Rows.showUnlikeRow.laid) (((OpenSpec.ofChange Rows.showUnlikeSpec).at F).post enc Tryd.prog Tryd.f6 false true false false) := by
  obtain ⟨places, hx⟩ := showUnlike_reads os enc
  refine returnsInHanded_of_row (C := Tryd.checked) (s := OpenSpec.ofChange Rows.showUnlikeSpec) showUnlike_own started (by kernel_rfl) Tryd.func6
    (witness_row_at (enc := enc) (C := Tryd.checked) false (laidWorld os) #[.agg #[.string ByteArray.empty, .string ByteArray.empty, .string ByteArray.empty, .int .i64 0, .int .i64 0, .slice none 0 0], .agg #[.string ByteArray.empty, .string ByteArray.empty, .string ByteArray.empty, .int .i64 0, .int .i64 0, .slice none 0 0]] rfl (by kernel_rfl) (by kernel_rfl) (by kernel_rfl)
      (OpenSpec.preRow_of_cond 8 hx (by kernel_rfl) (fun k hk => by cases hk) (by kernel_rfl) (showUnlike_met os))) ?_
  intro W base args ds gs before hval0 hW _ _ hsz0 hL _ _
  have hfact := laid_of_row hL
  have hval : ∀ (j : Nat) t v, Tryd.f6.params[j]? = some t → args[j]? = some v → Value.okWide Tryd.prog W .any base t v := hval0
  have hW' := hW
  obtain ⟨p, q, hA0, hV, rfl, hfz, hnd⟩ := hW
  have hA : DataW.TrodAll enc Tryd.prog W 0 (fun _ => true) true Tryd.f6.params.toList args.toList ds p := hA0
  have hsz : (DataW.weightsEach Tryd.prog (Tryd.f6.params.toList ++ Rows.showUnlikeSpec.plain.varTypes Tryd.prog) (ds ++ gs)).all (· ≤ reachBytes) = true := hsz0
  rw [Tryd.params6] at hA hval hsz
  obtain ⟨v0, vs0, d0, ds0, p0, q0, hargs, rfl, rfl, h0, r0⟩ := trodAll_cons hA
  obtain ⟨v1, vs1, d1, ds1, p1, q1, rfl, rfl, rfl, h1, r1⟩ := trodAll_cons r0
  obtain ⟨rfl, rfl, rfl⟩ := trodAll_nil r1
  obtain rfl : args = #[v0, v1] := by cases args; simp_all
  obtain ⟨rfl, rfl⟩ := trodVars_none hV
  have lt0 : ∀ x ∈ p0, x.block < W.heap.size := by obtain ⟨m, hm⟩ := h0; exact DataW.trod_lt m _ _ _ hm
  have o0 := open_nd (hval 0 24 v0 rfl rfl) h0 (Em.sized_arg hsz 0 rfl rfl)
  have lt1 : ∀ x ∈ p1, x.block < W.heap.size := by obtain ⟨m, hm⟩ := h1; exact DataW.trod_lt m _ _ _ hm
  have o1 := open_nd (hval 1 24 v1 rfl rfl) h1 (Em.sized_arg hsz 1 rfl rfl)
  clear hA0 hval0 hsz0 hsz
  refine (walk_showUnlike W v0 v1 o0 o1 hfact).mono fun e W' ⟨he, bel⟩ => ?_
  subst he
  exact ⟨_, rfl, _, _, _, [], _, [], hW', trodAll_mk1 (shut_bool Tryd.underlying4 _), (trodAll_cons_mk (Below.trod showUnlike_laidOut (by kernel_rfl) (of_decide_eq_true (by kernel_rfl)) h0 bel lt0) (trodAll_cons_mk (Below.trod showUnlike_laidOut (by kernel_rfl) (of_decide_eq_true (by kernel_rfl)) h1 bel lt1) trodAll_mk0)), rfl, bel.frame _, fun h => by cases h⟩
theorem showUnlike_said : Rows.ShowUnlikeSaid :=
  OpenClaim.holds_of_cond 6 Tryd.f6 rfl rfl rfl rfl rfl rfl rfl ⟨rfl, rfl, rfl, rfl, rfl⟩ rfl rfl rfl rfl rfl (by kernel_rfl) Tryd.func6 (by kernel_rfl)
    (of_decide_eq_true (by kernel_rfl)) (by unfold Func.isWrapper; first | (rw [if_pos (by decide +kernel)]; kernel_rfl) | (rw [if_neg (by decide +kernel)]; exact ⟨rfl, rfl⟩))
    (fun os started H enc _ F => by rw [OpenClaim.pre_eq_preRow]; exact showUnlike_lifted os started H enc F)
theorem showUnlike_plain (f : FuncId) (fn : Func) (hf : Tryd.pinned.checked.prog.funcNamed "emissary/emissarylaw7.ShowUnlike" = some f) (hfn : Tryd.pinned.checked.prog.funcs[f]? = some fn) :
    false = Tryd.pinned.checked.prog.looks [] ∧ ∀ (j : Nat) t, fn.params[j]? = some t → Tryd.pinned.checked.prog.wantsStandIn t = false := by
  obtain rfl : f = 6 := Option.some.inj ((show Tryd.prog.funcNamed "emissary/emissarylaw7.ShowUnlike" = some 6 by kernel_rfl).symm.trans hf) |>.symm
  obtain rfl : fn = Tryd.f6 := (Option.some.inj (Tryd.func6.symm.trans hfn)).symm
  refine ⟨by kernel_rfl, fun j t ht => ?_⟩
  rw [Tryd.params6] at ht
  have hm : t ∈ ([24, 24] : List Nat) := by simpa using Array.mem_of_getElem? ht
  have hall : (([24, 24] : List Nat).all fun u => !Tryd.prog.wantsStandIn u) = true := by kernel_rfl
  exact (show Tryd.prog.wantsStandIn t = false by simpa using List.all_eq_true.1 hall t hm)
theorem showUnlike_holds : Rows.ShowUnlikeCardSaid :=
  Claim7.holds_tied_plain_at .later [] _ _ _ _ showUnlike_said (fun _ h => by cases h) (by kernel_rfl) (fun _ h => by cases h) showUnlike_row_tie rfl ⟨rfl, rfl⟩ (by kernel_rfl) rfl showUnlike_plain (by kernel_rfl)
#print axioms showUnlike_holds
end Go.Proofs.YtoekhejpompjlaaDoor

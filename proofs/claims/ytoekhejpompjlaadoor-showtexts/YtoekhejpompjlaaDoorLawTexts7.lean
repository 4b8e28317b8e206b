/- ShowTexts: an expression of at most 150 nodes is shown as the document says. No condition but that the tables that the program reads hold what their initialisers lay, to which the card ties them. -/
import Derived.Test.YtoekhejpompjlaaDoorRows
import Derived.Test.YtoekhejpompjlaaDoorCards
import Derived.Test.YtoekhejpompjlaaDoorTie
import Derived.Test.YtoekhejpompjlaaDoorLexL7
import Derived.Test.YtoekhejpompjlaaDoorKnown7
import Derived.Test.YtoekhejpompjlaaDoorFrameX
import Derived.Deep.RegionHeld
namespace Go.Proofs.YtoekhejpompjlaaDoor
open Go.ChangeShapes Go.WideShapes Go.ChangeAt Go.RowKit Go.Em5 Go.Em6
set_option linter.unusedVariables false
set_option linter.unusedSimpArgs false

set_option maxRecDepth 100000 in
set_option maxHeartbeats 4000000 in
theorem walk_showTexts (w : World) (v : Value) (hv : ∃ T, IsNd w T v) (hl : IsLaid w) :
    Calls Tryd.prog 3 #[v] w fun e w' => e = .returned (.bool true) ∧ Below w.heap.size w w' := by
  obtain ⟨T, hv⟩ := hv
  have HLA : Hid (∀ w', Below w.heap.size w w' → IsLaid w') := fun w' h => hl.below h
  have HV : Hid (∀ w', Below w.heap.size w w' → IsNd w' T v) := fun w' h => isNd_below h _ _ hv
  have HBY : Hid (Em7.Byt (Em7.text T)) := Em7.text_byt T v hv
  obtain ⟨op, nm, ar, n, p, l⟩ := T
  unfold IsNd at hv
  obtain ⟨a, cap, rfl, -⟩ := hv
  obtain ⟨W, hW⟩ : ∃ W, W = w.alloc (.cells #[.string (Em.str op), .string (Em.str nm), .string (Em.str ar), .int .i64 n, .int .i64 p, .slice a l.length cap] 24) := ⟨_, rfl⟩
  have hbW : Below w.heap.size w W := by rw [hW]; exact (Below.refl _ _).alloc (Nat.le_refl _) _
  have h6 : Six W w.heap.size (.string (Em.str op)) (.string (Em.str nm)) (.string (Em.str ar)) (.int .i64 n) (.int .i64 p) (.slice a l.length cap) := by rw [hW]; exact Six.made _ _ _ _ _ _ _ _
  have H6 : Hid (∀ w', Below W.heap.size W w' → Six w' w.heap.size (.string (Em.str op)) (.string (Em.str nm)) (.string (Em.str ar)) (.int .i64 n) (.int .i64 p) (.slice a l.length cap)) := fun w' h => h6.below h
  have HW : Hid (Below w.heap.size w W) := hbW
  have HWE : Hid (w.alloc (.cells #[.string (Em.str op), .string (Em.str nm), .string (Em.str ar), .int .i64 n, .int .i64 p, .slice a l.length cap] 24) = W) := hW.symm
  obtain ⟨T, hT⟩ : ∃ T, T = Nd.mk op nm ar n p l := ⟨_, rfl⟩
  rw [← hT] at HV HBY
  clear hW hbW h6 hl hT
  go_enter Tryd.func3, Tryd.ntmps3
  go_wp2_with fail
  rw [HWE.out]
  clear HWE
  refine (rSize_any _ _ _ (HV.out _ HW.out)).mono ?_
  rintro e w1 ⟨rfl, hb1⟩
  obtain ⟨z, hz⟩ : ∃ z : Nat, z = min T.size 2001 := ⟨_, rfl⟩
  have hz2 : z ≤ 2001 := by omega
  rw [← hz]
  have hbw1 : Below w.heap.size w w1 := HW.out.trans (hb1.mono HW.out.size)
  clear hz
  by_cases h80 : 150 < z
  · go_wp2_with fail
    go_ret
    exact ⟨rfl, hbw1⟩
  obtain ⟨g0, g1, g2, g3, g4, g5, -⟩ := H6.out _ hb1
  go_wp2_with fail
  refine (rIs_any _ _ _ (HV.out _ hbw1)).mono ?_
  rintro e w2 ⟨rfl, hb2⟩
  have hb2' : Below W.heap.size W w2 := hb1.trans (hb2.mono hb1.size)
  have hbw2 : Below w.heap.size w w2 := HW.out.trans (hb2'.mono HW.out.size)
  clear g0 g1 g2 g3 g4 g5 hb1 hbw1 hb2
  cases hi : isNd T with
  | false =>
    go_wp2_with fail
    go_ret
    exact ⟨rfl, hbw2⟩
  | true =>
    obtain ⟨hea, hes⟩ := isNd_each hi
    have HPT := Em7.parse_text hea
    have HLN : Hid ((Em7.text T).length ≤ 300000) := by have := Em7.text_len T hea; rw [Hid]; omega
    have HEA : Hid (each T = true ∧ T.size ≤ 2000) := ⟨hea, hes⟩
    have HPT : Hid _ := HPT
    have HSH : Hid (shown T = Em7.text T) := shown_is hi
    clear hi hea hes
    have HB2 : Hid (Below w.heap.size w w2) := hbw2
    have HX : Hid (Below W.heap.size W w2) := hb2'
    have HS : Hid (∀ w', Below w2.heap.size w2 w' → w'.cell? ⟨w.heap.size, 0, none⟩ = some (.string (Em.str op)) ∧ w'.cell? ⟨w.heap.size, 1, none⟩ = some (.string (Em.str nm)) ∧ w'.cell? ⟨w.heap.size, 2, none⟩ = some (.string (Em.str ar)) ∧ w'.cell? ⟨w.heap.size, 3, none⟩ = some (.int .i64 n) ∧ w'.cell? ⟨w.heap.size, 4, none⟩ = some (.int .i64 p) ∧ w'.cell? ⟨w.heap.size, 5, none⟩ = some (.slice a l.length cap)) := fun w' h => by
      obtain ⟨e0, e1, e2, e3, e4, e5, -⟩ := (H6.out _ HX.out).below h
      exact ⟨e0, e1, e2, e3, e4, e5⟩
    have HD : Hid (∀ w', Below w2.heap.size w2 w' → IsNd w' T (.agg #[.string (Em.str op), .string (Em.str nm), .string (Em.str ar), .int .i64 n, .int .i64 p, .slice a l.length cap])) := fun w' h => HV.out _ (HB2.out.trans (h.mono HB2.out.size))
    have HLB : Hid (∀ w', Below w2.heap.size w2 w' → IsLaid w') := fun w' h => HLA.out _ (HB2.out.trans (h.mono HB2.out.size))
    have b0 : Below w2.heap.size w2 w2.drew := (Below.refl _ _).drew
    clear hb2' hbw2 HPT
    go_wp2_with fail
    go_region_held (fun w' => w'.cell? ⟨w.heap.size, 0, none⟩ = some (.string (Em.str op)) ∧ w'.cell? ⟨w.heap.size, 1, none⟩ = some (.string (Em.str nm)) ∧ w'.cell? ⟨w.heap.size, 2, none⟩ = some (.string (Em.str ar)) ∧ w'.cell? ⟨w.heap.size, 3, none⟩ = some (.int .i64 n) ∧ w'.cell? ⟨w.heap.size, 4, none⟩ = some (.int .i64 p) ∧ w'.cell? ⟨w.heap.size, 5, none⟩ = some (.slice a l.length cap))
      (with_reducible (first | exact HS.out _ b5 | exact HS.out _ b4 | exact HS.out _ b3 | exact HS.out _ b0))
      (first | (go_at_call 9; refine (ptext_any T _ _ (HD.out _ b0) (HLB.out _ b0)).mono ?_; rintro e w3 ⟨rfl, hb3⟩; rw [HSH.out]; have b3 := b0.trans (hb3.mono b0.size); clear hb3) | (go_at_call 10; refine (stext_any T _ _ (HD.out _ b3) HEA.out.1 HEA.out.2).mono ?_; rintro e w4 ⟨rfl, hb4⟩; have b4 := b3.trans (hb4.mono b3.size); clear hb4) | (go_at_call 11; refine (known7_any _ (HLB.out _ b4)).mono ?_; rintro e w5 ⟨rfl, hb5⟩; have b5 := b4.trans (hb5.mono b4.size); clear hb5))
    all_goals
      go_wp2_with fail
      go_ret
      exact ⟨rfl, HB2.out.trans (b5.mono HB2.out.size)⟩

theorem showTexts_own : ownKnob Tryd.prog.godebug = none := by kernel_rfl
theorem showTexts_laidOut : laidOutB Tryd.prog = true := by kernel_rfl
theorem showTexts_met (os : Os) : laidMet Tryd.prog Rows.showTextsRow.laid ((laidWorld os).forCall (fun _ _ => 0) ⟨#[], #[.agg #[.string ByteArray.empty, .string ByteArray.empty, .string ByteArray.empty, .int .i64 0, .int .i64 0, .slice none 0 0]], []⟩).memory :=
  laidMet_of_run' 8 (by kernel_rfl) (by kernel_rfl)
theorem showTexts_reads (os : Os) {H : Type} (enc : TypeId × Value → H) : ∃ places, DataW.whole enc Tryd.prog ((laidWorld os).forCall (fun _ _ => 0) ⟨#[], #[.agg #[.string ByteArray.empty, .string ByteArray.empty, .string ByteArray.empty, .int .i64 0, .int .i64 0, .slice none 0 0]], []⟩).memory Tryd.f3.params.toList Rows.showTextsSpec.vars false (#[.agg #[.string ByteArray.empty, .string ByteArray.empty, .string ByteArray.empty, .int .i64 0, .int .i64 0, .slice none 0 0]] : Array Value).toList 8 = some ([.agg [.lit (.string []), .lit (.string []), .lit (.string []), .lit (.int .i64 0), .lit (.int .i64 0), .nil]], [], places) :=
  ⟨[], by kernel_rfl⟩
set_option maxRecDepth 100000 in
theorem showTexts_lifted (os : Os) (started : os.Started) (H : Type) (enc : TypeId × Value → H) (F : Stop.Interp) :
    ReturnsInHanded {} Tryd.checked os 3 .any ((OpenSpec.ofChange Rows.showTextsSpec).preRow enc Tryd.prog Tryd.f3 Rows.showTextsRow.domain false Rows.showTextsRow.laid) (((OpenSpec.ofChange Rows.showTextsSpec).at F).post enc Tryd.prog Tryd.f3 false true false false) := by
  obtain ⟨places, hx⟩ := showTexts_reads os enc
  refine returnsInHanded_of_row (C := Tryd.checked) (s := OpenSpec.ofChange Rows.showTextsSpec) showTexts_own started (by kernel_rfl) Tryd.func3
    (witness_row_at (enc := enc) (C := Tryd.checked) false (laidWorld os) #[.agg #[.string ByteArray.empty, .string ByteArray.empty, .string ByteArray.empty, .int .i64 0, .int .i64 0, .slice none 0 0]] rfl (by kernel_rfl) (by kernel_rfl) (by kernel_rfl)
      (OpenSpec.preRow_of_cond 8 hx (by kernel_rfl) (fun k hk => by cases hk) (by kernel_rfl) (showTexts_met os))) ?_
  intro W base args ds gs before hval0 hW _ _ hsz0 hL _ _
  have hfact := laid_of_row hL
  have hval : ∀ (j : Nat) t v, Tryd.f3.params[j]? = some t → args[j]? = some v → Value.okWide Tryd.prog W .any base t v := hval0
  have hW' := hW
  obtain ⟨p, q, hA0, hV, rfl, hfz, hnd⟩ := hW
  have hA : DataW.TrodAll enc Tryd.prog W 0 (fun _ => true) true Tryd.f3.params.toList args.toList ds p := hA0
  have hsz : (DataW.weightsEach Tryd.prog (Tryd.f3.params.toList ++ Rows.showTextsSpec.plain.varTypes Tryd.prog) (ds ++ gs)).all (· ≤ reachBytes) = true := hsz0
  rw [Tryd.params3] at hA hval hsz
  obtain ⟨v0, vs0, d0, ds0, p0, q0, hargs, rfl, rfl, h0, r0⟩ := trodAll_cons hA
  obtain ⟨rfl, rfl, rfl⟩ := trodAll_nil r0
  obtain rfl : args = #[v0] := by cases args; simp_all
  obtain ⟨rfl, rfl⟩ := trodVars_none hV
  have lt0 : ∀ x ∈ p0, x.block < W.heap.size := by obtain ⟨m, hm⟩ := h0; exact DataW.trod_lt m _ _ _ hm
  have o0 := open_nd (hval 0 24 v0 rfl rfl) h0 (Em.sized_arg hsz 0 rfl rfl)
  clear hA0 hval0 hsz0 hsz
  refine (walk_showTexts W v0 o0 hfact).mono fun e W' ⟨he, bel⟩ => ?_
  subst he
  exact ⟨_, rfl, _, _, _, [], _, [], hW', trodAll_mk1 (shut_bool Tryd.underlying4 _), (trodAll_cons_mk (Below.trod showTexts_laidOut (by kernel_rfl) (of_decide_eq_true (by kernel_rfl)) h0 bel lt0) trodAll_mk0), rfl, bel.frame _, fun h => by cases h⟩
theorem showTexts_said : Rows.ShowTextsSaid :=
  OpenClaim.holds_of_cond 3 Tryd.f3 rfl rfl rfl rfl rfl rfl rfl ⟨rfl, rfl, rfl, rfl, rfl⟩ rfl rfl rfl rfl rfl (by kernel_rfl) Tryd.func3 (by kernel_rfl)
    (of_decide_eq_true (by kernel_rfl)) (by unfold Func.isWrapper; first | (rw [if_pos (by decide +kernel)]; kernel_rfl) | (rw [if_neg (by decide +kernel)]; exact ⟨rfl, rfl⟩))
    (fun os started H enc _ F => by rw [OpenClaim.pre_eq_preRow]; exact showTexts_lifted os started H enc F)
theorem showTexts_plain (f : FuncId) (fn : Func) (hf : Tryd.pinned.checked.prog.funcNamed "emissary/emissarylaw7.ShowTexts" = some f) (hfn : Tryd.pinned.checked.prog.funcs[f]? = some fn) :
    false = Tryd.pinned.checked.prog.looks [] ∧ ∀ (j : Nat) t, fn.params[j]? = some t → Tryd.pinned.checked.prog.wantsStandIn t = false := by
  obtain rfl : f = 3 := Option.some.inj ((show Tryd.prog.funcNamed "emissary/emissarylaw7.ShowTexts" = some 3 by kernel_rfl).symm.trans hf) |>.symm
  obtain rfl : fn = Tryd.f3 := (Option.some.inj (Tryd.func3.symm.trans hfn)).symm
  refine ⟨by kernel_rfl, fun j t ht => ?_⟩
  rw [Tryd.params3] at ht
  have hm : t ∈ ([24] : List Nat) := by simpa using Array.mem_of_getElem? ht
  have hall : (([24] : List Nat).all fun u => !Tryd.prog.wantsStandIn u) = true := by kernel_rfl
  exact (show Tryd.prog.wantsStandIn t = false by simpa using List.all_eq_true.1 hall t hm)
theorem showTexts_holds : Rows.ShowTextsCardSaid :=
  Claim7.holds_tied_plain_at .later [] _ _ _ _ showTexts_said (fun _ h => by cases h) (by kernel_rfl) (fun _ h => by cases h) showTexts_row_tie rfl ⟨rfl, rfl⟩ (by kernel_rfl) rfl showTexts_plain (by kernel_rfl)
#print axioms showTexts_holds
end Go.Proofs.YtoekhejpompjlaaDoor

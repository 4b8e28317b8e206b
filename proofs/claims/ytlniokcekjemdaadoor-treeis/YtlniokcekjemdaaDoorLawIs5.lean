/- TreeIs: of any expression of at most 300 nodes Is, IsValue (if it is one) and Size answer what the document says. No condition but that lex.signs holds what its initialiser lays, to which the card ties it. -/
import Derived.Test.YtlniokcekjemdaaDoorRows
import Derived.Test.YtlniokcekjemdaaDoorCards
import Derived.Test.YtlniokcekjemdaaDoorTie
import Derived.Test.YtlniokcekjemdaaDoorLexL
import Derived.Test.YtlniokcekjemdaaDoorKnown5
import Derived.Test.YtlniokcekjemdaaDoorRTreeC
import Derived.Test.YtlniokcekjemdaaDoorFrameM
import Derived.Deep.RegionHeld
import Derived.Deep.RegionWith
namespace Go.Proofs.YtlniokcekjemdaaDoor
open Go.ChangeShapes Go.WideShapes Go.ChangeAt Go.RowKit
set_option linter.unusedVariables false
set_option linter.unusedSimpArgs false

set_option maxRecDepth 100000 in
set_option maxHeartbeats 4000000 in
theorem walk_treeIs (w : World) (v : Value) (hv : ∃ T, Em5.IsNd w T v) (hg : IsSigns w) :
    Calls Tryd.prog 3 #[v] w fun e w' => e = .returned (.bool true) ∧ Below w.heap.size w w' := by
  obtain ⟨T, hv⟩ := hv
  have HSG : Hid (∀ w', Below w.heap.size w w' → IsSigns w') := fun w' h => hg.below h hg.lt
  have HV : Hid (∀ w', Below w.heap.size w w' → Em5.IsNd w' T v) := fun w' h => Em5.isNd_below h _ _ hv
  obtain ⟨op, nm, ar, n, p, l⟩ := T
  unfold Em5.IsNd at hv
  obtain ⟨a, cap, rfl, -⟩ := hv
  obtain ⟨W, hW⟩ : ∃ W, W = w.alloc (.cells #[.string (Em.str op), .string (Em.str nm), .string (Em.str ar), .int .i64 n, .int .i64 p, .slice a l.length cap] 24) := ⟨_, rfl⟩
  have hbW : Below w.heap.size w W := by rw [hW]; exact (Below.refl _ _).alloc (Nat.le_refl _) _
  have h6 : Node6 W w.heap.size (.string (Em.str op)) (.string (Em.str nm)) (.string (Em.str ar)) (.int .i64 n) (.int .i64 p) (.slice a l.length cap) := by rw [hW]; exact Node6.made _ _ _ _ _ _ _ _
  have H6 : Hid (∀ w', Below W.heap.size W w' → Node6 w' w.heap.size (.string (Em.str op)) (.string (Em.str nm)) (.string (Em.str ar)) (.int .i64 n) (.int .i64 p) (.slice a l.length cap)) := fun w' h => h6.bes (mb := w.heap.size + 1) (mf := w.heap.size + 1) (Bes2.of h) (by omega) (by omega)
  have HW : Hid (Below w.heap.size w W) := hbW
  have HWE : Hid (w.alloc (.cells #[.string (Em.str op), .string (Em.str nm), .string (Em.str ar), .int .i64 n, .int .i64 p, .slice a l.length cap] 24) = W) := hW.symm
  obtain ⟨T, hT⟩ : ∃ T, T = Em5.Nd.mk op nm ar n p l := ⟨_, rfl⟩
  rw [← hT] at HV
  clear hW hbW h6 hg hT
  go_enter Tryd.func3, Tryd.ntmps3
  go_wp2_with fail
  rw [HWE.out]
  clear HWE
  refine (rSize_any _ _ _ (HV.out _ HW.out)).mono ?_
  rintro e w1 ⟨rfl, hb1⟩
  obtain ⟨z, hz⟩ : ∃ z : Nat, z = min T.size 2001 := ⟨_, rfl⟩
  have hz2 : z ≤ 2001 := by omega
  rw [← hz]
  have HZ : Hid (z = min T.size 2001) := hz
  have hbw1 : Below w.heap.size w w1 := HW.out.trans (hb1.mono HW.out.size)
  clear hz
  by_cases h300 : 300 < z
  · go_wp2
    go_ret
    exact ⟨rfl, hbw1⟩
  · obtain ⟨x0, x1, x2, x3, x4, x5⟩ := H6.out _ hb1
    go_wp2_with fail
    refine (rIs_any _ _ _ (HV.out _ hbw1)).mono ?_
    rintro e w2 ⟨rfl, hb2⟩
    have hb2' : Below W.heap.size W w2 := hb1.trans (hb2.mono hb1.size)
    have hbw2 : Below w.heap.size w w2 := HW.out.trans (hb2'.mono HW.out.size)
    clear x0 x1 x2 x3 x4 x5 hb1 hbw1 hb2
    obtain ⟨q, hq⟩ : ∃ q, q = Em5.isVal T := ⟨_, rfl⟩
    have HVL : Hid (Em5.isVal T = q) := hq.symm
    clear hq
    cases hi : Em5.isNd T with
    | false =>
      have HI : Hid (Em5.isNd T = false) := hi
      clear hi
      have HC : Hid (∀ w', Below W.heap.size W w' → Below w.heap.size w w') := fun w' h => HW.out.trans (h.mono HW.out.size)
      have hcd := hb2'.drew
      go_wp2_with fail
      obtain ⟨x0, x1, x2, x3, x4, x5⟩ := H6.out _ hb2'
      clear hbw2
      go_region_with (first
        | (go_at_call 9; refine (tIs_any T _ _ (HV.out _ (HC.out _ hcd)) (HSG.out _ (HC.out _ hcd))).mono ?_; rintro e w4 ⟨rfl, hb4⟩; rw [HI.out]; have h4 : Below W.heap.size W w4 := hcd.trans (hb4.mono hcd.size); obtain ⟨y0, y1, y2, y3, y4, y5⟩ := H6.out _ h4; clear hb4)
        | (go_at_call 12; refine (tSize_any T _ _ (HV.out _ (by with_reducible (first | exact HC.out _ h8 | exact HC.out _ h4)))).mono ?_; rintro e w7 ⟨rfl, hb7⟩; rw [← HZ.out]; have h7 : Below W.heap.size W w7 := (by with_reducible (first | exact h8.trans (hb7.mono h8.size) | exact h4.trans (hb7.mono h4.size))); obtain ⟨u0, u1, u2, u3, u4, u5⟩ := H6.out _ h7; clear hb7)
        | (go_at_call 7; refine (rSize_any T _ _ (HV.out _ (by with_reducible (first | exact HC.out _ h7 | exact HC.out _ h4)))).mono ?_; rintro e w8 ⟨rfl, hb8⟩; rw [← HZ.out]; have h8 : Below W.heap.size W w8 := (by with_reducible (first | exact h7.trans (hb8.mono h7.size) | exact h4.trans (hb8.mono h4.size))); obtain ⟨v0, v1, v2, v3, v4, v5⟩ := H6.out _ h8; clear hb8)
        | (go_at_call 13; refine (known5_any _ (HSG.out _ (by with_reducible (first | exact HC.out _ h8 | exact HC.out _ h7)))).mono ?_; rintro e w9 ⟨rfl, hb9⟩; have h9 : Below W.heap.size W w9 := (by with_reducible (first | exact h8.trans (hb9.mono h8.size) | exact h7.trans (hb9.mono h7.size)))))
      all_goals
        go_wp2
        go_ret
        exact ⟨rfl, HC.out _ h9⟩
    | true =>
      have HI : Hid (Em5.isNd T = true) := hi
      clear hi
      go_wp2_with fail
      obtain ⟨x0, x1, x2, x3, x4, x5⟩ := H6.out _ hb2'
      have HS0 : Hid (Below w.heap.size w w2.drew ∧ w2.drew.cell? ⟨w.heap.size, 0, none⟩ = some (.string (Em.str op)) ∧ w2.drew.cell? ⟨w.heap.size, 1, none⟩ = some (.string (Em.str nm)) ∧ w2.drew.cell? ⟨w.heap.size, 2, none⟩ = some (.string (Em.str ar)) ∧ w2.drew.cell? ⟨w.heap.size, 3, none⟩ = some (.int .i64 n) ∧ w2.drew.cell? ⟨w.heap.size, 4, none⟩ = some (.int .i64 p) ∧ w2.drew.cell? ⟨w.heap.size, 5, none⟩ = some (.slice a l.length cap) ∧ w.heap.size < w2.drew.heap.size) :=
        ⟨hbw2.drew, x0, x1, x2, x3, x4, x5, Em.cell_lt x0⟩
      clear x0 x1 x2 x3 x4 x5 hb2' hbw2
      go_region_held (fun w' => Below w.heap.size w w' ∧ w'.cell? ⟨w.heap.size, 0, none⟩ = some (.string (Em.str op)) ∧ w'.cell? ⟨w.heap.size, 1, none⟩ = some (.string (Em.str nm)) ∧ w'.cell? ⟨w.heap.size, 2, none⟩ = some (.string (Em.str ar)) ∧ w'.cell? ⟨w.heap.size, 3, none⟩ = some (.int .i64 n) ∧ w'.cell? ⟨w.heap.size, 4, none⟩ = some (.int .i64 p) ∧ w'.cell? ⟨w.heap.size, 5, none⟩ = some (.slice a l.length cap) ∧ w.heap.size < w'.heap.size)
        (with_reducible (first | exact HS0.out | exact each_keep hb9 (by assumption) | exact each_keep hb8 (by assumption) | exact each_keep hb7 (by assumption) | exact each_keep hb6 (by assumption) | exact each_keep hb5 (by assumption) | exact each_keep hb4 (by assumption)))
        (first
          | (go_at_call 9; refine (tIs_any T _ _ (HV.out _ (Em.held1 (by assumption))) (HSG.out _ (Em.held1 (by assumption)))).mono ?_; rintro e w4 ⟨rfl, hb4⟩; rw [HI.out])
          | (go_at_call 10; refine (tIsValue_any T _ _ (HV.out _ (Em.held1 (by assumption)))).mono ?_; rintro e w5 ⟨rfl, hb5⟩; rw [HVL.out])
          | (go_at_call 11; refine (rIsValue_any T _ _ (HV.out _ (Em.held1 (by assumption)))).mono ?_; rintro e w6 ⟨rfl, hb6⟩; rw [HVL.out])
          | (go_at_call 12; refine (tSize_any T _ _ (HV.out _ (Em.held1 (by assumption)))).mono ?_; rintro e w7 ⟨rfl, hb7⟩; rw [← HZ.out])
          | (go_at_call 7; refine (rSize_any T _ _ (HV.out _ (Em.held1 (by assumption)))).mono ?_; rintro e w8 ⟨rfl, hb8⟩; rw [← HZ.out])
          | (go_at_call 13; refine (known5_any _ (HSG.out _ (Em.held1 (by assumption)))).mono ?_; rintro e w9 ⟨rfl, hb9⟩))
      all_goals
        go_wp2
        go_ret
        exact ⟨rfl, Em.held1 (by assumption)⟩

theorem treeIs_own : ownKnob Tryd.prog.godebug = none := by kernel_rfl
theorem treeIs_laidOut : laidOutB Tryd.prog = true := by kernel_rfl
theorem treeIs_met (os : Os) : laidMet Tryd.prog Rows.treeIsRow.laid ((laidWorld os).forCall (fun _ _ => 0) ⟨#[], #[.agg #[.string ByteArray.empty, .string ByteArray.empty, .string ByteArray.empty, .int .i64 0, .int .i64 0, .slice none 0 0]], []⟩).memory :=
  laidMet_of_run' 8 (by kernel_rfl) (by kernel_rfl)
theorem treeIs_reads (os : Os) {H : Type} (enc : TypeId × Value → H) : ∃ places, DataW.whole enc Tryd.prog ((laidWorld os).forCall (fun _ _ => 0) ⟨#[], #[.agg #[.string ByteArray.empty, .string ByteArray.empty, .string ByteArray.empty, .int .i64 0, .int .i64 0, .slice none 0 0]], []⟩).memory Tryd.f3.params.toList Rows.treeIsSpec.vars false (#[.agg #[.string ByteArray.empty, .string ByteArray.empty, .string ByteArray.empty, .int .i64 0, .int .i64 0, .slice none 0 0]] : Array Value).toList 8 = some ([.agg [.lit (.string []), .lit (.string []), .lit (.string []), .lit (.int .i64 0), .lit (.int .i64 0), .nil]], [], places) :=
  ⟨[], by kernel_rfl⟩
set_option maxRecDepth 100000 in
theorem treeIs_lifted (os : Os) (started : os.Started) (H : Type) (enc : TypeId × Value → H) (F : Stop.Interp) :
    ReturnsInHanded {} Tryd.checked os 3 .any ((OpenSpec.ofChange Rows.treeIsSpec).preRow enc Tryd.prog Tryd.f3 Rows.treeIsRow.domain false Rows.treeIsRow.laid) (((OpenSpec.ofChange Rows.treeIsSpec).at F).post enc Tryd.prog Tryd.f3 false true false false) := by
  obtain ⟨places, hx⟩ := treeIs_reads os enc
  refine returnsInHanded_of_row (C := Tryd.checked) (s := OpenSpec.ofChange Rows.treeIsSpec) treeIs_own started (by kernel_rfl) Tryd.func3
    (witness_row_at (enc := enc) (C := Tryd.checked) false (laidWorld os) #[.agg #[.string ByteArray.empty, .string ByteArray.empty, .string ByteArray.empty, .int .i64 0, .int .i64 0, .slice none 0 0]] rfl (by kernel_rfl) (by kernel_rfl) (by kernel_rfl)
      (OpenSpec.preRow_of_cond 8 hx (by kernel_rfl) (fun k hk => by cases hk) (by kernel_rfl) (treeIs_met os))) ?_
  intro W base args ds gs before hval0 hW _ _ hsz0 hL _ _
  have hfact := signs_of_laid hL
  have hval : ∀ (j : Nat) t v, Tryd.f3.params[j]? = some t → args[j]? = some v → Value.okWide Tryd.prog W .any base t v := hval0
  have hW' := hW
  obtain ⟨p, q, hA0, hV, rfl, hfz, hnd⟩ := hW
  have hA : DataW.TrodAll enc Tryd.prog W 0 (fun _ => true) true Tryd.f3.params.toList args.toList ds p := hA0
  have hsz : (DataW.weightsEach Tryd.prog (Tryd.f3.params.toList ++ Rows.treeIsSpec.plain.varTypes Tryd.prog) (ds ++ gs)).all (· ≤ reachBytes) = true := hsz0
  rw [Tryd.params3] at hA hval hsz
  obtain ⟨v0, vs0, d0, ds0, p0, q0, hargs, rfl, rfl, h0, r0⟩ := trodAll_cons hA
  obtain ⟨rfl, rfl, rfl⟩ := trodAll_nil r0
  obtain rfl : args = #[v0] := by cases args; simp_all
  obtain ⟨rfl, rfl⟩ := trodVars_none hV
  have lt0 : ∀ x ∈ p0, x.block < W.heap.size := by obtain ⟨m, hm⟩ := h0; exact DataW.trod_lt m _ _ _ hm
  have o0 := open_nd (hval 0 24 v0 rfl rfl) h0 (Em.sized_arg hsz 0 rfl rfl)
  clear hA0 hval0 hsz0 hsz
  refine (walk_treeIs W v0 o0 hfact).mono fun e W' ⟨he, bel⟩ => ?_
  subst he
  exact ⟨_, rfl, _, _, _, [], _, [], hW', trodAll_mk1 (shut_bool Tryd.underlying4 _), (trodAll_cons_mk (Below.trod treeIs_laidOut (by kernel_rfl) (of_decide_eq_true (by kernel_rfl)) h0 bel lt0) trodAll_mk0), rfl, bel.frame _, fun h => by cases h⟩
theorem treeIs_said : Rows.TreeIsSaid :=
  OpenClaim.holds_of_cond 3 Tryd.f3 rfl rfl rfl rfl rfl rfl rfl ⟨rfl, rfl, rfl, rfl, rfl⟩ rfl rfl rfl rfl rfl (by kernel_rfl) Tryd.func3 (by kernel_rfl)
    (of_decide_eq_true (by kernel_rfl)) (by unfold Func.isWrapper; first | (rw [if_pos (by decide +kernel)]; kernel_rfl) | (rw [if_neg (by decide +kernel)]; exact ⟨rfl, rfl⟩))
    (fun os started H enc _ F => by rw [OpenClaim.pre_eq_preRow]; exact treeIs_lifted os started H enc F)
theorem treeIs_plain (f : FuncId) (fn : Func) (hf : Tryd.pinned.checked.prog.funcNamed "emissary/emissarylaw5.TreeIs" = some f) (hfn : Tryd.pinned.checked.prog.funcs[f]? = some fn) :
    false = Tryd.pinned.checked.prog.looks [] ∧ ∀ (j : Nat) t, fn.params[j]? = some t → Tryd.pinned.checked.prog.wantsStandIn t = false := by
  obtain rfl : f = 3 := Option.some.inj ((show Tryd.prog.funcNamed "emissary/emissarylaw5.TreeIs" = some 3 by kernel_rfl).symm.trans hf) |>.symm
  obtain rfl : fn = Tryd.f3 := (Option.some.inj (Tryd.func3.symm.trans hfn)).symm
  refine ⟨by kernel_rfl, fun j t ht => ?_⟩
  rw [Tryd.params3] at ht
  have hm : t ∈ ([24] : List Nat) := by simpa using Array.mem_of_getElem? ht
  have hall : (([24] : List Nat).all fun u => !Tryd.prog.wantsStandIn u) = true := by kernel_rfl
  exact (show Tryd.prog.wantsStandIn t = false by simpa using List.all_eq_true.1 hall t hm)
theorem treeIs_holds : Rows.TreeIsCardSaid :=
  Claim7.holds_tied_plain_at .later [] _ _ _ _ treeIs_said (fun _ h => by cases h) (by kernel_rfl) (fun _ h => by cases h) treeIs_row_tie rfl ⟨rfl, rfl⟩ (by kernel_rfl) rfl treeIs_plain (by kernel_rfl)
#print axioms treeIs_holds
end Go.Proofs.YtlniokcekjemdaaDoor

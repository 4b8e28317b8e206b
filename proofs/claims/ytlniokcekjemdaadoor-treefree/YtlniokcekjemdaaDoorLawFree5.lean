/- TreeFree: of any expression of at most 200 nodes Free answers the names that the document says, in their order. No condition but that lex.signs holds what its initialiser lays, to which the card ties it. -/
import Derived.Test.YtlniokcekjemdaaDoorRows
import Derived.Test.YtlniokcekjemdaaDoorCards
import Derived.Test.YtlniokcekjemdaaDoorTie
import Derived.Test.YtlniokcekjemdaaDoorLexL
import Derived.Test.YtlniokcekjemdaaDoorKnown5
import Derived.Test.YtlniokcekjemdaaDoorRTreeG
import Derived.Test.YtlniokcekjemdaaDoorFrameM
import Derived.Deep.RegionHeld
namespace Go.Proofs.YtlniokcekjemdaaDoor
open Go.ChangeShapes Go.WideShapes Go.ChangeAt Go.RowKit
set_option linter.unusedVariables false
set_option linter.unusedSimpArgs false

set_option maxRecDepth 100000 in
set_option maxHeartbeats 4000000 in
theorem walk_treeFree (w : World) (v : Value) (hv : ∃ T, Em5.IsNd w T v) (hg : IsSigns w) :
    Calls Tryd.prog 4 #[v] w fun e w' => e = .returned (.bool true) ∧ Below w.heap.size w w' := by
  obtain ⟨T, hv⟩ := hv
  have HSG : Hid (∀ w', Below w.heap.size w w' → IsSigns w') := fun w' h => hg.below h hg.lt
  have HV : Hid (∀ w', Below w.heap.size w w' → Em5.IsNd w' T v) := fun w' h => Em5.isNd_below h _ _ hv
  obtain ⟨op, nm, ar, n, p, l⟩ := T
  unfold Em5.IsNd at hv
  obtain ⟨a, cap, rfl, -⟩ := hv
  obtain ⟨W, hW⟩ : ∃ W, W = w.alloc (.cells #[.string (Em.str op), .string (Em.str nm), .string (Em.str ar), .int .i64 n, .int .i64 p, .slice a l.length cap] 24) := ⟨_, rfl⟩
  have hbW : Below w.heap.size w W := by rw [hW]; exact (Below.refl _ _).alloc (Nat.le_refl _) _
  have h6 : Node6 W w.heap.size (.string (Em.str op)) (.string (Em.str nm)) (.string (Em.str ar)) (.int .i64 n) (.int .i64 p) (.slice a l.length cap) := by rw [hW]; exact Node6.made _ _ _ _ _ _ _ _
  have H6 : Hid (∀ w', Below W.heap.size W w' → Node6 w' w.heap.size (.string (Em.str op)) (.string (Em.str nm)) (.string (Em.str ar)) (.int .i64 n) (.int .i64 p) (.slice a l.length cap)) := fun w' h => h6.bes (mb := w.heap.size + 1) (mf := w.heap.size + 1) (Bes2.of h) (by omega) (by omega)
  have HW : Hid (Below w.heap.size w W) := hbW
  have HWE : Hid (w.alloc (.cells #[.string (Em.str op), .string (Em.str nm), .string (Em.str ar), .int .i64 n, .int .i64 p, .slice a l.length cap] 24) = W) := hW.symm
  obtain ⟨T, hT⟩ : ∃ T, T = Em5.Nd.mk op nm ar n p l := ⟨_, rfl⟩
  rw [← hT] at HV
  clear hW hbW h6 hg hT
  go_enter Tryd.func4, Tryd.ntmps4
  go_wp2_with fail
  rw [HWE.out]
  clear HWE
  refine (rSize_any _ _ _ (HV.out _ HW.out)).mono ?_
  rintro e w1 ⟨rfl, hb1⟩
  obtain ⟨z, hz⟩ : ∃ z : Nat, z = min T.size 2001 := ⟨_, rfl⟩
  have hz2 : z ≤ 2001 := by omega
  rw [← hz]
  have HZ : Hid (z = min T.size 2001) := hz
  have hbw1 : Below w.heap.size w w1 := HW.out.trans (hb1.mono HW.out.size)
  clear hz
  by_cases h200 : 200 < z
  · go_wp2
    go_ret
    exact ⟨rfl, hbw1⟩
  · obtain ⟨x0, x1, x2, x3, x4, x5⟩ := H6.out _ hb1
    go_wp2_with fail
    refine (rIs_any _ _ _ (HV.out _ hbw1)).mono ?_
    rintro e w2 ⟨rfl, hb2⟩
    have hb2' : Below W.heap.size W w2 := hb1.trans (hb2.mono hb1.size)
    have hbw2 : Below w.heap.size w w2 := HW.out.trans (hb2'.mono HW.out.size)
    clear x0 x1 x2 x3 x4 x5 hb1 hbw1 hb2
    cases hi : Em5.isNd T with
    | false =>
      go_wp2
      go_ret
      exact ⟨rfl, hbw2⟩
    | true =>
      have HE : Hid (Em5.each T = true ∧ T.size ≤ 2000) := by
        have h := hi
        unfold Em5.isNd at h
        simp only [Bool.and_eq_true, decide_eq_true_eq] at h
        exact ⟨h.2, h.1⟩
      clear hi
      go_wp2_with fail
      obtain ⟨x0, x1, x2, x3, x4, x5⟩ := H6.out _ hb2'
      have HS0 : Hid (Below w.heap.size w w2.drew ∧ w2.drew.cell? ⟨w.heap.size, 0, none⟩ = some (.string (Em.str op)) ∧ w2.drew.cell? ⟨w.heap.size, 1, none⟩ = some (.string (Em.str nm)) ∧ w2.drew.cell? ⟨w.heap.size, 2, none⟩ = some (.string (Em.str ar)) ∧ w2.drew.cell? ⟨w.heap.size, 3, none⟩ = some (.int .i64 n) ∧ w2.drew.cell? ⟨w.heap.size, 4, none⟩ = some (.int .i64 p) ∧ w2.drew.cell? ⟨w.heap.size, 5, none⟩ = some (.slice a l.length cap) ∧ w.heap.size < w2.drew.heap.size) :=
        ⟨hbw2.drew, x0, x1, x2, x3, x4, x5, Em.cell_lt x0⟩
      clear x0 x1 x2 x3 x4 x5 hb2' hbw2
      go_region_held (fun w' => Below w.heap.size w w' ∧ w'.cell? ⟨w.heap.size, 0, none⟩ = some (.string (Em.str op)) ∧ w'.cell? ⟨w.heap.size, 1, none⟩ = some (.string (Em.str nm)) ∧ w'.cell? ⟨w.heap.size, 2, none⟩ = some (.string (Em.str ar)) ∧ w'.cell? ⟨w.heap.size, 3, none⟩ = some (.int .i64 n) ∧ w'.cell? ⟨w.heap.size, 4, none⟩ = some (.int .i64 p) ∧ w'.cell? ⟨w.heap.size, 5, none⟩ = some (.slice a l.length cap) ∧ w.heap.size < w'.heap.size)
        (with_reducible (first | exact HS0.out | exact each_keep hb7 (by assumption) | exact each_keep hb6 (by assumption) | exact each_keep hb5 (by assumption) | exact each_keep hb4 (by assumption)))
        (first
          | (go_at_call 15; refine (tFree_any T _ _ (HV.out _ (Em.held1 (by assumption))) HE.out.1 HE.out.2).mono ?_; rintro e w4 ⟨u4, rfl, ho4, ht4, hb4⟩; have HI4 : Hid (∀ w', Below w4.heap.size w4 w' → IsStrs w' u4 (Em5.freeR T [] [])) := fun w' h => (ho4.is ht4).below h; clear ho4 ht4)
          | (go_at_call 16; refine (rFree_any T _ _ (HV.out _ (Em.held1 (by assumption))) HE.out.2).mono ?_; rintro e w5 ⟨u5, rfl, ho5, hb5⟩; have HI5 : Hid (∀ w', Below w5.heap.size w5 w' → IsStrs w' u5 (Em5.freeR T [] [])) := fun w' h => ho5.below h; clear ho5)
          | (go_at_call 14; refine (rRows_any _ _ _ _ _ (by with_reducible (first | exact HI4.out _ (Below.refl _ _) | exact HI4.out _ hb5)) (by with_reducible (first | exact HI5.out _ (Below.refl _ _) | exact HI5.out _ hb4))).mono ?_; rintro e w6 ⟨rfl, hb6⟩; rw [decide_eq_true rfl])
          | (go_at_call 13; refine (known5_any _ (HSG.out _ (Em.held1 (by assumption)))).mono ?_; rintro e w7 ⟨rfl, hb7⟩))
      all_goals
        go_wp2
        go_ret
        exact ⟨rfl, Em.held1 (by assumption)⟩

theorem treeFree_own : ownKnob Tryd.prog.godebug = none := by kernel_rfl
theorem treeFree_laidOut : laidOutB Tryd.prog = true := by kernel_rfl
theorem treeFree_met (os : Os) : laidMet Tryd.prog Rows.treeFreeRow.laid ((laidWorld os).forCall (fun _ _ => 0) ⟨#[], #[.agg #[.string ByteArray.empty, .string ByteArray.empty, .string ByteArray.empty, .int .i64 0, .int .i64 0, .slice none 0 0]], []⟩).memory :=
  laidMet_of_run' 8 (by kernel_rfl) (by kernel_rfl)
theorem treeFree_reads (os : Os) {H : Type} (enc : TypeId × Value → H) : ∃ places, DataW.whole enc Tryd.prog ((laidWorld os).forCall (fun _ _ => 0) ⟨#[], #[.agg #[.string ByteArray.empty, .string ByteArray.empty, .string ByteArray.empty, .int .i64 0, .int .i64 0, .slice none 0 0]], []⟩).memory Tryd.f4.params.toList Rows.treeFreeSpec.vars false (#[.agg #[.string ByteArray.empty, .string ByteArray.empty, .string ByteArray.empty, .int .i64 0, .int .i64 0, .slice none 0 0]] : Array Value).toList 8 = some ([.agg [.lit (.string []), .lit (.string []), .lit (.string []), .lit (.int .i64 0), .lit (.int .i64 0), .nil]], [], places) :=
  ⟨[], by kernel_rfl⟩
set_option maxRecDepth 100000 in
theorem treeFree_lifted (os : Os) (started : os.Started) (H : Type) (enc : TypeId × Value → H) (F : Stop.Interp) :
    ReturnsInHanded {} Tryd.checked os 4 .any ((OpenSpec.ofChange Rows.treeFreeSpec).preRow enc Tryd.prog Tryd.f4 Rows.treeFreeRow.domain false Rows.treeFreeRow.laid) (((OpenSpec.ofChange Rows.treeFreeSpec).at F).post enc Tryd.prog Tryd.f4 false true false false) := by
  obtain ⟨places, hx⟩ := treeFree_reads os enc
  refine returnsInHanded_of_row (C := Tryd.checked) (s := OpenSpec.ofChange Rows.treeFreeSpec) treeFree_own started (by kernel_rfl) Tryd.func4
    (witness_row_at (enc := enc) (C := Tryd.checked) false (laidWorld os) #[.agg #[.string ByteArray.empty, .string ByteArray.empty, .string ByteArray.empty, .int .i64 0, .int .i64 0, .slice none 0 0]] rfl (by kernel_rfl) (by kernel_rfl) (by kernel_rfl)
      (OpenSpec.preRow_of_cond 8 hx (by kernel_rfl) (fun k hk => by cases hk) (by kernel_rfl) (treeFree_met os))) ?_
  intro W base args ds gs before hval0 hW _ _ hsz0 hL _ _
  have hfact := signs_of_laid hL
  have hval : ∀ (j : Nat) t v, Tryd.f4.params[j]? = some t → args[j]? = some v → Value.okWide Tryd.prog W .any base t v := hval0
  have hW' := hW
  obtain ⟨p, q, hA0, hV, rfl, hfz, hnd⟩ := hW
  have hA : DataW.TrodAll enc Tryd.prog W 0 (fun _ => true) true Tryd.f4.params.toList args.toList ds p := hA0
  have hsz : (DataW.weightsEach Tryd.prog (Tryd.f4.params.toList ++ Rows.treeFreeSpec.plain.varTypes Tryd.prog) (ds ++ gs)).all (· ≤ reachBytes) = true := hsz0
  rw [Tryd.params4] at hA hval hsz
  obtain ⟨v0, vs0, d0, ds0, p0, q0, hargs, rfl, rfl, h0, r0⟩ := trodAll_cons hA
  obtain ⟨rfl, rfl, rfl⟩ := trodAll_nil r0
  obtain rfl : args = #[v0] := by cases args; simp_all
  obtain ⟨rfl, rfl⟩ := trodVars_none hV
  have lt0 : ∀ x ∈ p0, x.block < W.heap.size := by obtain ⟨m, hm⟩ := h0; exact DataW.trod_lt m _ _ _ hm
  have o0 := open_nd (hval 0 24 v0 rfl rfl) h0 (Em.sized_arg hsz 0 rfl rfl)
  clear hA0 hval0 hsz0 hsz
  refine (walk_treeFree W v0 o0 hfact).mono fun e W' ⟨he, bel⟩ => ?_
  subst he
  exact ⟨_, rfl, _, _, _, [], _, [], hW', trodAll_mk1 (shut_bool Tryd.underlying4 _), (trodAll_cons_mk (Below.trod treeFree_laidOut (by kernel_rfl) (of_decide_eq_true (by kernel_rfl)) h0 bel lt0) trodAll_mk0), rfl, bel.frame _, fun h => by cases h⟩
theorem treeFree_said : Rows.TreeFreeSaid :=
  OpenClaim.holds_of_cond 4 Tryd.f4 rfl rfl rfl rfl rfl rfl rfl ⟨rfl, rfl, rfl, rfl, rfl⟩ rfl rfl rfl rfl rfl (by kernel_rfl) Tryd.func4 (by kernel_rfl)
    (of_decide_eq_true (by kernel_rfl)) (by unfold Func.isWrapper; first | (rw [if_pos (by decide +kernel)]; kernel_rfl) | (rw [if_neg (by decide +kernel)]; exact ⟨rfl, rfl⟩))
    (fun os started H enc _ F => by rw [OpenClaim.pre_eq_preRow]; exact treeFree_lifted os started H enc F)
theorem treeFree_plain (f : FuncId) (fn : Func) (hf : Tryd.pinned.checked.prog.funcNamed "emissary/emissarylaw5.TreeFree" = some f) (hfn : Tryd.pinned.checked.prog.funcs[f]? = some fn) :
    false = Tryd.pinned.checked.prog.looks [] ∧ ∀ (j : Nat) t, fn.params[j]? = some t → Tryd.pinned.checked.prog.wantsStandIn t = false := by
  obtain rfl : f = 4 := Option.some.inj ((show Tryd.prog.funcNamed "emissary/emissarylaw5.TreeFree" = some 4 by kernel_rfl).symm.trans hf) |>.symm
  obtain rfl : fn = Tryd.f4 := (Option.some.inj (Tryd.func4.symm.trans hfn)).symm
  refine ⟨by kernel_rfl, fun j t ht => ?_⟩
  rw [Tryd.params4] at ht
  have hm : t ∈ ([24] : List Nat) := by simpa using Array.mem_of_getElem? ht
  have hall : (([24] : List Nat).all fun u => !Tryd.prog.wantsStandIn u) = true := by kernel_rfl
  exact (show Tryd.prog.wantsStandIn t = false by simpa using List.all_eq_true.1 hall t hm)
theorem treeFree_holds : Rows.TreeFreeCardSaid :=
  Claim7.holds_tied_plain_at .later [] _ _ _ _ treeFree_said (fun _ h => by cases h) (by kernel_rfl) (fun _ h => by cases h) treeFree_row_tie rfl ⟨rfl, rfl⟩ (by kernel_rfl) rfl treeFree_plain (by kernel_rfl)
#print axioms treeFree_holds
end Go.Proofs.YtlniokcekjemdaaDoor

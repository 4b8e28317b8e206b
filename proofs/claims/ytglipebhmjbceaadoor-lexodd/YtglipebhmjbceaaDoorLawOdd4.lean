/- LexOdd: texts that are none: Tokens answers ErrForm, where, and no tokens. No condition but that lex.signs holds what its initialiser lays, to which the card ties it. -/
import Derived.Test.YtglipebhmjbceaaDoorRows
import Derived.Test.YtglipebhmjbceaaDoorCards
import Derived.Test.YtglipebhmjbceaaDoorTie
import Derived.Test.YtglipebhmjbceaaDoorLexL
import Derived.Test.YtglipebhmjbceaaDoorKnown4
import Derived.Test.YtglipebhmjbceaaDoorFrame
import Derived.Test.YtglipebhmjbceaaDoorFrame2
namespace Go.Proofs.YtglipebhmjbceaaDoor
open Go.ChangeShapes Go.WideShapes Go.ChangeAt Go.RowKit
set_option linter.unusedVariables false

theorem odd_call (s : ByteArray) (L : List Int) (i : Nat) (w : World) (hs : Em.IsStr s L) (ht : Em4.toks L = .error i) (hz : s.size ≤ 2000) (hg : IsSigns w) :
    Calls Tryd.prog 8 #[.string s] w fun e w' => e = .returned (.tuple #[.slice none 0 0, .int .i64 i, .int .i64 2]) ∧ Below w.heap.size w w' := by
  refine (ltokens_any s L w hs hz hg).mono ?_
  rintro e w' ⟨h1, h2⟩
  rw [ht] at h1
  exact ⟨h1, h2⟩

set_option maxRecDepth 100000 in
set_option maxHeartbeats 1000000 in
theorem walk_lexOdd (w : World) (y : Value) (hy : ∃ n, y = .int .i64 n ∧ (Lit.int .i64 n).wf = true) (hg : IsSigns w) :
    Calls Tryd.prog 6 #[y] w fun e w' => e = .returned (.bool true) ∧ Below w.heap.size w w' := by
  obtain ⟨n, rfl, hn⟩ := hy
  clear hn
  have HG : Hid (IsSigns w) := hg
  clear hg
  have HB : Hid (Below w.heap.size w ((w.alloc (.cells #[.string ⟨#[97, 32, 63]⟩, .string ⟨#[65]⟩, .string ⟨#[34, 97]⟩, .string ⟨#[120, 32, 48, 55]⟩, .string ⟨#[13]⟩, .string ⟨#[34, 255, 34]⟩, .string ⟨#[97, 0]⟩, .string ⟨#[49, 32, 62, 32, 50]⟩, .string ⟨#[120, 32, 64]⟩, .string ⟨#[97, 98, 32, 38, 32, 99]⟩] 9)).alloc (.cells #[.int .i64 2, .int .i64 0, .int .i64 0, .int .i64 2, .int .i64 0, .int .i64 0, .int .i64 1, .int .i64 2, .int .i64 2, .int .i64 3] 3))) := ((Below.refl _ _).alloc (Nat.le_refl _) _).alloc (by simp) _
  by_cases h0 : n < 0
  · go_enter Tryd.func6, Tryd.ntmps6
    go_wp2
    go_ret
    exact ⟨rfl, HB.out⟩
  by_cases h9 : 10 ≤ n
  · go_enter Tryd.func6, Tryd.ntmps6
    go_wp2
    go_ret
    exact ⟨rfl, HB.out⟩
  obtain rfl | rfl | rfl | rfl | rfl | rfl | rfl | rfl | rfl | rfl : n = 0 ∨ n = 1 ∨ n = 2 ∨ n = 3 ∨ n = 4 ∨ n = 5 ∨ n = 6 ∨ n = 7 ∨ n = 8 ∨ n = 9 := by omega
  all_goals clear h0 h9
  · go_enter Tryd.func6, Tryd.ntmps6
    go_wp2_with fail
    refine (odd_call ⟨#[97, 32, 63]⟩ [97, 32, 63] 2 _ ⟨rfl, by decide⟩ rfl (by decide) (HG.out.below HB.out HG.out.lt)).mono ?_
    rintro e w1 ⟨rfl, hb1⟩
    have bel1 := HB.out.trans (hb1.mono HB.out.size)
    obtain ⟨hc, hf⟩ := Em.bcell hb1
    clear hb1
    go_wp2_with fail
    refine (known4_any _ (HG.out.below bel1 HG.out.lt)).mono ?_
    rintro e w2 ⟨rfl, hb2⟩
    have bel2 := bel1.trans (hb2.mono bel1.size)
    go_wp2
    go_ret
    exact ⟨rfl, bel2⟩
  · go_enter Tryd.func6, Tryd.ntmps6
    go_wp2_with fail
    refine (odd_call ⟨#[65]⟩ [65] 0 _ ⟨rfl, by decide⟩ rfl (by decide) (HG.out.below HB.out HG.out.lt)).mono ?_
    rintro e w1 ⟨rfl, hb1⟩
    have bel1 := HB.out.trans (hb1.mono HB.out.size)
    obtain ⟨hc, hf⟩ := Em.bcell hb1
    clear hb1
    go_wp2_with fail
    refine (known4_any _ (HG.out.below bel1 HG.out.lt)).mono ?_
    rintro e w2 ⟨rfl, hb2⟩
    have bel2 := bel1.trans (hb2.mono bel1.size)
    go_wp2
    go_ret
    exact ⟨rfl, bel2⟩
  · go_enter Tryd.func6, Tryd.ntmps6
    go_wp2_with fail
    refine (odd_call ⟨#[34, 97]⟩ [34, 97] 0 _ ⟨rfl, by decide⟩ rfl (by decide) (HG.out.below HB.out HG.out.lt)).mono ?_
    rintro e w1 ⟨rfl, hb1⟩
    have bel1 := HB.out.trans (hb1.mono HB.out.size)
    obtain ⟨hc, hf⟩ := Em.bcell hb1
    clear hb1
    go_wp2_with fail
    refine (known4_any _ (HG.out.below bel1 HG.out.lt)).mono ?_
    rintro e w2 ⟨rfl, hb2⟩
    have bel2 := bel1.trans (hb2.mono bel1.size)
    go_wp2
    go_ret
    exact ⟨rfl, bel2⟩
  · go_enter Tryd.func6, Tryd.ntmps6
    go_wp2_with fail
    refine (odd_call ⟨#[120, 32, 48, 55]⟩ [120, 32, 48, 55] 2 _ ⟨rfl, by decide⟩ rfl (by decide) (HG.out.below HB.out HG.out.lt)).mono ?_
    rintro e w1 ⟨rfl, hb1⟩
    have bel1 := HB.out.trans (hb1.mono HB.out.size)
    obtain ⟨hc, hf⟩ := Em.bcell hb1
    clear hb1
    go_wp2_with fail
    refine (known4_any _ (HG.out.below bel1 HG.out.lt)).mono ?_
    rintro e w2 ⟨rfl, hb2⟩
    have bel2 := bel1.trans (hb2.mono bel1.size)
    go_wp2
    go_ret
    exact ⟨rfl, bel2⟩
  · go_enter Tryd.func6, Tryd.ntmps6
    go_wp2_with fail
    refine (odd_call ⟨#[13]⟩ [13] 0 _ ⟨rfl, by decide⟩ rfl (by decide) (HG.out.below HB.out HG.out.lt)).mono ?_
    rintro e w1 ⟨rfl, hb1⟩
    have bel1 := HB.out.trans (hb1.mono HB.out.size)
    obtain ⟨hc, hf⟩ := Em.bcell hb1
    clear hb1
    go_wp2_with fail
    refine (known4_any _ (HG.out.below bel1 HG.out.lt)).mono ?_
    rintro e w2 ⟨rfl, hb2⟩
    have bel2 := bel1.trans (hb2.mono bel1.size)
    go_wp2
    go_ret
    exact ⟨rfl, bel2⟩
  · go_enter Tryd.func6, Tryd.ntmps6
    go_wp2_with fail
    refine (odd_call ⟨#[34, 255, 34]⟩ [34, 255, 34] 0 _ ⟨rfl, by decide⟩ rfl (by decide) (HG.out.below HB.out HG.out.lt)).mono ?_
    rintro e w1 ⟨rfl, hb1⟩
    have bel1 := HB.out.trans (hb1.mono HB.out.size)
    obtain ⟨hc, hf⟩ := Em.bcell hb1
    clear hb1
    go_wp2_with fail
    refine (known4_any _ (HG.out.below bel1 HG.out.lt)).mono ?_
    rintro e w2 ⟨rfl, hb2⟩
    have bel2 := bel1.trans (hb2.mono bel1.size)
    go_wp2
    go_ret
    exact ⟨rfl, bel2⟩
  · go_enter Tryd.func6, Tryd.ntmps6
    go_wp2_with fail
    refine (odd_call ⟨#[97, 0]⟩ [97, 0] 1 _ ⟨rfl, by decide⟩ rfl (by decide) (HG.out.below HB.out HG.out.lt)).mono ?_
    rintro e w1 ⟨rfl, hb1⟩
    have bel1 := HB.out.trans (hb1.mono HB.out.size)
    obtain ⟨hc, hf⟩ := Em.bcell hb1
    clear hb1
    go_wp2_with fail
    refine (known4_any _ (HG.out.below bel1 HG.out.lt)).mono ?_
    rintro e w2 ⟨rfl, hb2⟩
    have bel2 := bel1.trans (hb2.mono bel1.size)
    go_wp2
    go_ret
    exact ⟨rfl, bel2⟩
  · go_enter Tryd.func6, Tryd.ntmps6
    go_wp2_with fail
    refine (odd_call ⟨#[49, 32, 62, 32, 50]⟩ [49, 32, 62, 32, 50] 2 _ ⟨rfl, by decide⟩ rfl (by decide) (HG.out.below HB.out HG.out.lt)).mono ?_
    rintro e w1 ⟨rfl, hb1⟩
    have bel1 := HB.out.trans (hb1.mono HB.out.size)
    obtain ⟨hc, hf⟩ := Em.bcell hb1
    clear hb1
    go_wp2_with fail
    refine (known4_any _ (HG.out.below bel1 HG.out.lt)).mono ?_
    rintro e w2 ⟨rfl, hb2⟩
    have bel2 := bel1.trans (hb2.mono bel1.size)
    go_wp2
    go_ret
    exact ⟨rfl, bel2⟩
  · go_enter Tryd.func6, Tryd.ntmps6
    go_wp2_with fail
    refine (odd_call ⟨#[120, 32, 64]⟩ [120, 32, 64] 2 _ ⟨rfl, by decide⟩ rfl (by decide) (HG.out.below HB.out HG.out.lt)).mono ?_
    rintro e w1 ⟨rfl, hb1⟩
    have bel1 := HB.out.trans (hb1.mono HB.out.size)
    obtain ⟨hc, hf⟩ := Em.bcell hb1
    clear hb1
    go_wp2_with fail
    refine (known4_any _ (HG.out.below bel1 HG.out.lt)).mono ?_
    rintro e w2 ⟨rfl, hb2⟩
    have bel2 := bel1.trans (hb2.mono bel1.size)
    go_wp2
    go_ret
    exact ⟨rfl, bel2⟩
  · go_enter Tryd.func6, Tryd.ntmps6
    go_wp2_with fail
    refine (odd_call ⟨#[97, 98, 32, 38, 32, 99]⟩ [97, 98, 32, 38, 32, 99] 3 _ ⟨rfl, by decide⟩ rfl (by decide) (HG.out.below HB.out HG.out.lt)).mono ?_
    rintro e w1 ⟨rfl, hb1⟩
    have bel1 := HB.out.trans (hb1.mono HB.out.size)
    obtain ⟨hc, hf⟩ := Em.bcell hb1
    clear hb1
    go_wp2_with fail
    refine (known4_any _ (HG.out.below bel1 HG.out.lt)).mono ?_
    rintro e w2 ⟨rfl, hb2⟩
    have bel2 := bel1.trans (hb2.mono bel1.size)
    go_wp2
    go_ret
    exact ⟨rfl, bel2⟩

theorem lexOdd_own : ownKnob Tryd.prog.godebug = none := by kernel_rfl
theorem lexOdd_laidOut : laidOutB Tryd.prog = true := by kernel_rfl
theorem lexOdd_met (os : Os) : laidMet Tryd.prog Rows.lexOddRow.laid ((laidWorld os).forCall (fun _ _ => 0) ⟨#[], #[.int .i64 0], []⟩).memory :=
  laidMet_of_run' 8 (by kernel_rfl) (by kernel_rfl)
theorem lexOdd_reads (os : Os) {H : Type} (enc : TypeId × Value → H) : ∃ places, DataW.whole enc Tryd.prog ((laidWorld os).forCall (fun _ _ => 0) ⟨#[], #[.int .i64 0], []⟩).memory Tryd.f6.params.toList Rows.lexOddSpec.vars false (#[.int .i64 0] : Array Value).toList 8 = some ([.lit (.int .i64 0)], [], places) :=
  ⟨[], by kernel_rfl⟩
set_option maxRecDepth 100000 in
theorem lexOdd_lifted (os : Os) (started : os.Started) (H : Type) (enc : TypeId × Value → H) (F : Stop.Interp) :
    ReturnsInHanded {} Tryd.checked os 6 .any ((OpenSpec.ofChange Rows.lexOddSpec).preRow enc Tryd.prog Tryd.f6 Rows.lexOddRow.domain false Rows.lexOddRow.laid) (((OpenSpec.ofChange Rows.lexOddSpec).at F).post enc Tryd.prog Tryd.f6 false true false false) := by
  obtain ⟨places, hx⟩ := lexOdd_reads os enc
  refine returnsInHanded_of_row (C := Tryd.checked) (s := OpenSpec.ofChange Rows.lexOddSpec) lexOdd_own started (by kernel_rfl) Tryd.func6
    (witness_row_at (enc := enc) (C := Tryd.checked) false (laidWorld os) #[.int .i64 0] rfl (by kernel_rfl) (by kernel_rfl) (by kernel_rfl)
      (OpenSpec.preRow_of_cond 8 hx (by kernel_rfl) (fun k hk => by cases hk) (by kernel_rfl) (lexOdd_met os))) ?_
  intro W base args ds gs before hval0 hW _ _ hsz0 hL _ _
  have hfact := signs_of_laid hL
  have hval : ∀ (j : Nat) t v, Tryd.f6.params[j]? = some t → args[j]? = some v → Value.okWide Tryd.prog W .any base t v := hval0
  have hW' := hW
  obtain ⟨p, q, hA0, hV, rfl, hfz, hnd⟩ := hW
  have hA : DataW.TrodAll enc Tryd.prog W 0 (fun _ => true) true Tryd.f6.params.toList args.toList ds p := hA0
  have hsz : (DataW.weightsEach Tryd.prog (Tryd.f6.params.toList ++ Rows.lexOddSpec.plain.varTypes Tryd.prog) (ds ++ gs)).all (· ≤ reachBytes) = true := hsz0
  rw [Tryd.params6] at hA hval hsz
  obtain ⟨v0, vs0, d0, ds0, p0, q0, hargs, rfl, rfl, h0, r0⟩ := trodAll_cons hA
  obtain ⟨rfl, rfl, rfl⟩ := trodAll_nil r0
  obtain rfl : args = #[v0] := by cases args; simp_all
  obtain ⟨rfl, rfl⟩ := trodVars_none hV
  have lt0 : ∀ x ∈ p0, x.block < W.heap.size := by obtain ⟨m, hm⟩ := h0; exact DataW.trod_lt m _ _ _ hm
  have o0 := Em.open_int Tryd.underlying3 (hval 0 3 v0 rfl rfl) h0
  clear hA0 hval0 hsz0 hsz
  refine (walk_lexOdd W v0 o0 hfact).mono fun e W' ⟨he, bel⟩ => ?_
  subst he
  exact ⟨_, rfl, _, _, _, [], _, [], hW', trodAll_mk1 (shut_bool Tryd.underlying4 _), (trodAll_cons_mk (Below.trod lexOdd_laidOut (by kernel_rfl) (of_decide_eq_true (by kernel_rfl)) h0 bel lt0) trodAll_mk0), rfl, bel.frame _, fun h => by cases h⟩
theorem lexOdd_said : Rows.LexOddSaid :=
  OpenClaim.holds_of_cond 6 Tryd.f6 rfl rfl rfl rfl rfl rfl rfl ⟨rfl, rfl, rfl, rfl, rfl⟩ rfl rfl rfl rfl rfl (by kernel_rfl) Tryd.func6 (by kernel_rfl)
    (of_decide_eq_true (by kernel_rfl)) (by unfold Func.isWrapper; first | (rw [if_pos (by decide +kernel)]; kernel_rfl) | (rw [if_neg (by decide +kernel)]; exact ⟨rfl, rfl⟩))
    (fun os started H enc _ F => by rw [OpenClaim.pre_eq_preRow]; exact lexOdd_lifted os started H enc F)
theorem lexOdd_plain (f : FuncId) (fn : Func) (hf : Tryd.pinned.checked.prog.funcNamed "emissary/emissarylaw4.LexOdd" = some f) (hfn : Tryd.pinned.checked.prog.funcs[f]? = some fn) :
    false = Tryd.pinned.checked.prog.looks [] ∧ ∀ (j : Nat) t, fn.params[j]? = some t → Tryd.pinned.checked.prog.wantsStandIn t = false := by
  obtain rfl : f = 6 := Option.some.inj ((show Tryd.prog.funcNamed "emissary/emissarylaw4.LexOdd" = some 6 by kernel_rfl).symm.trans hf) |>.symm
  obtain rfl : fn = Tryd.f6 := (Option.some.inj (Tryd.func6.symm.trans hfn)).symm
  refine ⟨by kernel_rfl, fun j t ht => ?_⟩
  rw [Tryd.params6] at ht
  have hm : t ∈ ([3] : List Nat) := by simpa using Array.mem_of_getElem? ht
  have hall : (([3] : List Nat).all fun u => !Tryd.prog.wantsStandIn u) = true := by kernel_rfl
  exact (show Tryd.prog.wantsStandIn t = false by simpa using List.all_eq_true.1 hall t hm)
theorem lexOdd_holds : Rows.LexOddCardSaid :=
  Claim7.holds_tied_plain_at .later [] _ _ _ _ lexOdd_said (fun _ h => by cases h) (by kernel_rfl) (fun _ h => by cases h) lexOdd_row_tie rfl ⟨rfl, rfl⟩ (by kernel_rfl) rfl lexOdd_plain (by kernel_rfl)
#print axioms lexOdd_holds
end Go.Proofs.YtglipebhmjbceaaDoor

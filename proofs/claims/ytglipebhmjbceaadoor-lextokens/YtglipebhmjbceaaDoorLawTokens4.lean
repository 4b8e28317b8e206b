/- LexTokens: of any text of at most 2100 bytes Tokens answers what the document says: its tokens, or where its first error is. No condition but that lex.signs holds what its initialiser lays, to which the card ties it. -/
import Derived.Test.YtglipebhmjbceaaDoorRows
import Derived.Test.YtglipebhmjbceaaDoorCards
import Derived.Test.YtglipebhmjbceaaDoorTie
import Derived.Test.YtglipebhmjbceaaDoorLexL
import Derived.Test.YtglipebhmjbceaaDoorKnown4
import Derived.Test.YtglipebhmjbceaaDoorFrame
import Derived.Test.YtglipebhmjbceaaDoorFrame2
namespace Go.Proofs.YtglipebhmjbceaaDoor
open Go.ChangeShapes Go.WideShapes Go.ChangeAt Go.RowKit
set_option linter.unusedVariables false

set_option maxRecDepth 100000 in
set_option maxHeartbeats 1000000 in
theorem walk_lexTokens (w : World) (y : Value) (hy : ∃ s, y = .string s ∧ s.size ≤ maxLen) (hg : IsSigns w) :
    Calls Tryd.prog 3 #[y] w fun e w' => e = .returned (.bool true) ∧ Below w.heap.size w w' := by
  obtain ⟨s, rfl, hmax⟩ := hy
  unfold maxLen at hmax
  obtain ⟨L, hL⟩ := Em.isStr_of s
  have HL : Hid (Em.IsStr s L) := hL
  have HG : Hid (IsSigns w) := hg
  have HB : Hid (Em4.Byt L) := hL.2
  clear hL hg
  by_cases h21 : 2100 < s.size
  · go_enter Tryd.func3, Tryd.ntmps3
    go_wp2
    go_ret
    exact ⟨rfl, Below.refl _ _⟩
  by_cases h20 : 2000 < s.size
  · go_enter Tryd.func3, Tryd.ntmps3
    go_wp2_with fail
    refine (ltokens_great _ _ h20).mono ?_
    rintro e w1 ⟨rfl, rfl⟩
    go_wp2_with fail
    refine (rtokens_great _ _ h20).mono ?_
    rintro e w2 ⟨rfl, rfl⟩
    go_wp2_with fail
    refine (rsame_any _ _ [] [] _ (IsToks.nil _) (IsToks.nil _)).mono ?_
    rintro e w3 ⟨rfl, hb3⟩
    rw [decide_eq_true rfl]
    go_wp2_with fail
    refine (known4_any _ (HG.out.below hb3 HG.out.lt)).mono ?_
    rintro e w4 ⟨rfl, hb4⟩
    have hb5 := hb3.trans (hb4.mono hb3.size)
    go_wp2
    go_ret
    exact ⟨rfl, hb5⟩
  go_enter Tryd.func3, Tryd.ntmps3
  go_wp2_with fail
  refine (ltokens_any _ L _ HL.out (by omega) HG.out).mono ?_
  rintro e w1 ⟨hgot1, hb1⟩
  cases ht : Em4.toks L with
  | error i =>
    have HT : Hid (Em4.toks L = .error i) := ht
    rw [ht] at hgot1
    simp only [ToksGot] at hgot1
    subst hgot1
    clear ht
    go_wp2_with fail
    refine (rtokens_any _ L _ HL.out (by omega)).mono ?_
    rintro e w2 ⟨hgot2, hb2⟩
    rw [HT.out] at hgot2
    simp only [ToksGot] at hgot2
    subst hgot2
    have bel2 := hb1.trans (hb2.mono hb1.size)
    clear hb1 hb2
    go_wp2_with fail
    refine (rsame_any _ _ [] [] _ (IsToks.nil _) (IsToks.nil _)).mono ?_
    rintro e w3 ⟨rfl, hb3⟩
    rw [decide_eq_true rfl]
    have bel3 := bel2.trans (hb3.mono bel2.size)
    clear hb3 bel2
    go_wp2_with fail
    refine (known4_any _ (HG.out.below bel3 HG.out.lt)).mono ?_
    rintro e w4 ⟨rfl, hb4⟩
    have hb5 := bel3.trans (hb4.mono bel3.size)
    go_wp2
    go_ret
    exact ⟨rfl, hb5⟩
  | ok T =>
    have HT : Hid (Em4.toks L = .ok T) := ht
    have HX : Hid (∀ t ∈ T, Em4.Byt t.text) := Em4.toks_byt HB.out ht
    rw [ht] at hgot1
    obtain ⟨v1, rfl, hown1⟩ := hgot1
    have is1 := hown1.is HX.out
    clear ht hown1
    go_wp2_with fail
    refine (rtokens_any _ L _ HL.out (by omega)).mono ?_
    rintro e w2 ⟨hgot2, hb2⟩
    rw [HT.out] at hgot2
    obtain ⟨v2, rfl, hown2⟩ := hgot2
    have is2 := hown2.is HX.out
    have is1' := is1.below hb2
    have bel2 := hb1.trans (hb2.mono hb1.size)
    clear hb1 hb2 is1 hown2
    go_wp2_with fail
    refine (rsame_any _ _ T T _ is1' is2).mono ?_
    rintro e w3 ⟨rfl, hb3⟩
    rw [decide_eq_true rfl]
    have bel3 := bel2.trans (hb3.mono bel2.size)
    clear hb3 bel2 is1' is2
    go_wp2_with fail
    refine (known4_any _ (HG.out.below bel3 HG.out.lt)).mono ?_
    rintro e w4 ⟨rfl, hb4⟩
    have hb5 := bel3.trans (hb4.mono bel3.size)
    go_wp2
    go_ret
    exact ⟨rfl, hb5⟩

theorem lexTokens_own : ownKnob Tryd.prog.godebug = none := by kernel_rfl
theorem lexTokens_laidOut : laidOutB Tryd.prog = true := by kernel_rfl
theorem lexTokens_met (os : Os) : laidMet Tryd.prog Rows.lexTokensRow.laid ((laidWorld os).forCall (fun _ _ => 0) ⟨#[], #[.string ByteArray.empty], []⟩).memory :=
  laidMet_of_run' 8 (by kernel_rfl) (by kernel_rfl)
theorem lexTokens_reads (os : Os) {H : Type} (enc : TypeId × Value → H) : ∃ places, DataW.whole enc Tryd.prog ((laidWorld os).forCall (fun _ _ => 0) ⟨#[], #[.string ByteArray.empty], []⟩).memory Tryd.f3.params.toList Rows.lexTokensSpec.vars false (#[.string ByteArray.empty] : Array Value).toList 8 = some ([.lit (.string [])], [], places) :=
  ⟨[], by kernel_rfl⟩
set_option maxRecDepth 100000 in
theorem lexTokens_lifted (os : Os) (started : os.Started) (H : Type) (enc : TypeId × Value → H) (F : Stop.Interp) :
    ReturnsInHanded {} Tryd.checked os 3 .any ((OpenSpec.ofChange Rows.lexTokensSpec).preRow enc Tryd.prog Tryd.f3 Rows.lexTokensRow.domain false Rows.lexTokensRow.laid) (((OpenSpec.ofChange Rows.lexTokensSpec).at F).post enc Tryd.prog Tryd.f3 false true false false) := by
  obtain ⟨places, hx⟩ := lexTokens_reads os enc
  refine returnsInHanded_of_row (C := Tryd.checked) (s := OpenSpec.ofChange Rows.lexTokensSpec) lexTokens_own started (by kernel_rfl) Tryd.func3
    (witness_row_at (enc := enc) (C := Tryd.checked) false (laidWorld os) #[.string ByteArray.empty] rfl (by kernel_rfl) (by kernel_rfl) (by kernel_rfl)
      (OpenSpec.preRow_of_cond 8 hx (by kernel_rfl) (fun k hk => by cases hk) (by kernel_rfl) (lexTokens_met os))) ?_
  intro W base args ds gs before hval0 hW _ _ hsz0 hL _ _
  have hfact := signs_of_laid hL
  have hval : ∀ (j : Nat) t v, Tryd.f3.params[j]? = some t → args[j]? = some v → Value.okWide Tryd.prog W .any base t v := hval0
  have hW' := hW
  obtain ⟨p, q, hA0, hV, rfl, hfz, hnd⟩ := hW
  have hA : DataW.TrodAll enc Tryd.prog W 0 (fun _ => true) true Tryd.f3.params.toList args.toList ds p := hA0
  have hsz : (DataW.weightsEach Tryd.prog (Tryd.f3.params.toList ++ Rows.lexTokensSpec.plain.varTypes Tryd.prog) (ds ++ gs)).all (· ≤ reachBytes) = true := hsz0
  rw [Tryd.params3] at hA hval hsz
  obtain ⟨v0, vs0, d0, ds0, p0, q0, hargs, rfl, rfl, h0, r0⟩ := trodAll_cons hA
  obtain ⟨rfl, rfl, rfl⟩ := trodAll_nil r0
  obtain rfl : args = #[v0] := by cases args; simp_all
  obtain ⟨rfl, rfl⟩ := trodVars_none hV
  have lt0 : ∀ x ∈ p0, x.block < W.heap.size := by obtain ⟨m, hm⟩ := h0; exact DataW.trod_lt m _ _ _ hm
  have o0 := Em.open_str Tryd.underlying9 (hval 0 9 v0 rfl rfl) h0
  clear hA0 hval0 hsz0 hsz
  refine (walk_lexTokens W v0 o0 hfact).mono fun e W' ⟨he, bel⟩ => ?_
  subst he
  exact ⟨_, rfl, _, _, _, [], _, [], hW', trodAll_mk1 (shut_bool Tryd.underlying4 _), (trodAll_cons_mk (Below.trod lexTokens_laidOut (by kernel_rfl) (of_decide_eq_true (by kernel_rfl)) h0 bel lt0) trodAll_mk0), rfl, bel.frame _, fun h => by cases h⟩
theorem lexTokens_said : Rows.LexTokensSaid :=
  OpenClaim.holds_of_cond 3 Tryd.f3 rfl rfl rfl rfl rfl rfl rfl ⟨rfl, rfl, rfl, rfl, rfl⟩ rfl rfl rfl rfl rfl (by kernel_rfl) Tryd.func3 (by kernel_rfl)
    (of_decide_eq_true (by kernel_rfl)) (by unfold Func.isWrapper; first | (rw [if_pos (by decide +kernel)]; kernel_rfl) | (rw [if_neg (by decide +kernel)]; exact ⟨rfl, rfl⟩))
    (fun os started H enc _ F => by rw [OpenClaim.pre_eq_preRow]; exact lexTokens_lifted os started H enc F)
theorem lexTokens_plain (f : FuncId) (fn : Func) (hf : Tryd.pinned.checked.prog.funcNamed "emissary/emissarylaw4.LexTokens" = some f) (hfn : Tryd.pinned.checked.prog.funcs[f]? = some fn) :
    false = Tryd.pinned.checked.prog.looks [] ∧ ∀ (j : Nat) t, fn.params[j]? = some t → Tryd.pinned.checked.prog.wantsStandIn t = false := by
  obtain rfl : f = 3 := Option.some.inj ((show Tryd.prog.funcNamed "emissary/emissarylaw4.LexTokens" = some 3 by kernel_rfl).symm.trans hf) |>.symm
  obtain rfl : fn = Tryd.f3 := (Option.some.inj (Tryd.func3.symm.trans hfn)).symm
  refine ⟨by kernel_rfl, fun j t ht => ?_⟩
  rw [Tryd.params3] at ht
  have hm : t ∈ ([9] : List Nat) := by simpa using Array.mem_of_getElem? ht
  have hall : (([9] : List Nat).all fun u => !Tryd.prog.wantsStandIn u) = true := by kernel_rfl
  exact (show Tryd.prog.wantsStandIn t = false by simpa using List.all_eq_true.1 hall t hm)
theorem lexTokens_holds : Rows.LexTokensCardSaid :=
  Claim7.holds_tied_plain_at .later [] _ _ _ _ lexTokens_said (fun _ h => by cases h) (by kernel_rfl) (fun _ h => by cases h) lexTokens_row_tie rfl ⟨rfl, rfl⟩ (by kernel_rfl) rfl lexTokens_plain (by kernel_rfl)
#print axioms lexTokens_holds
end Go.Proofs.YtglipebhmjbceaaDoor

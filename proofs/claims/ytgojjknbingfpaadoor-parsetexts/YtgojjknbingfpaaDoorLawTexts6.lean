/- ParseTexts: of any text of at most 2100 bytes Parse answers what the document says: its expression, places too, or its first error and where it is. No condition but that lex.signs holds what its initialiser lays, to which the card ties it. -/
import Derived.Test.YtgojjknbingfpaaDoorRows
import Derived.Test.YtgojjknbingfpaaDoorCards
import Derived.Test.YtgojjknbingfpaaDoorTie
import Derived.Test.YtgojjknbingfpaaDoorLexL
import Derived.Test.YtgojjknbingfpaaDoorKnown6
import Derived.Test.YtgojjknbingfpaaDoorFrameX
namespace Go.Proofs.YtgojjknbingfpaaDoor
open Go.ChangeShapes Go.WideShapes Go.ChangeAt Go.RowKit Go.Em5 Go.Em6
set_option linter.unusedVariables false

theorem noNd_is (w : World) : IsNd w (.mk [] [] [] 0 0 []) noNd := by
  unfold IsNd
  exact ⟨none, 0, rfl, txt_nil, txt_nil, txt_nil, i64_zero, i64_zero, by simp, by simp, by simp⟩
set_option maxRecDepth 100000 in
set_option maxHeartbeats 2000000 in
theorem walk_parseTexts (w : World) (y : Value) (hy : ∃ s, y = .string s ∧ s.size ≤ maxLen) (hg : IsSigns w) :
    Calls Tryd.prog 3 #[y] w fun e w' => e = .returned (.bool true) ∧ Below w.heap.size w w' := by
  obtain ⟨s, rfl, hmax⟩ := hy
  unfold maxLen at hmax
  obtain ⟨L, hL⟩ := Em.isStr_of s
  have HL : Hid (Em.IsStr s L) := hL
  have HG : Hid (IsSigns w) := hg
  clear hL hg
  by_cases h21 : 2100 < s.size
  · go_enter Tryd.func3, Tryd.ntmps3
    go_wp2_with fail
    go_ret
    exact ⟨rfl, Below.refl _ _⟩
  go_enter Tryd.func3, Tryd.ntmps3
  go_wp2_with fail
  refine (qparse_any _ L _ HL.out (by omega) HG.out).mono ?_
  rintro e w1 ⟨hgot1, hb1⟩
  cases ht : Em6.parse L with
  | error ca =>
    obtain ⟨c, a⟩ := ca
    have HT : Hid (Em6.parse L = .error (c, a)) := ht
    rw [ht] at hgot1
    simp only [Parsed] at hgot1
    subst hgot1
    clear ht
    unfold noNd
    go_wp2_with fail
    have z1 := Six.made w1 (.string ⟨#[]⟩) (.string ⟨#[]⟩) (.string ⟨#[]⟩) (.int .i64 0) (.int .i64 0) (.slice none 0 0) 24
    have bel1 := hb1.alloc hb1.size (.cells #[.string ⟨#[]⟩, .string ⟨#[]⟩, .string ⟨#[]⟩, .int .i64 0, .int .i64 0, .slice none 0 0] 24)
    refine (rparse_any _ L _ HL.out (by omega)).mono ?_
    rintro e w2 ⟨hgot2, hb2⟩
    rw [HT.out] at hgot2
    simp only [Parsed] at hgot2
    subst hgot2
    have z2 := z1.below hb2
    have bel2 := (bel1.trans (hb2.mono bel1.size)).alloc (bel1.trans (hb2.mono bel1.size)).size (.cells #[.string ⟨#[]⟩, .string ⟨#[]⟩, .string ⟨#[]⟩, .int .i64 0, .int .i64 0, .slice none 0 0] 24)
    obtain ⟨c0, c1, c2, c3, c4, c5, -⟩ := id z2
    have hlt2 := z2.lt
    clear hb1 hb2 bel1 z1 z2
    unfold noNd
    go_wp2_with fail
    refine (rSameAll_any (.mk [] [] [] 0 0 []) (.mk [] [] [] 0 0 []) _ _ _ (noNd_is _) (noNd_is _)).mono ?_
    rintro e w3 ⟨rfl, hb3⟩
    rw [sameA_refl]
    have bel3 := bel2.trans (hb3.mono bel2.size)
    clear hb3 bel2
    go_wp2_with fail
    refine (known6_any _ (HG.out.below bel3 HG.out.lt)).mono ?_
    rintro e w4 ⟨rfl, hb4⟩
    have hb5 := bel3.trans (hb4.mono bel3.size)
    go_wp2_with fail
    go_ret
    exact ⟨rfl, hb5⟩
  | ok m =>
    have HT : Hid (Em6.parse L = .ok m) := ht
    rw [ht] at hgot1
    simp only [Parsed] at hgot1
    obtain ⟨v1, rfl, hn1⟩ := hgot1
    obtain ⟨x0, x1, x2, xm, xp, xa, xl, xc, rfl⟩ := ndb_shape hn1
    clear ht
    go_wp2_with fail
    have z1 := Six.made w1 (.string x0) (.string x1) (.string x2) (.int .i64 xm) (.int .i64 xp) (.slice xa xl xc) 24
    have bel1 := hb1.alloc hb1.size (.cells #[.string x0, .string x1, .string x2, .int .i64 xm, .int .i64 xp, .slice xa xl xc] 24)
    have d1 := isNd_below ((Below.refl w1.heap.size w1).alloc (Nat.le_refl _) (.cells #[.string x0, .string x1, .string x2, .int .i64 xm, .int .i64 xp, .slice xa xl xc] 24)) _ _ (isNdP_is _ _ hn1)
    refine (rparse_any _ L _ HL.out (by omega)).mono ?_
    rintro e w2 ⟨hgot2, hb2⟩
    rw [HT.out] at hgot2
    simp only [Parsed] at hgot2
    obtain ⟨v2, rfl, hn2⟩ := hgot2
    obtain ⟨y0, y1, y2, ym, yp, ya, yl, yc, rfl⟩ := ndb_shape hn2
    have z2 := z1.below hb2
    have bel2 := (bel1.trans (hb2.mono bel1.size)).alloc (bel1.trans (hb2.mono bel1.size)).size (.cells #[.string y0, .string y1, .string y2, .int .i64 ym, .int .i64 yp, .slice ya yl yc] 24)
    have hal := (Below.refl w2.heap.size w2).alloc (Nat.le_refl _) (.cells #[.string y0, .string y1, .string y2, .int .i64 ym, .int .i64 yp, .slice ya yl yc] 24)
    have d2 := isNd_below hal _ _ (isNd_below hb2 _ _ d1)
    have d2' := isNd_below hal _ _ (isNdP_is _ _ hn2)
    obtain ⟨c0, c1, c2, c3, c4, c5, -⟩ := id z2
    have hlt2 := z2.lt
    clear hb1 hb2 bel1 z1 z2 hn1 hn2 d1 hal
    go_wp2_with fail
    refine (rSameAll_any m m _ _ _ d2 d2').mono ?_
    rintro e w3 ⟨rfl, hb3⟩
    rw [sameA_refl]
    have bel3 := bel2.trans (hb3.mono bel2.size)
    clear hb3 bel2 d2 d2'
    go_wp2_with fail
    refine (known6_any _ (HG.out.below bel3 HG.out.lt)).mono ?_
    rintro e w4 ⟨rfl, hb4⟩
    have hb5 := bel3.trans (hb4.mono bel3.size)
    go_wp2_with fail
    go_ret
    exact ⟨rfl, hb5⟩

theorem parseTexts_own : ownKnob Tryd.prog.godebug = none := by kernel_rfl
theorem parseTexts_laidOut : laidOutB Tryd.prog = true := by kernel_rfl
theorem parseTexts_met (os : Os) : laidMet Tryd.prog Rows.parseTextsRow.laid ((laidWorld os).forCall (fun _ _ => 0) ⟨#[], #[.string ByteArray.empty], []⟩).memory :=
  laidMet_of_run' 8 (by kernel_rfl) (by kernel_rfl)
theorem parseTexts_reads (os : Os) {H : Type} (enc : TypeId × Value → H) : ∃ places, DataW.whole enc Tryd.prog ((laidWorld os).forCall (fun _ _ => 0) ⟨#[], #[.string ByteArray.empty], []⟩).memory Tryd.f3.params.toList Rows.parseTextsSpec.vars false (#[.string ByteArray.empty] : Array Value).toList 8 = some ([.lit (.string [])], [], places) :=
  ⟨[], by kernel_rfl⟩
set_option maxRecDepth 100000 in
theorem parseTexts_lifted (os : Os) (started : os.Started) (H : Type) (enc : TypeId × Value → H) (F : Stop.Interp) :
    ReturnsInHanded {} Tryd.checked os 3 .any ((OpenSpec.ofChange Rows.parseTextsSpec).preRow enc Tryd.prog Tryd.f3 Rows.parseTextsRow.domain false Rows.parseTextsRow.laid) (((OpenSpec.ofChange Rows.parseTextsSpec).at F).post enc Tryd.prog Tryd.f3 false true false false) := by
  obtain ⟨places, hx⟩ := parseTexts_reads os enc
  refine returnsInHanded_of_row (C := Tryd.checked) (s := OpenSpec.ofChange Rows.parseTextsSpec) parseTexts_own started (by kernel_rfl) Tryd.func3
    (witness_row_at (enc := enc) (C := Tryd.checked) false (laidWorld os) #[.string ByteArray.empty] rfl (by kernel_rfl) (by kernel_rfl) (by kernel_rfl)
      (OpenSpec.preRow_of_cond 8 hx (by kernel_rfl) (fun k hk => by cases hk) (by kernel_rfl) (parseTexts_met os))) ?_
  intro W base args ds gs before hval0 hW _ _ hsz0 hL _ _
  have hfact := signs_of_laid hL
  have hval : ∀ (j : Nat) t v, Tryd.f3.params[j]? = some t → args[j]? = some v → Value.okWide Tryd.prog W .any base t v := hval0
  have hW' := hW
  obtain ⟨p, q, hA0, hV, rfl, hfz, hnd⟩ := hW
  have hA : DataW.TrodAll enc Tryd.prog W 0 (fun _ => true) true Tryd.f3.params.toList args.toList ds p := hA0
  have hsz : (DataW.weightsEach Tryd.prog (Tryd.f3.params.toList ++ Rows.parseTextsSpec.plain.varTypes Tryd.prog) (ds ++ gs)).all (· ≤ reachBytes) = true := hsz0
  rw [Tryd.params3] at hA hval hsz
  obtain ⟨v0, vs0, d0, ds0, p0, q0, hargs, rfl, rfl, h0, r0⟩ := trodAll_cons hA
  obtain ⟨rfl, rfl, rfl⟩ := trodAll_nil r0
  obtain rfl : args = #[v0] := by cases args; simp_all
  obtain ⟨rfl, rfl⟩ := trodVars_none hV
  have lt0 : ∀ x ∈ p0, x.block < W.heap.size := by obtain ⟨m, hm⟩ := h0; exact DataW.trod_lt m _ _ _ hm
  have o0 := Em.open_str Tryd.underlying9 (hval 0 9 v0 rfl rfl) h0
  clear hA0 hval0 hsz0 hsz
  refine (walk_parseTexts W v0 o0 hfact).mono fun e W' ⟨he, bel⟩ => ?_
  subst he
  exact ⟨_, rfl, _, _, _, [], _, [], hW', trodAll_mk1 (shut_bool Tryd.underlying4 _), (trodAll_cons_mk (Below.trod parseTexts_laidOut (by kernel_rfl) (of_decide_eq_true (by kernel_rfl)) h0 bel lt0) trodAll_mk0), rfl, bel.frame _, fun h => by cases h⟩
theorem parseTexts_said : Rows.ParseTextsSaid :=
  OpenClaim.holds_of_cond 3 Tryd.f3 rfl rfl rfl rfl rfl rfl rfl ⟨rfl, rfl, rfl, rfl, rfl⟩ rfl rfl rfl rfl rfl (by kernel_rfl) Tryd.func3 (by kernel_rfl)
    (of_decide_eq_true (by kernel_rfl)) (by unfold Func.isWrapper; first | (rw [if_pos (by decide +kernel)]; kernel_rfl) | (rw [if_neg (by decide +kernel)]; exact ⟨rfl, rfl⟩))
    (fun os started H enc _ F => by rw [OpenClaim.pre_eq_preRow]; exact parseTexts_lifted os started H enc F)
theorem parseTexts_plain (f : FuncId) (fn : Func) (hf : Tryd.pinned.checked.prog.funcNamed "emissary/emissarylaw6.ParseTexts" = some f) (hfn : Tryd.pinned.checked.prog.funcs[f]? = some fn) :
    false = Tryd.pinned.checked.prog.looks [] ∧ ∀ (j : Nat) t, fn.params[j]? = some t → Tryd.pinned.checked.prog.wantsStandIn t = false := by
  obtain rfl : f = 3 := Option.some.inj ((show Tryd.prog.funcNamed "emissary/emissarylaw6.ParseTexts" = some 3 by kernel_rfl).symm.trans hf) |>.symm
  obtain rfl : fn = Tryd.f3 := (Option.some.inj (Tryd.func3.symm.trans hfn)).symm
  refine ⟨by kernel_rfl, fun j t ht => ?_⟩
  rw [Tryd.params3] at ht
  have hm : t ∈ ([9] : List Nat) := by simpa using Array.mem_of_getElem? ht
  have hall : (([9] : List Nat).all fun u => !Tryd.prog.wantsStandIn u) = true := by kernel_rfl
  exact (show Tryd.prog.wantsStandIn t = false by simpa using List.all_eq_true.1 hall t hm)
theorem parseTexts_holds : Rows.ParseTextsCardSaid :=
  Claim7.holds_tied_plain_at .later [] _ _ _ _ parseTexts_said (fun _ h => by cases h) (by kernel_rfl) (fun _ h => by cases h) parseTexts_row_tie rfl ⟨rfl, rfl⟩ (by kernel_rfl) rfl parseTexts_plain (by kernel_rfl)
#print axioms parseTexts_holds
end Go.Proofs.YtgojjknbingfpaaDoor

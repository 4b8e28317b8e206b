/- ShowParsed: what is parsed out of a text of at most 400 bytes is shown, and parsed, and shown again as the same text. No condition but that the tables that the program reads hold what their initialisers lay, to which the card ties them. -/
import Derived.Test.YtoekhejpompjlaaDoorRows
import Derived.Test.YtoekhejpompjlaaDoorCards
import Derived.Test.YtoekhejpompjlaaDoorTie
import Derived.Test.YtoekhejpompjlaaDoorLexL7
import Derived.Test.YtoekhejpompjlaaDoorKnown7
import Derived.Test.YtoekhejpompjlaaDoorFrameX
import Derived.Deep.RegionHeld
namespace Go.Proofs.YtoekhejpompjlaaDoor
open Go.ChangeShapes Go.WideShapes Go.ChangeAt Go.RowKit Go.Em5 Go.Em6
set_option linter.unusedVariables false
set_option linter.unusedSimpArgs false

theorem noNd_is (w : World) : IsNd w (.mk [] [] [] 0 0 []) (.agg #[.string ⟨#[]⟩, .string ⟨#[]⟩, .string ⟨#[]⟩, .int .i64 0, .int .i64 0, .slice none 0 0]) := by
  unfold IsNd
  exact ⟨none, 0, rfl, txt_nil, txt_nil, txt_nil, i64_zero, i64_zero, by simp, by simp, by simp⟩
theorem noNd_no : isNd (.mk [] [] [] 0 0 []) = false := by decide

set_option maxRecDepth 100000 in
set_option maxHeartbeats 4000000 in
theorem walk_showParsed (w : World) (y : Value) (hy : ∃ s, y = .string s ∧ s.size ≤ maxLen) (hl : IsLaid w) :
    Calls Tryd.prog 5 #[y] w fun e w' => e = .returned (.bool true) ∧ Below w.heap.size w w' := by
  obtain ⟨s, rfl, hmax⟩ := hy
  unfold maxLen at hmax
  obtain ⟨L, hL⟩ := Em.isStr_of s
  have HL : Hid (Em.IsStr s L) := hL
  have HLA : Hid (∀ w', Below w.heap.size w w' → IsLaid w') := fun w' h => hl.below h
  clear hL hl
  go_enter Tryd.func5, Tryd.ntmps5
  go_wp2_with fail
  refine (rparse_any _ L _ HL.out (by omega)).mono ?_
  rintro e w1 ⟨hgot1, hb1⟩
  cases ht : Em6.parse L with
  | error ca =>
    obtain ⟨c, a⟩ := ca
    rw [ht] at hgot1
    simp only [Parsed] at hgot1
    subst hgot1
    clear ht
    unfold noNd
    have bel1 := hb1.alloc hb1.size (.cells #[.string ⟨#[]⟩, .string ⟨#[]⟩, .string ⟨#[]⟩, .int .i64 0, .int .i64 0, .slice none 0 0] 24)
    by_cases h400 : 400 < s.size
    · go_wp2_with fail
      go_ret
      exact ⟨rfl, bel1⟩
    by_cases hc : c = 0
    · subst hc
      go_wp2_with fail
      refine (rIs_any (.mk [] [] [] 0 0 []) _ _ (noNd_is _)).mono ?_
      rintro e w2 ⟨rfl, hb2⟩
      rw [noNd_no]
      have bel2 := bel1.trans (hb2.mono bel1.size)
      clear hb2 bel1 hb1
      go_wp2_with fail
      go_ret
      exact ⟨rfl, bel2⟩
    · have hcn : ((c : Int) == 0) = false := by simp; omega
      have hcn' : ((c : Int) != 0) = true := by rw [bne, hcn]; rfl
      clear hc
      go_wp2_with fail
      go_ret
      exact ⟨rfl, bel1⟩
  | ok m =>
    rw [ht] at hgot1
    simp only [Parsed] at hgot1
    obtain ⟨v1, rfl, hn1⟩ := hgot1
    obtain ⟨x0, x1, x2, xm, xp, xa, xl, xc, rfl⟩ := ndb_shape hn1
    clear ht
    have z1 := Six.made w1 (.string x0) (.string x1) (.string x2) (.int .i64 xm) (.int .i64 xp) (.slice xa xl xc) 24
    have bel1 := hb1.alloc hb1.size (.cells #[.string x0, .string x1, .string x2, .int .i64 xm, .int .i64 xp, .slice xa xl xc] 24)
    have d1 := isNd_below ((Below.refl w1.heap.size w1).alloc (Nat.le_refl _) (.cells #[.string x0, .string x1, .string x2, .int .i64 xm, .int .i64 xp, .slice xa xl xc] 24)) _ _ (isNdP_is _ _ hn1)
    clear hn1 hb1
    by_cases h400 : 400 < s.size
    · go_wp2_with fail
      go_ret
      exact ⟨rfl, bel1⟩
    go_wp2_with fail
    refine (rIs_any m _ _ d1).mono ?_
    rintro e w2 ⟨rfl, hb2⟩
    have bel2 := bel1.trans (hb2.mono bel1.size)
    have z2 := z1.below hb2
    have d2 := isNd_below hb2 _ _ d1
    clear hb2 bel1 z1 d1
    cases hi : isNd m with
    | false =>
      go_wp2_with fail
      go_ret
      exact ⟨rfl, bel2⟩
    | true =>
    obtain ⟨hea, hes⟩ := isNd_each hi
    have HPT := Em7.parse_text hea
    have HLN : Hid ((Em7.text m).length ≤ 300000) := by have := Em7.text_len m hea; rw [Hid]; omega
    have HPT : Hid _ := HPT
    have HSH : Hid (shown m = Em7.text m) := shown_is hi
    have HI : Hid (isNd m = true) := hi
    have HBY : Hid (Em7.Byt (Em7.text m)) := Em7.text_byt m _ d2
    have HIS : Hid (Em.IsStr (Em.str (Em7.text m)) (Em7.text m)) := Em.isStr_str HBY.out
    have hsz : (Em.str (Em7.text m)).size ≤ 9223372036854775807 := by rw [HIS.out.size]; have := HLN.out; omega
    clear hi hea hes
    obtain ⟨g0, g1, g2, g3, g4, g5, -⟩ := id z2
    go_wp2_with fail
    refine (ptext_any m _ _ d2 (HLA.out _ bel2)).mono ?_
    rintro e w3 ⟨rfl, hb3⟩
    rw [HSH.out]
    have hbw3 := bel2.trans (hb3.mono bel2.size)
    clear g0 g1 g2 g3 g4 g5 hb3 bel2 d2 z2
    go_wp2_with fail
    refine (rparse_any _ (Em7.text m) _ HIS.out hsz).mono ?_
    rintro e w4 ⟨hgot4, hb4⟩
    have hbw4 := hbw3.trans (hb4.mono hbw3.size)
    clear hb4 hbw3
    rcases HPT.out with hp | ⟨q, hp⟩ | ⟨m2, hp, hsm⟩
    · rw [hp] at hgot4
      simp only [Parsed] at hgot4
      subst hgot4
      unfold noNd
      clear hp
      have bz4 := hbw4.alloc hbw4.size (.cells #[.string ⟨#[]⟩, .string ⟨#[]⟩, .string ⟨#[]⟩, .int .i64 0, .int .i64 0, .slice none 0 0] 24)
      clear hbw4 HPT
      go_wp2_with fail
      refine (known7_any _ (HLA.out _ bz4)).mono ?_
      rintro e w6 ⟨rfl, hb6⟩
      have bz7 := bz4.trans (hb6.mono bz4.size)
      go_wp2_with fail
      go_ret
      exact ⟨rfl, bz7⟩
    · rw [hp] at hgot4
      simp only [Parsed] at hgot4
      subst hgot4
      unfold noNd
      clear hp
      have bz4 := hbw4.alloc hbw4.size (.cells #[.string ⟨#[]⟩, .string ⟨#[]⟩, .string ⟨#[]⟩, .int .i64 0, .int .i64 0, .slice none 0 0] 24)
      clear hbw4 HPT
      go_wp2_with fail
      refine (known7_any _ (HLA.out _ bz4)).mono ?_
      rintro e w6 ⟨rfl, hb6⟩
      have bz7 := bz4.trans (hb6.mono bz4.size)
      go_wp2_with fail
      go_ret
      exact ⟨rfl, bz7⟩
    · have HS2 : Hid (shown m2 = Em7.text m) := by rw [Hid, shown_is ((Em7.same_isNd hsm).trans HI.out), Em7.same_text _ _ hsm]
      rw [hp] at hgot4
      simp only [Parsed] at hgot4
      obtain ⟨v4, rfl, hn4⟩ := hgot4
      obtain ⟨y0, y1, y2, ym, yp, ya, yl, yc, rfl⟩ := ndb_shape hn4
      clear hp hsm HPT
      have bz4 := hbw4.alloc hbw4.size (.cells #[.string y0, .string y1, .string y2, .int .i64 ym, .int .i64 yp, .slice ya yl yc] 24)
      have dm := isNd_below ((Below.refl w4.heap.size w4).alloc (Nat.le_refl _) (.cells #[.string y0, .string y1, .string y2, .int .i64 ym, .int .i64 yp, .slice ya yl yc] 24)) _ _ (isNdP_is _ _ hn4)
      clear hbw4 hn4
      go_wp2_with fail
      refine (ptext_any m2 _ _ dm (HLA.out _ bz4)).mono ?_
      rintro e w5 ⟨rfl, hb5⟩
      rw [HS2.out]
      have bz5 := bz4.trans (hb5.mono bz4.size)
      clear hb5 bz4 dm
      go_wp2_with fail
      refine (known7_any _ (HLA.out _ bz5)).mono ?_
      rintro e w6 ⟨rfl, hb6⟩
      have bz6 := bz5.trans (hb6.mono bz5.size)
      go_wp2_with fail
      go_ret
      exact ⟨rfl, bz6⟩

theorem showParsed_own : ownKnob Tryd.prog.godebug = none := by kernel_rfl
theorem showParsed_laidOut : laidOutB Tryd.prog = true := by kernel_rfl
theorem showParsed_met (os : Os) : laidMet Tryd.prog Rows.showParsedRow.laid ((laidWorld os).forCall (fun _ _ => 0) ⟨#[], #[.string ByteArray.empty], []⟩).memory :=
  laidMet_of_run' 8 (by kernel_rfl) (by kernel_rfl)
theorem showParsed_reads (os : Os) {H : Type} (enc : TypeId × Value → H) : ∃ places, DataW.whole enc Tryd.prog ((laidWorld os).forCall (fun _ _ => 0) ⟨#[], #[.string ByteArray.empty], []⟩).memory Tryd.f5.params.toList Rows.showParsedSpec.vars false (#[.string ByteArray.empty] : Array Value).toList 8 = some ([.lit (.string [])], [], places) :=
  ⟨[], by kernel_rfl⟩
set_option maxRecDepth 100000 in
theorem showParsed_lifted (os : Os) (started : os.Started) (H : Type) (enc : TypeId × Value → H) (F : Stop.Interp) :
    ReturnsInHanded {} Tryd.checked os 5 .any ((OpenSpec.ofChange Rows.showParsedSpec).preRow enc Tryd.prog Tryd.f5 Rows.showParsedRow.domain false Rows.showParsedRow.laid) (((OpenSpec.ofChange Rows.showParsedSpec).at F).post enc Tryd.prog Tryd.f5 false true false false) := by
  obtain ⟨places, hx⟩ := showParsed_reads os enc
  refine returnsInHanded_of_row (C := Tryd.checked) (s := OpenSpec.ofChange Rows.showParsedSpec) showParsed_own started (by kernel_rfl) Tryd.func5
    (witness_row_at (enc := enc) (C := Tryd.checked) false (laidWorld os) #[.string ByteArray.empty] rfl (by kernel_rfl) (by kernel_rfl) (by kernel_rfl)
      (OpenSpec.preRow_of_cond 8 hx (by kernel_rfl) (fun k hk => by cases hk) (by kernel_rfl) (showParsed_met os))) ?_
  intro W base args ds gs before hval0 hW _ _ hsz0 hL _ _
  have hfact := laid_of_row hL
  have hval : ∀ (j : Nat) t v, Tryd.f5.params[j]? = some t → args[j]? = some v → Value.okWide Tryd.prog W .any base t v := hval0
  have hW' := hW
  obtain ⟨p, q, hA0, hV, rfl, hfz, hnd⟩ := hW
  have hA : DataW.TrodAll enc Tryd.prog W 0 (fun _ => true) true Tryd.f5.params.toList args.toList ds p := hA0
  have hsz : (DataW.weightsEach Tryd.prog (Tryd.f5.params.toList ++ Rows.showParsedSpec.plain.varTypes Tryd.prog) (ds ++ gs)).all (· ≤ reachBytes) = true := hsz0
  rw [Tryd.params5] at hA hval hsz
  obtain ⟨v0, vs0, d0, ds0, p0, q0, hargs, rfl, rfl, h0, r0⟩ := trodAll_cons hA
  obtain ⟨rfl, rfl, rfl⟩ := trodAll_nil r0
  obtain rfl : args = #[v0] := by cases args; simp_all
  obtain ⟨rfl, rfl⟩ := trodVars_none hV
  have lt0 : ∀ x ∈ p0, x.block < W.heap.size := by obtain ⟨m, hm⟩ := h0; exact DataW.trod_lt m _ _ _ hm
  have o0 := Em.open_str Tryd.underlying9 (hval 0 9 v0 rfl rfl) h0
  clear hA0 hval0 hsz0 hsz
  refine (walk_showParsed W v0 o0 hfact).mono fun e W' ⟨he, bel⟩ => ?_
  subst he
  exact ⟨_, rfl, _, _, _, [], _, [], hW', trodAll_mk1 (shut_bool Tryd.underlying4 _), (trodAll_cons_mk (Below.trod showParsed_laidOut (by kernel_rfl) (of_decide_eq_true (by kernel_rfl)) h0 bel lt0) trodAll_mk0), rfl, bel.frame _, fun h => by cases h⟩
theorem showParsed_said : Rows.ShowParsedSaid :=
  OpenClaim.holds_of_cond 5 Tryd.f5 rfl rfl rfl rfl rfl rfl rfl ⟨rfl, rfl, rfl, rfl, rfl⟩ rfl rfl rfl rfl rfl (by kernel_rfl) Tryd.func5 (by kernel_rfl)
    (of_decide_eq_true (by kernel_rfl)) (by unfold Func.isWrapper; first | (rw [if_pos (by decide +kernel)]; kernel_rfl) | (rw [if_neg (by decide +kernel)]; exact ⟨rfl, rfl⟩))
    (fun os started H enc _ F => by rw [OpenClaim.pre_eq_preRow]; exact showParsed_lifted os started H enc F)
theorem showParsed_plain (f : FuncId) (fn : Func) (hf : Tryd.pinned.checked.prog.funcNamed "emissary/emissarylaw7.ShowParsed" = some f) (hfn : Tryd.pinned.checked.prog.funcs[f]? = some fn) :
    false = Tryd.pinned.checked.prog.looks [] ∧ ∀ (j : Nat) t, fn.params[j]? = some t → Tryd.pinned.checked.prog.wantsStandIn t = false := by
  obtain rfl : f = 5 := Option.some.inj ((show Tryd.prog.funcNamed "emissary/emissarylaw7.ShowParsed" = some 5 by kernel_rfl).symm.trans hf) |>.symm
  obtain rfl : fn = Tryd.f5 := (Option.some.inj (Tryd.func5.symm.trans hfn)).symm
  refine ⟨by kernel_rfl, fun j t ht => ?_⟩
  rw [Tryd.params5] at ht
  have hm : t ∈ ([9] : List Nat) := by simpa using Array.mem_of_getElem? ht
  have hall : (([9] : List Nat).all fun u => !Tryd.prog.wantsStandIn u) = true := by kernel_rfl
  exact (show Tryd.prog.wantsStandIn t = false by simpa using List.all_eq_true.1 hall t hm)
theorem showParsed_holds : Rows.ShowParsedCardSaid :=
  Claim7.holds_tied_plain_at .later [] _ _ _ _ showParsed_said (fun _ h => by cases h) (by kernel_rfl) (fun _ h => by cases h) showParsed_row_tie rfl ⟨rfl, rfl⟩ (by kernel_rfl) rfl showParsed_plain (by kernel_rfl)
#print axioms showParsed_holds
end Go.Proofs.YtoekhejpompjlaaDoor

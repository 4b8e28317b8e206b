/- ParseShown: an expression of at most 80 nodes that is shown is parsed as it was, by the program as by the document, if it is not too deep or too long; and the same error else. No condition but that lex.signs holds what its initialiser lays, to which the card ties it. -/
import Derived.Test.YtgojjknbingfpaaDoorRows
import Derived.Test.YtgojjknbingfpaaDoorCards
import Derived.Test.YtgojjknbingfpaaDoorTie
import Derived.Test.YtgojjknbingfpaaDoorLexL
import Derived.Test.YtgojjknbingfpaaDoorKnown6
import Derived.Test.YtgojjknbingfpaaDoorFrameX
import Derived.Test.YtgojjknbingfpaaDoorRShC
import Derived.Test.YtgojjknbingfpaaDoorRTreeM1
import Derived.Test.YtgojjknbingfpaaDoorPureC
import Derived.Test.YtgojjknbingfpaaDoorMath7p
namespace Go.Proofs.YtgojjknbingfpaaDoor
open Go.ChangeShapes Go.WideShapes Go.ChangeAt Go.RowKit Go.Em5 Go.Em6
set_option linter.unusedVariables false
set_option linter.unusedSimpArgs false

theorem isNd_each {m : Nd} (h : isNd m = true) : each m = true ∧ m.size ≤ 2000 := by
  unfold isNd at h
  simp only [Bool.and_eq_true, decide_eq_true_eq] at h
  exact ⟨h.2, h.1⟩

set_option maxRecDepth 100000 in
set_option maxHeartbeats 4000000 in
theorem walk_parseShown (w : World) (v : Value) (hv : ∃ T, IsNd w T v) (hg : IsSigns w) :
    Calls Tryd.prog 4 #[v] w fun e w' => e = .returned (.bool true) ∧ Below w.heap.size w w' := by
  obtain ⟨T, hv⟩ := hv
  have HSG : Hid (∀ w', Below w.heap.size w w' → IsSigns w') := fun w' h => hg.below h hg.lt
  have HV : Hid (∀ w', Below w.heap.size w w' → IsNd w' T v) := fun w' h => isNd_below h _ _ hv
  have HBY : Hid (Em7.Byt (Em7.text T)) := Em7.text_byt T v hv
  obtain ⟨op, nm, ar, n, p, l⟩ := T
  unfold IsNd at hv
  obtain ⟨a, cap, rfl, -⟩ := hv
  obtain ⟨W, hW⟩ : ∃ W, W = w.alloc (.cells #[.string (Em.str op), .string (Em.str nm), .string (Em.str ar), .int .i64 n, .int .i64 p, .slice a l.length cap] 24) := ⟨_, rfl⟩
  have hbW : Below w.heap.size w W := by rw [hW]; exact (Below.refl _ _).alloc (Nat.le_refl _) _
  have h6 : Six W w.heap.size (.string (Em.str op)) (.string (Em.str nm)) (.string (Em.str ar)) (.int .i64 n) (.int .i64 p) (.slice a l.length cap) := by rw [hW]; exact Six.made _ _ _ _ _ _ _ _
  have H6 : Hid (∀ w', Below W.heap.size W w' → Six w' w.heap.size (.string (Em.str op)) (.string (Em.str nm)) (.string (Em.str ar)) (.int .i64 n) (.int .i64 p) (.slice a l.length cap)) := fun w' h => h6.below h
  have HW : Hid (Below w.heap.size w W) := hbW
  have HWE : Hid (w.alloc (.cells #[.string (Em.str op), .string (Em.str nm), .string (Em.str ar), .int .i64 n, .int .i64 p, .slice a l.length cap] 24) = W) := hW.symm
  obtain ⟨T, hT⟩ : ∃ T, T = Nd.mk op nm ar n p l := ⟨_, rfl⟩
  rw [← hT] at HV HBY
  clear hW hbW h6 hg hT
  go_enter Tryd.func4, Tryd.ntmps4
  go_wp2_with fail
  rw [HWE.out]
  clear HWE
  refine (rSize_any _ _ _ (HV.out _ HW.out)).mono ?_
  rintro e w1 ⟨rfl, hb1⟩
  obtain ⟨z, hz⟩ : ∃ z : Nat, z = min T.size 2001 := ⟨_, rfl⟩
  have hz2 : z ≤ 2001 := by omega
  rw [← hz]
  have hbw1 : Below w.heap.size w w1 := HW.out.trans (hb1.mono HW.out.size)
  clear hz
  by_cases h80 : 80 < z
  · go_wp2_with fail
    go_ret
    exact ⟨rfl, hbw1⟩
  obtain ⟨g0, g1, g2, g3, g4, g5, -⟩ := H6.out _ hb1
  go_wp2_with fail
  refine (rIs_any _ _ _ (HV.out _ hbw1)).mono ?_
  rintro e w2 ⟨rfl, hb2⟩
  have hb2' : Below W.heap.size W w2 := hb1.trans (hb2.mono hb1.size)
  have hbw2 : Below w.heap.size w w2 := HW.out.trans (hb2'.mono HW.out.size)
  clear g0 g1 g2 g3 g4 g5 hb1 hbw1 hb2
  cases hi : isNd T with
  | false =>
    go_wp2_with fail
    go_ret
    exact ⟨rfl, hbw2⟩
  | true =>
    obtain ⟨hea, hes⟩ := isNd_each hi
    have HPT := Em7.parse_text hea
    have HLN : Hid ((Em7.text T).length ≤ 300000) := by have := Em7.text_len T hea; rw [Hid]; omega
    have HEA : Hid (each T = true ∧ T.size ≤ 2000) := ⟨hea, hes⟩
    have HPT : Hid _ := HPT
    clear hi hea hes
    obtain ⟨g0, g1, g2, g3, g4, g5, -⟩ := H6.out _ hb2'
    go_wp2_with fail
    refine (stext_any T _ _ (HV.out _ hbw2) HEA.out.1 HEA.out.2).mono ?_
    rintro e w3 ⟨rfl, hb3⟩
    have hb3' : Below W.heap.size W w3 := hb2'.trans (hb3.mono hb2'.size)
    have hbw3 : Below w.heap.size w w3 := HW.out.trans (hb3'.mono HW.out.size)
    have HIS : Hid (Em.IsStr (Em.str (Em7.text T)) (Em7.text T)) := Em.isStr_str HBY.out
    have hsz : (Em.str (Em7.text T)).size ≤ 9223372036854775807 := by rw [HIS.out.size]; have := HLN.out; omega
    clear g0 g1 g2 g3 g4 g5 hb3 hb2' hbw2
    go_wp2_with fail
    refine (rparse_any _ (Em7.text T) _ HIS.out hsz).mono ?_
    rintro e w4 ⟨hgot4, hb4⟩
    have hb4' : Below W.heap.size W w4 := hb3'.trans (hb4.mono hb3'.size)
    have hbw4 : Below w.heap.size w w4 := HW.out.trans (hb4'.mono HW.out.size)
    clear hb4 hb3' hbw3
    have herr : (∃ c a, Em6.parse (Em7.text T) = .error (c, a) ∧ c ≠ 0) ∨ ∃ m, Em6.parse (Em7.text T) = .ok m ∧ same m T = true := by
      rcases HPT.out with h | ⟨q, h⟩ | h
      · exact .inl ⟨7, 0, h, by decide⟩
      · exact .inl ⟨3, q, h, by decide⟩
      · exact .inr h
    rcases herr with ⟨c, a', hp, hc0⟩ | ⟨m, hp, hsm⟩
    · have HP : Hid (Em6.parse (Em7.text T) = .error (c, a')) := hp
      rw [hp] at hgot4
      simp only [Parsed] at hgot4
      subst hgot4
      unfold noNd
      clear hp HPT
      have bz4 := hbw4.alloc hbw4.size (.cells #[.string ⟨#[]⟩, .string ⟨#[]⟩, .string ⟨#[]⟩, .int .i64 0, .int .i64 0, .slice none 0 0] 24)
      have bz4' := hb4'.alloc hb4'.size (.cells #[.string ⟨#[]⟩, .string ⟨#[]⟩, .string ⟨#[]⟩, .int .i64 0, .int .i64 0, .slice none 0 0] 24)
      go_wp2_with fail
      refine (qparse_any _ (Em7.text T) _ HIS.out hsz (HSG.out _ bz4)).mono ?_
      rintro e w5 ⟨hgot5, hb5⟩
      rw [HP.out] at hgot5
      simp only [Parsed] at hgot5
      subst hgot5
      unfold noNd
      have hcn : ((c : Int) == 0) = false := by simp; omega
      have hcn' : ((c : Int) != 0) = true := by rw [bne, hcn]; rfl
      have bz5 : Below w.heap.size w w5 := bz4.trans (hb5.mono bz4.size)
      have bz6 := bz5.alloc bz5.size (.cells #[.string ⟨#[]⟩, .string ⟨#[]⟩, .string ⟨#[]⟩, .int .i64 0, .int .i64 0, .slice none 0 0] 24)
      clear hb5 bz5 bz4 bz4' hb4' hbw4 hc0
      go_wp2_with fail
      refine (known6_any _ (HSG.out _ bz6)).mono ?_
      rintro e w6 ⟨rfl, hb6⟩
      have bz7 := bz6.trans (hb6.mono bz6.size)
      go_wp2_with fail
      go_ret
      exact ⟨rfl, bz7⟩
    · have HP : Hid (Em6.parse (Em7.text T) = .ok m) := hp
      have HSM : Hid (same m T = true) := hsm
      rw [hp] at hgot4
      simp only [Parsed] at hgot4
      obtain ⟨v4, rfl, hn4⟩ := hgot4
      obtain ⟨x0, x1, x2, xm, xp, xa, xl, xc, rfl⟩ := ndb_shape hn4
      clear hp hsm HPT
      have zm := Six.made w4 (.string x0) (.string x1) (.string x2) (.int .i64 xm) (.int .i64 xp) (.slice xa xl xc) 24
      have bz4 := hbw4.alloc hbw4.size (.cells #[.string x0, .string x1, .string x2, .int .i64 xm, .int .i64 xp, .slice xa xl xc] 24)
      have bz4' := hb4'.alloc hb4'.size (.cells #[.string x0, .string x1, .string x2, .int .i64 xm, .int .i64 xp, .slice xa xl xc] 24)
      have dm := isNd_below ((Below.refl w4.heap.size w4).alloc (Nat.le_refl _) (.cells #[.string x0, .string x1, .string x2, .int .i64 xm, .int .i64 xp, .slice xa xl xc] 24)) _ _ (isNdP_is _ _ hn4)
      go_wp2_with fail
      refine (qparse_any _ (Em7.text T) _ HIS.out hsz (HSG.out _ bz4)).mono ?_
      rintro e w5 ⟨hgot5, hb5⟩
      rw [HP.out] at hgot5
      simp only [Parsed] at hgot5
      obtain ⟨v5, rfl, hn5⟩ := hgot5
      obtain ⟨y0, y1, y2, ym, yp, ya, yl, yc, rfl⟩ := ndb_shape hn5
      have hal := (Below.refl w5.heap.size w5).alloc (Nat.le_refl _) (.cells #[.string y0, .string y1, .string y2, .int .i64 ym, .int .i64 yp, .slice ya yl yc] 24)
      have bz5 : Below w.heap.size w w5 := bz4.trans (hb5.mono bz4.size)
      have bz5' : Below W.heap.size W w5 := bz4'.trans (hb5.mono bz4'.size)
      have bz6 := bz5.alloc bz5.size (.cells #[.string y0, .string y1, .string y2, .int .i64 ym, .int .i64 yp, .slice ya yl yc] 24)
      have bz6' := bz5'.alloc bz5'.size (.cells #[.string y0, .string y1, .string y2, .int .i64 ym, .int .i64 yp, .slice ya yl yc] 24)
      have zx := Six.made w5 (.string y0) (.string y1) (.string y2) (.int .i64 ym) (.int .i64 yp) (.slice ya yl yc) 24
      have zm6 := (zm.below hb5).below hal
      have dm6 := isNd_below hal _ _ (isNd_below hb5 _ _ dm)
      have dx6 := isNd_below hal _ _ (isNdP_is _ _ hn5)
      obtain ⟨g0, g1, g2, g3, g4, g5, -⟩ := H6.out _ bz6'
      have hl5 := (zm.below hb5).lt
      have hW5 := (H6.out _ bz5').lt
      obtain ⟨i0, i1, i2, i3, i4, i5, -⟩ := H6.out _ bz5'
      clear hb5 bz5 bz4 bz4' hb4' hbw4 hn4 hn5 dm zm bz5'
      go_wp2_with fail
      refine (rSame_any m T _ _ _ dx6 (HV.out _ bz6)).mono ?_
      rintro e w7 ⟨rfl, hb7⟩
      rw [HSM.out]
      have bz7 := bz6.trans (hb7.mono bz6.size)
      have bz7' := bz6'.trans (hb7.mono bz6'.size)
      have dm7 := isNd_below hb7 _ _ dm6
      have zm7 := zm6.below hb7
      clear g0 g1 g2 g3 g4 g5 i0 i1 i2 i3 i4 i5 hb7 bz6 bz6' dx6 dm6 zm6 zx
      obtain ⟨g0, g1, g2, g3, g4, g5, -⟩ := H6.out _ bz7'
      obtain ⟨k0, k1, k2, k3, k4, k5, -⟩ := id zm7
      go_wp2_with fail
      refine (rSame_any m T _ _ _ dm7 (HV.out _ bz7)).mono ?_
      rintro e w8 ⟨rfl, hb8⟩
      rw [HSM.out]
      have bz8 := bz7.trans (hb8.mono bz7.size)
      clear g0 g1 g2 g3 g4 g5 k0 k1 k2 k3 k4 k5 hb8 bz7 bz7' dm7 zm7
      go_wp2_with fail
      refine (known6_any _ (HSG.out _ bz8)).mono ?_
      rintro e w9 ⟨rfl, hb9⟩
      have bz9 := bz8.trans (hb9.mono bz8.size)
      go_wp2_with fail
      go_ret
      exact ⟨rfl, bz9⟩

theorem parseShown_own : ownKnob Tryd.prog.godebug = none := by kernel_rfl
theorem parseShown_laidOut : laidOutB Tryd.prog = true := by kernel_rfl
theorem parseShown_met (os : Os) : laidMet Tryd.prog Rows.parseShownRow.laid ((laidWorld os).forCall (fun _ _ => 0) ⟨#[], #[.agg #[.string ByteArray.empty, .string ByteArray.empty, .string ByteArray.empty, .int .i64 0, .int .i64 0, .slice none 0 0]], []⟩).memory :=
  laidMet_of_run' 8 (by kernel_rfl) (by kernel_rfl)
theorem parseShown_reads (os : Os) {H : Type} (enc : TypeId × Value → H) : ∃ places, DataW.whole enc Tryd.prog ((laidWorld os).forCall (fun _ _ => 0) ⟨#[], #[.agg #[.string ByteArray.empty, .string ByteArray.empty, .string ByteArray.empty, .int .i64 0, .int .i64 0, .slice none 0 0]], []⟩).memory Tryd.f4.params.toList Rows.parseShownSpec.vars false (#[.agg #[.string ByteArray.empty, .string ByteArray.empty, .string ByteArray.empty, .int .i64 0, .int .i64 0, .slice none 0 0]] : Array Value).toList 8 = some ([.agg [.lit (.string []), .lit (.string []), .lit (.string []), .lit (.int .i64 0), .lit (.int .i64 0), .nil]], [], places) :=
  ⟨[], by kernel_rfl⟩
set_option maxRecDepth 100000 in
theorem parseShown_lifted (os : Os) (started : os.Started) (H : Type) (enc : TypeId × Value → H) (F : Stop.Interp) :
    ReturnsInHanded {} Tryd.checked os 4 .any ((OpenSpec.ofChange Rows.parseShownSpec).preRow enc Tryd.prog Tryd.f4 Rows.parseShownRow.domain false Rows.parseShownRow.laid) (((OpenSpec.ofChange Rows.parseShownSpec).at F).post enc Tryd.prog Tryd.f4 false true false false) := by
  obtain ⟨places, hx⟩ := parseShown_reads os enc
  refine returnsInHanded_of_row (C := Tryd.checked) (s := OpenSpec.ofChange Rows.parseShownSpec) parseShown_own started (by kernel_rfl) Tryd.func4
    (witness_row_at (enc := enc) (C := Tryd.checked) false (laidWorld os) #[.agg #[.string ByteArray.empty, .string ByteArray.empty, .string ByteArray.empty, .int .i64 0, .int .i64 0, .slice none 0 0]] rfl (by kernel_rfl) (by kernel_rfl) (by kernel_rfl)
      (OpenSpec.preRow_of_cond 8 hx (by kernel_rfl) (fun k hk => by cases hk) (by kernel_rfl) (parseShown_met os))) ?_
  intro W base args ds gs before hval0 hW _ _ hsz0 hL _ _
  have hfact := signs_of_laid hL
  have hval : ∀ (j : Nat) t v, Tryd.f4.params[j]? = some t → args[j]? = some v → Value.okWide Tryd.prog W .any base t v := hval0
  have hW' := hW
  obtain ⟨p, q, hA0, hV, rfl, hfz, hnd⟩ := hW
  have hA : DataW.TrodAll enc Tryd.prog W 0 (fun _ => true) true Tryd.f4.params.toList args.toList ds p := hA0
  have hsz : (DataW.weightsEach Tryd.prog (Tryd.f4.params.toList ++ Rows.parseShownSpec.plain.varTypes Tryd.prog) (ds ++ gs)).all (· ≤ reachBytes) = true := hsz0
  rw [Tryd.params4] at hA hval hsz
  obtain ⟨v0, vs0, d0, ds0, p0, q0, hargs, rfl, rfl, h0, r0⟩ := trodAll_cons hA
  obtain ⟨rfl, rfl, rfl⟩ := trodAll_nil r0
  obtain rfl : args = #[v0] := by cases args; simp_all
  obtain ⟨rfl, rfl⟩ := trodVars_none hV
  have lt0 : ∀ x ∈ p0, x.block < W.heap.size := by obtain ⟨m, hm⟩ := h0; exact DataW.trod_lt m _ _ _ hm
  have o0 := open_nd (hval 0 24 v0 rfl rfl) h0 (Em.sized_arg hsz 0 rfl rfl)
  clear hA0 hval0 hsz0 hsz
  refine (walk_parseShown W v0 o0 hfact).mono fun e W' ⟨he, bel⟩ => ?_
  subst he
  exact ⟨_, rfl, _, _, _, [], _, [], hW', trodAll_mk1 (shut_bool Tryd.underlying4 _), (trodAll_cons_mk (Below.trod parseShown_laidOut (by kernel_rfl) (of_decide_eq_true (by kernel_rfl)) h0 bel lt0) trodAll_mk0), rfl, bel.frame _, fun h => by cases h⟩
theorem parseShown_said : Rows.ParseShownSaid :=
  OpenClaim.holds_of_cond 4 Tryd.f4 rfl rfl rfl rfl rfl rfl rfl ⟨rfl, rfl, rfl, rfl, rfl⟩ rfl rfl rfl rfl rfl (by kernel_rfl) Tryd.func4 (by kernel_rfl)
    (of_decide_eq_true (by kernel_rfl)) (by unfold Func.isWrapper; first | (rw [if_pos (by decide +kernel)]; kernel_rfl) | (rw [if_neg (by decide +kernel)]; exact ⟨rfl, rfl⟩))
    (fun os started H enc _ F => by rw [OpenClaim.pre_eq_preRow]; exact parseShown_lifted os started H enc F)
theorem parseShown_plain (f : FuncId) (fn : Func) (hf : Tryd.pinned.checked.prog.funcNamed "emissary/emissarylaw6.ParseShown" = some f) (hfn : Tryd.pinned.checked.prog.funcs[f]? = some fn) :
    false = Tryd.pinned.checked.prog.looks [] ∧ ∀ (j : Nat) t, fn.params[j]? = some t → Tryd.pinned.checked.prog.wantsStandIn t = false := by
  obtain rfl : f = 4 := Option.some.inj ((show Tryd.prog.funcNamed "emissary/emissarylaw6.ParseShown" = some 4 by kernel_rfl).symm.trans hf) |>.symm
  obtain rfl : fn = Tryd.f4 := (Option.some.inj (Tryd.func4.symm.trans hfn)).symm
  refine ⟨by kernel_rfl, fun j t ht => ?_⟩
  rw [Tryd.params4] at ht
  have hm : t ∈ ([24] : List Nat) := by simpa using Array.mem_of_getElem? ht
  have hall : (([24] : List Nat).all fun u => !Tryd.prog.wantsStandIn u) = true := by kernel_rfl
  exact (show Tryd.prog.wantsStandIn t = false by simpa using List.all_eq_true.1 hall t hm)
theorem parseShown_holds : Rows.ParseShownCardSaid :=
  Claim7.holds_tied_plain_at .later [] _ _ _ _ parseShown_said (fun _ h => by cases h) (by kernel_rfl) (fun _ h => by cases h) parseShown_row_tie rfl ⟨rfl, rfl⟩ (by kernel_rfl) rfl parseShown_plain (by kernel_rfl)
#print axioms parseShown_holds
end Go.Proofs.YtgojjknbingfpaaDoor

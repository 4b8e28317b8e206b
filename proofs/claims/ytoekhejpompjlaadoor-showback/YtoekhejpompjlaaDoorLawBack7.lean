/- ShowBack: an expression of at most 80 nodes that the program shows is parsed by the document as it was, if it is not too long, nor too deep. No condition but that the tables that the program reads hold what their initialisers lay, to which the card ties them. -/
import Derived.Test.YtoekhejpompjlaaDoorRows
import Derived.Test.YtoekhejpompjlaaDoorCards
import Derived.Test.YtoekhejpompjlaaDoorTie
import Derived.Test.YtoekhejpompjlaaDoorLexL7
import Derived.Test.YtoekhejpompjlaaDoorKnown7
import Derived.Test.YtoekhejpompjlaaDoorFrameX
import Derived.Deep.RegionHeld
namespace Go.Proofs.YtoekhejpompjlaaDoor
open Go.ChangeShapes Go.WideShapes Go.ChangeAt Go.RowKit Go.Em5 Go.Em6
set_option linter.unusedVariables false
set_option linter.unusedSimpArgs false

set_option maxRecDepth 100000 in
set_option maxHeartbeats 4000000 in
theorem walk_showBack (w : World) (v : Value) (hv : ∃ T, IsNd w T v) (hl : IsLaid w) :
    Calls Tryd.prog 4 #[v] w fun e w' => e = .returned (.bool true) ∧ Below w.heap.size w w' := by
  obtain ⟨T, hv⟩ := hv
  have HLA : Hid (∀ w', Below w.heap.size w w' → IsLaid w') := fun w' h => hl.below h
  have HV : Hid (∀ w', Below w.heap.size w w' → IsNd w' T v) := fun w' h => isNd_below h _ _ hv
  have HBY : Hid (Em7.Byt (Em7.text T)) := Em7.text_byt T v hv
  obtain ⟨op, nm, ar, n, p, l⟩ := T
  unfold IsNd at hv
  obtain ⟨a, cap, rfl, -⟩ := hv
  obtain ⟨W, hW⟩ : ∃ W, W = w.alloc (.cells #[.string (Em.str op), .string (Em.str nm), .string (Em.str ar), .int .i64 n, .int .i64 p, .slice a l.length cap] 24) := ⟨_, rfl⟩
  have hbW : Below w.heap.size w W := by rw [hW]; exact (Below.refl _ _).alloc (Nat.le_refl _) _
  have h6 : Six W w.heap.size (.string (Em.str op)) (.string (Em.str nm)) (.string (Em.str ar)) (.int .i64 n) (.int .i64 p) (.slice a l.length cap) := by rw [hW]; exact Six.made _ _ _ _ _ _ _ _
  have H6 : Hid (∀ w', Below W.heap.size W w' → Six w' w.heap.size (.string (Em.str op)) (.string (Em.str nm)) (.string (Em.str ar)) (.int .i64 n) (.int .i64 p) (.slice a l.length cap)) := fun w' h => h6.below h
  have HW : Hid (Below w.heap.size w W) := hbW
  have HWE : Hid (w.alloc (.cells #[.string (Em.str op), .string (Em.str nm), .string (Em.str ar), .int .i64 n, .int .i64 p, .slice a l.length cap] 24) = W) := hW.symm
  obtain ⟨T, hT⟩ : ∃ T, T = Nd.mk op nm ar n p l := ⟨_, rfl⟩
  rw [← hT] at HV HBY
  clear hW hbW h6 hl hT
  go_enter Tryd.func4, Tryd.ntmps4
  go_wp2_with fail
  rw [HWE.out]
  clear HWE
  refine (rSize_any _ _ _ (HV.out _ HW.out)).mono ?_
  rintro e w1 ⟨rfl, hb1⟩
  obtain ⟨z, hz⟩ : ∃ z : Nat, z = min T.size 2001 := ⟨_, rfl⟩
  have hz2 : z ≤ 2001 := by omega
  rw [← hz]
  have hbw1 : Below w.heap.size w w1 := HW.out.trans (hb1.mono HW.out.size)
  clear hz
  by_cases h80 : 80 < z
  · go_wp2_with fail
    go_ret
    exact ⟨rfl, hbw1⟩
  obtain ⟨g0, g1, g2, g3, g4, g5, -⟩ := H6.out _ hb1
  go_wp2_with fail
  refine (rIs_any _ _ _ (HV.out _ hbw1)).mono ?_
  rintro e w2 ⟨rfl, hb2⟩
  have hb2' : Below W.heap.size W w2 := hb1.trans (hb2.mono hb1.size)
  have hbw2 : Below w.heap.size w w2 := HW.out.trans (hb2'.mono HW.out.size)
  clear g0 g1 g2 g3 g4 g5 hb1 hbw1 hb2
  cases hi : isNd T with
  | false =>
    go_wp2_with fail
    go_ret
    exact ⟨rfl, hbw2⟩
  | true =>
    obtain ⟨hea, hes⟩ := isNd_each hi
    have HPT := Em7.parse_text hea
    have HLN : Hid ((Em7.text T).length ≤ 300000) := by have := Em7.text_len T hea; rw [Hid]; omega
    have HEA : Hid (each T = true ∧ T.size ≤ 2000) := ⟨hea, hes⟩
    have HPT : Hid _ := HPT
    have HSH : Hid (shown T = Em7.text T) := shown_is hi
    clear hi hea hes
    obtain ⟨g0, g1, g2, g3, g4, g5, -⟩ := H6.out _ hb2'
    go_wp2_with fail
    refine (ptext_any T _ _ (HV.out _ hbw2) (HLA.out _ hbw2)).mono ?_
    rintro e w3 ⟨rfl, hb3⟩
    rw [HSH.out]
    have hb3' : Below W.heap.size W w3 := hb2'.trans (hb3.mono hb2'.size)
    have hbw3 : Below w.heap.size w w3 := HW.out.trans (hb3'.mono HW.out.size)
    have HIS : Hid (Em.IsStr (Em.str (Em7.text T)) (Em7.text T)) := Em.isStr_str HBY.out
    have hsz : (Em.str (Em7.text T)).size ≤ 9223372036854775807 := by rw [HIS.out.size]; have := HLN.out; omega
    clear g0 g1 g2 g3 g4 g5 hb3 hb2' hbw2
    go_wp2_with fail
    refine (rparse_any _ (Em7.text T) _ HIS.out hsz).mono ?_
    rintro e w4 ⟨hgot4, hb4⟩
    have hb4' : Below W.heap.size W w4 := hb3'.trans (hb4.mono hb3'.size)
    have hbw4 : Below w.heap.size w w4 := HW.out.trans (hb4'.mono HW.out.size)
    clear hb4 hb3' hbw3
    rcases HPT.out with hp | ⟨q, hp⟩ | ⟨m, hp, hsm⟩
    · rw [hp] at hgot4
      simp only [Parsed] at hgot4
      subst hgot4
      unfold noNd
      clear hp
      have bz4 := hbw4.alloc hbw4.size (.cells #[.string ⟨#[]⟩, .string ⟨#[]⟩, .string ⟨#[]⟩, .int .i64 0, .int .i64 0, .slice none 0 0] 24)
      clear hb4' hbw4 HPT
      go_wp2_with fail
      refine (known7_any _ (HLA.out _ bz4)).mono ?_
      rintro e w6 ⟨rfl, hb6⟩
      have bz7 := bz4.trans (hb6.mono bz4.size)
      go_wp2_with fail
      go_ret
      exact ⟨rfl, bz7⟩
    · rw [hp] at hgot4
      simp only [Parsed] at hgot4
      subst hgot4
      unfold noNd
      clear hp
      have bz4 := hbw4.alloc hbw4.size (.cells #[.string ⟨#[]⟩, .string ⟨#[]⟩, .string ⟨#[]⟩, .int .i64 0, .int .i64 0, .slice none 0 0] 24)
      clear hb4' hbw4 HPT
      go_wp2_with fail
      refine (known7_any _ (HLA.out _ bz4)).mono ?_
      rintro e w6 ⟨rfl, hb6⟩
      have bz7 := bz4.trans (hb6.mono bz4.size)
      go_wp2_with fail
      go_ret
      exact ⟨rfl, bz7⟩
    · have HSM : Hid (same m T = true) := hsm
      rw [hp] at hgot4
      simp only [Parsed] at hgot4
      obtain ⟨v4, rfl, hn4⟩ := hgot4
      obtain ⟨x0, x1, x2, xm, xp, xa, xl, xc, rfl⟩ := ndb_shape hn4
      clear hp hsm HPT
      have zm := Six.made w4 (.string x0) (.string x1) (.string x2) (.int .i64 xm) (.int .i64 xp) (.slice xa xl xc) 24
      have bz4 := hbw4.alloc hbw4.size (.cells #[.string x0, .string x1, .string x2, .int .i64 xm, .int .i64 xp, .slice xa xl xc] 24)
      have bz4' := hb4'.alloc hb4'.size (.cells #[.string x0, .string x1, .string x2, .int .i64 xm, .int .i64 xp, .slice xa xl xc] 24)
      have dm := isNd_below ((Below.refl w4.heap.size w4).alloc (Nat.le_refl _) (.cells #[.string x0, .string x1, .string x2, .int .i64 xm, .int .i64 xp, .slice xa xl xc] 24)) _ _ (isNdP_is _ _ hn4)
      obtain ⟨g0, g1, g2, g3, g4, g5, -⟩ := H6.out _ bz4'
      obtain ⟨k0, k1, k2, k3, k4, k5, -⟩ := id zm
      obtain ⟨i0, i1, i2, i3, i4, i5, -⟩ := H6.out _ hb4'
      have hW4 := (H6.out _ hb4').lt
      clear hbw4 hb4' hn4
      go_wp2_with fail
      refine (rSame_any m T _ _ _ dm (HV.out _ bz4)).mono ?_
      rintro e w7 ⟨rfl, hb7⟩
      rw [HSM.out]
      have bz7 := bz4.trans (hb7.mono bz4.size)
      clear g0 g1 g2 g3 g4 g5 k0 k1 k2 k3 k4 k5 i0 i1 i2 i3 i4 i5 hb7 bz4 bz4' dm zm
      go_wp2_with fail
      refine (known7_any _ (HLA.out _ bz7)).mono ?_
      rintro e w9 ⟨rfl, hb9⟩
      have bz9 := bz7.trans (hb9.mono bz7.size)
      go_wp2_with fail
      go_ret
      exact ⟨rfl, bz9⟩

theorem showBack_own : ownKnob Tryd.prog.godebug = none := by kernel_rfl
theorem showBack_laidOut : laidOutB Tryd.prog = true := by kernel_rfl
theorem showBack_met (os : Os) : laidMet Tryd.prog Rows.showBackRow.laid ((laidWorld os).forCall (fun _ _ => 0) ⟨#[], #[.agg #[.string ByteArray.empty, .string ByteArray.empty, .string ByteArray.empty, .int .i64 0, .int .i64 0, .slice none 0 0]], []⟩).memory :=
  laidMet_of_run' 8 (by kernel_rfl) (by kernel_rfl)
theorem showBack_reads (os : Os) {H : Type} (enc : TypeId × Value → H) : ∃ places, DataW.whole enc Tryd.prog ((laidWorld os).forCall (fun _ _ => 0) ⟨#[], #[.agg #[.string ByteArray.empty, .string ByteArray.empty, .string ByteArray.empty, .int .i64 0, .int .i64 0, .slice none 0 0]], []⟩).memory Tryd.f4.params.toList Rows.showBackSpec.vars false (#[.agg #[.string ByteArray.empty, .string ByteArray.empty, .string ByteArray.empty, .int .i64 0, .int .i64 0, .slice none 0 0]] : Array Value).toList 8 = some ([.agg [.lit (.string []), .lit (.string []), .lit (.string []), .lit (.int .i64 0), .lit (.int .i64 0), .nil]], [], places) :=
  ⟨[], by kernel_rfl⟩
set_option maxRecDepth 100000 in
theorem showBack_lifted (os : Os) (started : os.Started) (H : Type) (enc : TypeId × Value → H) (F : Stop.Interp) :
    ReturnsInHanded {} Tryd.checked os 4 .any ((OpenSpec.ofChange Rows.showBackSpec).preRow enc Tryd.prog Tryd.f4 Rows.showBackRow.domain false Rows.showBackRow.laid) (((OpenSpec.ofChange Rows.showBackSpec).at F).post enc Tryd.prog Tryd.f4 false true false false) := by
  obtain ⟨places, hx⟩ := showBack_reads os enc
  refine returnsInHanded_of_row (C := Tryd.checked) (s := OpenSpec.ofChange Rows.showBackSpec) showBack_own started (by kernel_rfl) Tryd.func4
    (witness_row_at (enc := enc) (C := Tryd.checked) false (laidWorld os) #[.agg #[.string ByteArray.empty, .string ByteArray.empty, .string ByteArray.empty, .int .i64 0, .int .i64 0, .slice none 0 0]] rfl (by kernel_rfl) (by kernel_rfl) (by kernel_rfl)
      (OpenSpec.preRow_of_cond 8 hx (by kernel_rfl) (fun k hk => by cases hk) (by kernel_rfl) (showBack_met os))) ?_
  intro W base args ds gs before hval0 hW _ _ hsz0 hL _ _
  have hfact := laid_of_row hL
  have hval : ∀ (j : Nat) t v, Tryd.f4.params[j]? = some t → args[j]? = some v → Value.okWide Tryd.prog W .any base t v := hval0
  have hW' := hW
  obtain ⟨p, q, hA0, hV, rfl, hfz, hnd⟩ := hW
  have hA : DataW.TrodAll enc Tryd.prog W 0 (fun _ => true) true Tryd.f4.params.toList args.toList ds p := hA0
  have hsz : (DataW.weightsEach Tryd.prog (Tryd.f4.params.toList ++ Rows.showBackSpec.plain.varTypes Tryd.prog) (ds ++ gs)).all (· ≤ reachBytes) = true := hsz0
  rw [Tryd.params4] at hA hval hsz
  obtain ⟨v0, vs0, d0, ds0, p0, q0, hargs, rfl, rfl, h0, r0⟩ := trodAll_cons hA
  obtain ⟨rfl, rfl, rfl⟩ := trodAll_nil r0
  obtain rfl : args = #[v0] := by cases args; simp_all
  obtain ⟨rfl, rfl⟩ := trodVars_none hV
  have lt0 : ∀ x ∈ p0, x.block < W.heap.size := by obtain ⟨m, hm⟩ := h0; exact DataW.trod_lt m _ _ _ hm
  have o0 := open_nd (hval 0 24 v0 rfl rfl) h0 (Em.sized_arg hsz 0 rfl rfl)
  clear hA0 hval0 hsz0 hsz
  refine (walk_showBack W v0 o0 hfact).mono fun e W' ⟨he, bel⟩ => ?_
  subst he
  exact ⟨_, rfl, _, _, _, [], _, [], hW', trodAll_mk1 (shut_bool Tryd.underlying4 _), (trodAll_cons_mk (Below.trod showBack_laidOut (by kernel_rfl) (of_decide_eq_true (by kernel_rfl)) h0 bel lt0) trodAll_mk0), rfl, bel.frame _, fun h => by cases h⟩
theorem showBack_said : Rows.ShowBackSaid :=
  OpenClaim.holds_of_cond 4 Tryd.f4 rfl rfl rfl rfl rfl rfl rfl ⟨rfl, rfl, rfl, rfl, rfl⟩ rfl rfl rfl rfl rfl (by kernel_rfl) Tryd.func4 (by kernel_rfl)
    (of_decide_eq_true (by kernel_rfl)) (by unfold Func.isWrapper; first | (rw [if_pos (by decide +kernel)]; kernel_rfl) | (rw [if_neg (by decide +kernel)]; exact ⟨rfl, rfl⟩))
    (fun os started H enc _ F => by rw [OpenClaim.pre_eq_preRow]; exact showBack_lifted os started H enc F)
theorem showBack_plain (f : FuncId) (fn : Func) (hf : Tryd.pinned.checked.prog.funcNamed "emissary/emissarylaw7.ShowBack" = some f) (hfn : Tryd.pinned.checked.prog.funcs[f]? = some fn) :
    false = Tryd.pinned.checked.prog.looks [] ∧ ∀ (j : Nat) t, fn.params[j]? = some t → Tryd.pinned.checked.prog.wantsStandIn t = false := by
  obtain rfl : f = 4 := Option.some.inj ((show Tryd.prog.funcNamed "emissary/emissarylaw7.ShowBack" = some 4 by kernel_rfl).symm.trans hf) |>.symm
  obtain rfl : fn = Tryd.f4 := (Option.some.inj (Tryd.func4.symm.trans hfn)).symm
  refine ⟨by kernel_rfl, fun j t ht => ?_⟩
  rw [Tryd.params4] at ht
  have hm : t ∈ ([24] : List Nat) := by simpa using Array.mem_of_getElem? ht
  have hall : (([24] : List Nat).all fun u => !Tryd.prog.wantsStandIn u) = true := by kernel_rfl
  exact (show Tryd.prog.wantsStandIn t = false by simpa using List.all_eq_true.1 hall t hm)
theorem showBack_holds : Rows.ShowBackCardSaid :=
  Claim7.holds_tied_plain_at .later [] _ _ _ _ showBack_said (fun _ h => by cases h) (by kernel_rfl) (fun _ h => by cases h) showBack_row_tie rfl ⟨rfl, rfl⟩ (by kernel_rfl) rfl showBack_plain (by kernel_rfl)
#print axioms showBack_holds
end Go.Proofs.YtoekhejpompjlaaDoor

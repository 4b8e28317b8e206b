/- ParseOrder: what binds closer, by hand: each text is parsed as the document says, or is none. No condition but that lex.signs holds what its initialiser lays, to which the card ties it. -/
import Derived.Test.YtgojjknbingfpaaDoorRows
import Derived.Test.YtgojjknbingfpaaDoorCards
import Derived.Test.YtgojjknbingfpaaDoorTie
import Derived.Test.YtgojjknbingfpaaDoorLexLG
import Derived.Test.YtgojjknbingfpaaDoorKnG
import Derived.Test.YtgojjknbingfpaaDoorFrameX
import Derived.Test.YtgojjknbingfpaaDoorOrder6a
import Derived.Test.YtgojjknbingfpaaDoorOrder6b
import Derived.Test.YtgojjknbingfpaaDoorOrder6d
namespace Go.Proofs.YtgojjknbingfpaaDoor
open Go.ChangeShapes Go.WideShapes Go.ChangeAt Go.RowKit Go.Em5 Go.Em6
set_option linter.unusedVariables false
set_option linter.unusedSimpArgs false

set_option maxRecDepth 100000 in
set_option maxHeartbeats 4000000 in
theorem walk_parseOrder (w : World) (y : Value) (hy : ∃ n, y = .int .i64 n ∧ (Lit.int .i64 n).wf = true) (hg : IsSigns w) :
    Calls Tryd.prog 5 #[y] w fun e w' => e = .returned (.bool true) ∧ Below w.heap.size w w' := by
  obtain ⟨n, rfl, hn⟩ := hy
  clear hn
  have HB0 : Hid (Below w.heap.size w ((w.alloc (.cells #[.string ⟨#[49, 32, 43, 32, 50, 32, 42, 32, 51]⟩, .string ⟨#[49, 32, 45, 32, 50, 32, 45, 32, 51]⟩, .string ⟨#[49, 32, 58, 58, 32, 50, 32, 58, 58, 32, 91, 93]⟩, .string ⟨#[102, 32, 120, 32, 43, 32, 103, 32, 121]⟩, .string ⟨#[33, 114, 32, 43, 32, 49]⟩, .string ⟨#[97, 32, 58, 61, 32, 49, 32, 43, 32, 50, 59, 32, 98]⟩, .string ⟨#[102, 115, 116, 32, 102, 32, 120]⟩, .string ⟨#[120, 32, 61, 32, 49, 32, 58, 58, 32, 91, 93]⟩, .string ⟨#[108, 101, 116, 32, 120, 32, 61, 32, 49, 32, 105, 110, 32, 120, 59, 32, 50]⟩, .string ⟨#[105, 102, 32, 97, 32, 116, 104, 101, 110, 32, 98, 32, 101, 108, 115, 101, 32, 99, 59, 32, 100]⟩, .string ⟨#[45, 32, 49]⟩, .string ⟨#[102, 117, 110, 32, 120, 32, 45, 62, 32, 120, 32, 121]⟩, .string ⟨#[97, 32, 59, 32, 98, 32, 59, 32, 99]⟩, .string ⟨#[49, 32, 60, 32, 50, 32, 60, 32, 51]⟩] 9)).alloc (.cells #[.string ⟨#[40, 49, 32, 43, 32, 40, 50, 32, 42, 32, 51, 41, 41]⟩, .string ⟨#[40, 40, 49, 32, 45, 32, 50, 41, 32, 45, 32, 51, 41]⟩, .string ⟨#[40, 49, 32, 58, 58, 32, 40, 50, 32, 58, 58, 32, 91, 93, 41, 41]⟩, .string ⟨#[40, 40, 102, 32, 120, 41, 32, 43, 32, 40, 103, 32, 121, 41, 41]⟩, .string ⟨#[40, 33, 114, 32, 43, 32, 49, 41]⟩, .string ⟨#[40, 40, 97, 32, 58, 61, 32, 40, 49, 32, 43, 32, 50, 41, 41, 59, 32, 98, 41]⟩, .string ⟨#[]⟩, .string ⟨#[40, 120, 32, 61, 32, 40, 49, 32, 58, 58, 32, 91, 93, 41, 41]⟩, .string ⟨#[40, 108, 101, 116, 32, 120, 32, 61, 32, 49, 32, 105, 110, 32, 40, 120, 59, 32, 50, 41, 41]⟩, .string ⟨#[40, 105, 102, 32, 97, 32, 116, 104, 101, 110, 32, 98, 32, 101, 108, 115, 101, 32, 40, 99, 59, 32, 100, 41, 41]⟩, .string ⟨#[]⟩, .string ⟨#[40, 102, 117, 110, 32, 120, 32, 45, 62, 32, 40, 120, 32, 121, 41, 41]⟩, .string ⟨#[40, 97, 59, 32, 40, 98, 59, 32, 99, 41, 41]⟩, .string ⟨#[]⟩] 9))) := ((Below.refl _ _).alloc (Nat.le_refl _) _).alloc (by simp) _
  by_cases h0 : n < 0
  · go_enter Tryd.func5, Tryd.ntmps5
    go_wp2_with fail
    go_ret
    exact ⟨rfl, HB0.out⟩
  by_cases h9 : 14 ≤ n
  · go_enter Tryd.func5, Tryd.ntmps5
    go_wp2_with fail
    go_ret
    exact ⟨rfl, HB0.out⟩
  obtain rfl | rfl | rfl | rfl | rfl | rfl | rfl | rfl | rfl | rfl | rfl | rfl | rfl | rfl : n = 0 ∨ n = 1 ∨ n = 2 ∨ n = 3 ∨ n = 4 ∨ n = 5 ∨ n = 6 ∨ n = 7 ∨ n = 8 ∨ n = 9 ∨ n = 10 ∨ n = 11 ∨ n = 12 ∨ n = 13 := by omega
  · exact ord0 w hg
  · exact ord1 w hg
  · exact ord2 w hg
  · exact ord3 w hg
  · exact ord4 w hg
  · exact ord5 w hg
  · exact ord6 w hg
  · exact ord7 w hg
  · exact ord8 w hg
  · exact ord9 w hg
  · exact ord10 w hg
  · exact ord11 w hg
  · exact ord12 w hg
  · exact ord13 w hg

theorem parseOrder_own : ownKnob Tryd.prog.godebug = none := by kernel_rfl
theorem parseOrder_laidOut : laidOutB Tryd.prog = true := by kernel_rfl
theorem parseOrder_met (os : Os) : laidMet Tryd.prog Rows.parseOrderRow.laid ((laidWorld os).forCall (fun _ _ => 0) ⟨#[], #[.int .i64 0], []⟩).memory :=
  laidMet_of_run' 8 (by kernel_rfl) (by kernel_rfl)
theorem parseOrder_reads (os : Os) {H : Type} (enc : TypeId × Value → H) : ∃ places, DataW.whole enc Tryd.prog ((laidWorld os).forCall (fun _ _ => 0) ⟨#[], #[.int .i64 0], []⟩).memory Tryd.f5.params.toList Rows.parseOrderSpec.vars false (#[.int .i64 0] : Array Value).toList 8 = some ([.lit (.int .i64 0)], [], places) :=
  ⟨[], by kernel_rfl⟩
set_option maxRecDepth 100000 in
theorem parseOrder_lifted (os : Os) (started : os.Started) (H : Type) (enc : TypeId × Value → H) (F : Stop.Interp) :
    ReturnsInHanded {} Tryd.checked os 5 .any ((OpenSpec.ofChange Rows.parseOrderSpec).preRow enc Tryd.prog Tryd.f5 Rows.parseOrderRow.domain false Rows.parseOrderRow.laid) (((OpenSpec.ofChange Rows.parseOrderSpec).at F).post enc Tryd.prog Tryd.f5 false true false false) := by
  obtain ⟨places, hx⟩ := parseOrder_reads os enc
  refine returnsInHanded_of_row (C := Tryd.checked) (s := OpenSpec.ofChange Rows.parseOrderSpec) parseOrder_own started (by kernel_rfl) Tryd.func5
    (witness_row_at (enc := enc) (C := Tryd.checked) false (laidWorld os) #[.int .i64 0] rfl (by kernel_rfl) (by kernel_rfl) (by kernel_rfl)
      (OpenSpec.preRow_of_cond 8 hx (by kernel_rfl) (fun k hk => by cases hk) (by kernel_rfl) (parseOrder_met os))) ?_
  intro W base args ds gs before hval0 hW _ _ hsz0 hL _ _
  have hfact := signs_of_laid hL
  have hval : ∀ (j : Nat) t v, Tryd.f5.params[j]? = some t → args[j]? = some v → Value.okWide Tryd.prog W .any base t v := hval0
  have hW' := hW
  obtain ⟨p, q, hA0, hV, rfl, hfz, hnd⟩ := hW
  have hA : DataW.TrodAll enc Tryd.prog W 0 (fun _ => true) true Tryd.f5.params.toList args.toList ds p := hA0
  have hsz : (DataW.weightsEach Tryd.prog (Tryd.f5.params.toList ++ Rows.parseOrderSpec.plain.varTypes Tryd.prog) (ds ++ gs)).all (· ≤ reachBytes) = true := hsz0
  rw [Tryd.params5] at hA hval hsz
  obtain ⟨v0, vs0, d0, ds0, p0, q0, hargs, rfl, rfl, h0, r0⟩ := trodAll_cons hA
  obtain ⟨rfl, rfl, rfl⟩ := trodAll_nil r0
  obtain rfl : args = #[v0] := by cases args; simp_all
  obtain ⟨rfl, rfl⟩ := trodVars_none hV
  have lt0 : ∀ x ∈ p0, x.block < W.heap.size := by obtain ⟨m, hm⟩ := h0; exact DataW.trod_lt m _ _ _ hm
  have o0 := Em.open_int Tryd.underlying3 (hval 0 3 v0 rfl rfl) h0
  clear hA0 hval0 hsz0 hsz
  refine (walk_parseOrder W v0 o0 hfact).mono fun e W' ⟨he, bel⟩ => ?_
  subst he
  exact ⟨_, rfl, _, _, _, [], _, [], hW', trodAll_mk1 (shut_bool Tryd.underlying4 _), (trodAll_cons_mk (Below.trod parseOrder_laidOut (by kernel_rfl) (of_decide_eq_true (by kernel_rfl)) h0 bel lt0) trodAll_mk0), rfl, bel.frame _, fun h => by cases h⟩
theorem parseOrder_said : Rows.ParseOrderSaid :=
  OpenClaim.holds_of_cond 5 Tryd.f5 rfl rfl rfl rfl rfl rfl rfl ⟨rfl, rfl, rfl, rfl, rfl⟩ rfl rfl rfl rfl rfl (by kernel_rfl) Tryd.func5 (by kernel_rfl)
    (of_decide_eq_true (by kernel_rfl)) (by unfold Func.isWrapper; first | (rw [if_pos (by decide +kernel)]; kernel_rfl) | (rw [if_neg (by decide +kernel)]; exact ⟨rfl, rfl⟩))
    (fun os started H enc _ F => by rw [OpenClaim.pre_eq_preRow]; exact parseOrder_lifted os started H enc F)
theorem parseOrder_plain (f : FuncId) (fn : Func) (hf : Tryd.pinned.checked.prog.funcNamed "emissary/emissarylaw6.ParseOrder" = some f) (hfn : Tryd.pinned.checked.prog.funcs[f]? = some fn) :
    false = Tryd.pinned.checked.prog.looks [] ∧ ∀ (j : Nat) t, fn.params[j]? = some t → Tryd.pinned.checked.prog.wantsStandIn t = false := by
  obtain rfl : f = 5 := Option.some.inj ((show Tryd.prog.funcNamed "emissary/emissarylaw6.ParseOrder" = some 5 by kernel_rfl).symm.trans hf) |>.symm
  obtain rfl : fn = Tryd.f5 := (Option.some.inj (Tryd.func5.symm.trans hfn)).symm
  refine ⟨by kernel_rfl, fun j t ht => ?_⟩
  rw [Tryd.params5] at ht
  have hm : t ∈ ([3] : List Nat) := by simpa using Array.mem_of_getElem? ht
  have hall : (([3] : List Nat).all fun u => !Tryd.prog.wantsStandIn u) = true := by kernel_rfl
  exact (show Tryd.prog.wantsStandIn t = false by simpa using List.all_eq_true.1 hall t hm)
theorem parseOrder_holds : Rows.ParseOrderCardSaid :=
  Claim7.holds_tied_plain_at .later [] _ _ _ _ parseOrder_said (fun _ h => by cases h) (by kernel_rfl) (fun _ h => by cases h) parseOrder_row_tie rfl ⟨rfl, rfl⟩ (by kernel_rfl) rfl parseOrder_plain (by kernel_rfl)
#print axioms parseOrder_holds
end Go.Proofs.YtgojjknbingfpaaDoor

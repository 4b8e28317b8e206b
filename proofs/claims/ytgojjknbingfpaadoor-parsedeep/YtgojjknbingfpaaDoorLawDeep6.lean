/- ParseDeep: so deep a text may be, no deeper: by parentheses, by !, by fun. No condition but that lex.signs holds what its initialiser lays, to which the card ties it. -/
import Derived.Test.YtgojjknbingfpaaDoorRows
import Derived.Test.YtgojjknbingfpaaDoorCards
import Derived.Test.YtgojjknbingfpaaDoorTie
import Derived.Test.YtgojjknbingfpaaDoorLexL
import Derived.Test.YtgojjknbingfpaaDoorKnown6
import Derived.Test.YtgojjknbingfpaaDoorFrameX
import Derived.Test.YtgojjknbingfpaaDoorMath6d
import Derived.Test.YtgojjknbingfpaaDoorPureA
namespace Go.Proofs.YtgojjknbingfpaaDoor
open Go.ChangeShapes Go.WideShapes Go.ChangeAt Go.RowKit Go.Em5 Go.Em6
set_option linter.unusedVariables false
set_option linter.unusedSimpArgs false

set_option maxRecDepth 100000 in
set_option maxHeartbeats 4000000 in
theorem walk_deep0 (w : World) (n : Nat) (h60 : n ≤ 60) (hg : IsSigns w) :
    Calls Tryd.prog 6 #[.int .i64 n, .int .i64 0] w fun e w' => e = .returned (.bool true) ∧ Below w.heap.size w w' := by
  have HG : Hid (IsSigns w) := hg
  have HT : Hid (deepOk 0 n = true) := deep_ok0 n (by omega)
  clear hg
  go_enter Tryd.func6, Tryd.ntmps6
  go_wp2_with fail
  go_loopw [5, 6] (fun a i wr => ∃ (k : Nat) (x : ByteArray), k ≤ n ∧ i = .int .i64 k ∧ a = .string x ∧ Hid (Em.IsStr x (deepT 0 k)) ∧ Below w.heap.size w wr) (fun _ i _ => n - (intOf i).toNat)
  case atStart => exact ⟨0, _, Nat.zero_le _, rfl, rfl, ⟨rfl, by decide⟩, Below.refl _ _⟩
  case round =>
    obtain ⟨k, x, hk, rfl, rfl, HX, hbel⟩ := hrel
    have hdl := deep_len 0 k
    have hxs : x.size ≤ 1 + 9 * k := by rw [HX.out.size]; exact hdl
    clear hdl
    by_cases hlt : k < n
    · have HX2 : Hid (Em.IsStr ((⟨#[40]⟩ : ByteArray) ++ x ++ (⟨#[41]⟩ : ByteArray)) (deepT 0 (k + 1))) := isStr_app (isStr_app ⟨rfl, by decide⟩ HX.out) ⟨rfl, by decide⟩
      have hs0 : ¬ 9223372036854775807 < 1 + x.size := by omega
      have hs1 : ¬ 9223372036854775807 < 1 + x.size + 1 := by omega
      clear HX
      go_wp2_with fail
      go_roundw
      case rel => exact ⟨k + 1, _, by omega, by go_num, rfl, HX2, hbel⟩
      case measure => simp [intOf]; omega
    · obtain rfl : k = n := by omega
      clear hlt hk
      go_wp2_with fail
      refine (qparse_any _ _ _ HX.out (by omega) (HG.out.below hbel HG.out.lt)).mono ?_
      rintro e w1 ⟨hgot, hb1⟩
      have bel1 := hbel.trans (hb1.mono hbel.size)
      clear hb1 hbel HX
      cases hp : Em6.parse (deepT 0 k) with
      | error ca =>
        obtain ⟨c, a⟩ := ca
        rw [hp] at hgot
        have hT := HT.out
        unfold deepOk at hT
        rw [hp] at hT
        simp only [codeOf, beq_iff_eq] at hT
        simp only [Parsed] at hgot
        subst hgot
        unfold noNd
        clear HT hp
        have bel2 := bel1.alloc bel1.size (.cells #[.string ⟨#[]⟩, .string ⟨#[]⟩, .string ⟨#[]⟩, .int .i64 0, .int .i64 0, .slice none 0 0] 24)
        by_cases h40 : 40 ≤ k
        · rw [if_pos h40] at hT
          subst hT
          go_wp2_with fail
          refine (known6_any _ (HG.out.below bel2 HG.out.lt)).mono ?_
          rintro e w2 ⟨rfl, hb2⟩
          have bel3 := bel2.trans (hb2.mono bel2.size)
          go_wp2_with fail
          go_ret
          exact ⟨rfl, bel3⟩
        · rw [if_neg h40] at hT
          subst hT
          go_wp2_with fail
          refine (known6_any _ (HG.out.below bel2 HG.out.lt)).mono ?_
          rintro e w2 ⟨rfl, hb2⟩
          have bel3 := bel2.trans (hb2.mono bel2.size)
          go_wp2_with fail
          go_ret
          exact ⟨rfl, bel3⟩
      | ok m =>
        rw [hp] at hgot
        have hT := HT.out
        unfold deepOk at hT
        rw [hp] at hT
        simp only [codeOf, beq_iff_eq] at hT
        obtain ⟨v1, rfl, hn1⟩ := hgot
        obtain ⟨x0, x1, x2, xm, xp, xa, xl, xc, rfl⟩ := ndb_shape hn1
        have bel2 := bel1.alloc bel1.size (.cells #[.string x0, .string x1, .string x2, .int .i64 xm, .int .i64 xp, .slice xa xl xc] 24)
        clear HT hp hn1
        by_cases h40 : 40 ≤ k
        · rw [if_pos h40] at hT
          cases hT
        · clear hT
          go_wp2_with fail
          refine (known6_any _ (HG.out.below bel2 HG.out.lt)).mono ?_
          rintro e w2 ⟨rfl, hb2⟩
          have bel3 := bel2.trans (hb2.mono bel2.size)
          go_wp2_with fail
          go_ret
          exact ⟨rfl, bel3⟩
set_option maxRecDepth 100000 in
set_option maxHeartbeats 4000000 in
theorem walk_deep1 (w : World) (n : Nat) (h60 : n ≤ 60) (hg : IsSigns w) :
    Calls Tryd.prog 6 #[.int .i64 n, .int .i64 1] w fun e w' => e = .returned (.bool true) ∧ Below w.heap.size w w' := by
  have HG : Hid (IsSigns w) := hg
  have HT : Hid (deepOk 1 n = true) := deep_ok1 n (by omega)
  clear hg
  go_enter Tryd.func6, Tryd.ntmps6
  go_wp2_with fail
  go_loopw [5, 6] (fun a i wr => ∃ (k : Nat) (x : ByteArray), k ≤ n ∧ i = .int .i64 k ∧ a = .string x ∧ Hid (Em.IsStr x (deepT 1 k)) ∧ Below w.heap.size w wr) (fun _ i _ => n - (intOf i).toNat)
  case atStart => exact ⟨0, _, Nat.zero_le _, rfl, rfl, ⟨rfl, by decide⟩, Below.refl _ _⟩
  case round =>
    obtain ⟨k, x, hk, rfl, rfl, HX, hbel⟩ := hrel
    have hdl := deep_len 1 k
    have hxs : x.size ≤ 1 + 9 * k := by rw [HX.out.size]; exact hdl
    clear hdl
    by_cases hlt : k < n
    · have HX2 : Hid (Em.IsStr ((⟨#[33]⟩ : ByteArray) ++ x) (deepT 1 (k + 1))) := isStr_app ⟨rfl, by decide⟩ HX.out
      have hs0 : ¬ 9223372036854775807 < 1 + x.size := by omega
      clear HX
      go_wp2_with fail
      go_roundw
      case rel => exact ⟨k + 1, _, by omega, by go_num, rfl, HX2, hbel⟩
      case measure => simp [intOf]; omega
    · obtain rfl : k = n := by omega
      clear hlt hk
      go_wp2_with fail
      refine (qparse_any _ _ _ HX.out (by omega) (HG.out.below hbel HG.out.lt)).mono ?_
      rintro e w1 ⟨hgot, hb1⟩
      have bel1 := hbel.trans (hb1.mono hbel.size)
      clear hb1 hbel HX
      cases hp : Em6.parse (deepT 1 k) with
      | error ca =>
        obtain ⟨c, a⟩ := ca
        rw [hp] at hgot
        have hT := HT.out
        unfold deepOk at hT
        rw [hp] at hT
        simp only [codeOf, beq_iff_eq] at hT
        simp only [Parsed] at hgot
        subst hgot
        unfold noNd
        clear HT hp
        have bel2 := bel1.alloc bel1.size (.cells #[.string ⟨#[]⟩, .string ⟨#[]⟩, .string ⟨#[]⟩, .int .i64 0, .int .i64 0, .slice none 0 0] 24)
        by_cases h40 : 40 ≤ k
        · rw [if_pos h40] at hT
          subst hT
          go_wp2_with fail
          refine (known6_any _ (HG.out.below bel2 HG.out.lt)).mono ?_
          rintro e w2 ⟨rfl, hb2⟩
          have bel3 := bel2.trans (hb2.mono bel2.size)
          go_wp2_with fail
          go_ret
          exact ⟨rfl, bel3⟩
        · rw [if_neg h40] at hT
          subst hT
          go_wp2_with fail
          refine (known6_any _ (HG.out.below bel2 HG.out.lt)).mono ?_
          rintro e w2 ⟨rfl, hb2⟩
          have bel3 := bel2.trans (hb2.mono bel2.size)
          go_wp2_with fail
          go_ret
          exact ⟨rfl, bel3⟩
      | ok m =>
        rw [hp] at hgot
        have hT := HT.out
        unfold deepOk at hT
        rw [hp] at hT
        simp only [codeOf, beq_iff_eq] at hT
        obtain ⟨v1, rfl, hn1⟩ := hgot
        obtain ⟨x0, x1, x2, xm, xp, xa, xl, xc, rfl⟩ := ndb_shape hn1
        have bel2 := bel1.alloc bel1.size (.cells #[.string x0, .string x1, .string x2, .int .i64 xm, .int .i64 xp, .slice xa xl xc] 24)
        clear HT hp hn1
        by_cases h40 : 40 ≤ k
        · rw [if_pos h40] at hT
          cases hT
        · clear hT
          go_wp2_with fail
          refine (known6_any _ (HG.out.below bel2 HG.out.lt)).mono ?_
          rintro e w2 ⟨rfl, hb2⟩
          have bel3 := bel2.trans (hb2.mono bel2.size)
          go_wp2_with fail
          go_ret
          exact ⟨rfl, bel3⟩
set_option maxRecDepth 100000 in
set_option maxHeartbeats 4000000 in
theorem walk_deep2 (w : World) (n : Nat) (h60 : n ≤ 60) (hg : IsSigns w) :
    Calls Tryd.prog 6 #[.int .i64 n, .int .i64 2] w fun e w' => e = .returned (.bool true) ∧ Below w.heap.size w w' := by
  have HG : Hid (IsSigns w) := hg
  have HT : Hid (deepOk 2 n = true) := deep_ok2 n (by omega)
  clear hg
  go_enter Tryd.func6, Tryd.ntmps6
  go_wp2_with fail
  go_loopw [5, 6] (fun a i wr => ∃ (k : Nat) (x : ByteArray), k ≤ n ∧ i = .int .i64 k ∧ a = .string x ∧ Hid (Em.IsStr x (deepT 2 k)) ∧ Below w.heap.size w wr) (fun _ i _ => n - (intOf i).toNat)
  case atStart => exact ⟨0, _, Nat.zero_le _, rfl, rfl, ⟨rfl, by decide⟩, Below.refl _ _⟩
  case round =>
    obtain ⟨k, x, hk, rfl, rfl, HX, hbel⟩ := hrel
    have hdl := deep_len 2 k
    have hxs : x.size ≤ 1 + 9 * k := by rw [HX.out.size]; exact hdl
    clear hdl
    by_cases hlt : k < n
    · have HX2 : Hid (Em.IsStr ((⟨#[102, 117, 110, 32, 120, 32, 45, 62, 32]⟩ : ByteArray) ++ x) (deepT 2 (k + 1))) := isStr_app ⟨rfl, by decide⟩ HX.out
      have hs0 : ¬ 9223372036854775807 < 9 + x.size := by omega
      clear HX
      go_wp2_with fail
      go_roundw
      case rel => exact ⟨k + 1, _, by omega, by go_num, rfl, HX2, hbel⟩
      case measure => simp [intOf]; omega
    · obtain rfl : k = n := by omega
      clear hlt hk
      go_wp2_with fail
      refine (qparse_any _ _ _ HX.out (by omega) (HG.out.below hbel HG.out.lt)).mono ?_
      rintro e w1 ⟨hgot, hb1⟩
      have bel1 := hbel.trans (hb1.mono hbel.size)
      clear hb1 hbel HX
      cases hp : Em6.parse (deepT 2 k) with
      | error ca =>
        obtain ⟨c, a⟩ := ca
        rw [hp] at hgot
        have hT := HT.out
        unfold deepOk at hT
        rw [hp] at hT
        simp only [codeOf, beq_iff_eq] at hT
        simp only [Parsed] at hgot
        subst hgot
        unfold noNd
        clear HT hp
        have bel2 := bel1.alloc bel1.size (.cells #[.string ⟨#[]⟩, .string ⟨#[]⟩, .string ⟨#[]⟩, .int .i64 0, .int .i64 0, .slice none 0 0] 24)
        by_cases h40 : 40 ≤ k
        · rw [if_pos h40] at hT
          subst hT
          go_wp2_with fail
          refine (known6_any _ (HG.out.below bel2 HG.out.lt)).mono ?_
          rintro e w2 ⟨rfl, hb2⟩
          have bel3 := bel2.trans (hb2.mono bel2.size)
          go_wp2_with fail
          go_ret
          exact ⟨rfl, bel3⟩
        · rw [if_neg h40] at hT
          subst hT
          go_wp2_with fail
          refine (known6_any _ (HG.out.below bel2 HG.out.lt)).mono ?_
          rintro e w2 ⟨rfl, hb2⟩
          have bel3 := bel2.trans (hb2.mono bel2.size)
          go_wp2_with fail
          go_ret
          exact ⟨rfl, bel3⟩
      | ok m =>
        rw [hp] at hgot
        have hT := HT.out
        unfold deepOk at hT
        rw [hp] at hT
        simp only [codeOf, beq_iff_eq] at hT
        obtain ⟨v1, rfl, hn1⟩ := hgot
        obtain ⟨x0, x1, x2, xm, xp, xa, xl, xc, rfl⟩ := ndb_shape hn1
        have bel2 := bel1.alloc bel1.size (.cells #[.string x0, .string x1, .string x2, .int .i64 xm, .int .i64 xp, .slice xa xl xc] 24)
        clear HT hp hn1
        by_cases h40 : 40 ≤ k
        · rw [if_pos h40] at hT
          cases hT
        · clear hT
          go_wp2_with fail
          refine (known6_any _ (HG.out.below bel2 HG.out.lt)).mono ?_
          rintro e w2 ⟨rfl, hb2⟩
          have bel3 := bel2.trans (hb2.mono bel2.size)
          go_wp2_with fail
          go_ret
          exact ⟨rfl, bel3⟩
set_option maxRecDepth 100000 in
set_option maxHeartbeats 4000000 in
theorem walk_parseDeep (w : World) (y z : Value) (hy : ∃ n, y = .int .i64 n ∧ (Lit.int .i64 n).wf = true) (hz : ∃ n, z = .int .i64 n ∧ (Lit.int .i64 n).wf = true) (hg : IsSigns w) :
    Calls Tryd.prog 6 #[y, z] w fun e w' => e = .returned (.bool true) ∧ Below w.heap.size w w' := by
  obtain ⟨n, rfl, hn⟩ := hy
  obtain ⟨q, rfl, hq⟩ := hz
  clear hn hq
  by_cases h1 : n < 0
  · go_enter Tryd.func6, Tryd.ntmps6
    go_wp2_with fail
    go_ret
    exact ⟨rfl, Below.refl _ _⟩
  by_cases h2 : 60 < n
  · go_enter Tryd.func6, Tryd.ntmps6
    go_wp2_with fail
    go_ret
    exact ⟨rfl, Below.refl _ _⟩
  by_cases h3 : q < 0
  · go_enter Tryd.func6, Tryd.ntmps6
    go_wp2_with fail
    go_ret
    exact ⟨rfl, Below.refl _ _⟩
  by_cases h4 : 2 < q
  · go_enter Tryd.func6, Tryd.ntmps6
    go_wp2_with fail
    go_ret
    exact ⟨rfl, Below.refl _ _⟩
  obtain ⟨k, rfl⟩ : ∃ k : Nat, n = k := ⟨n.toNat, by omega⟩
  obtain rfl | rfl | rfl : q = 0 ∨ q = 1 ∨ q = 2 := by omega
  · exact walk_deep0 w k (by omega) hg
  · exact walk_deep1 w k (by omega) hg
  · exact walk_deep2 w k (by omega) hg

theorem parseDeep_own : ownKnob Tryd.prog.godebug = none := by kernel_rfl
theorem parseDeep_laidOut : laidOutB Tryd.prog = true := by kernel_rfl
theorem parseDeep_met (os : Os) : laidMet Tryd.prog Rows.parseDeepRow.laid ((laidWorld os).forCall (fun _ _ => 0) ⟨#[], #[.int .i64 0, .int .i64 0], []⟩).memory :=
  laidMet_of_run' 8 (by kernel_rfl) (by kernel_rfl)
theorem parseDeep_reads (os : Os) {H : Type} (enc : TypeId × Value → H) : ∃ places, DataW.whole enc Tryd.prog ((laidWorld os).forCall (fun _ _ => 0) ⟨#[], #[.int .i64 0, .int .i64 0], []⟩).memory Tryd.f6.params.toList Rows.parseDeepSpec.vars false (#[.int .i64 0, .int .i64 0] : Array Value).toList 8 = some ([.lit (.int .i64 0), .lit (.int .i64 0)], [], places) :=
  ⟨[], by kernel_rfl⟩
set_option maxRecDepth 100000 in
theorem parseDeep_lifted (os : Os) (started : os.Started) (H : Type) (enc : TypeId × Value → H) (F : Stop.Interp) :
    ReturnsInHanded {} Tryd.checked os 6 .any ((OpenSpec.ofChange Rows.parseDeepSpec).preRow enc Tryd.prog Tryd.f6 Rows.parseDeepRow.domain false Rows.parseDeepRow.laid) (((OpenSpec.ofChange Rows.parseDeepSpec).at F).post enc Tryd.prog Tryd.f6 false true false false) := by
  obtain ⟨places, hx⟩ := parseDeep_reads os enc
  refine returnsInHanded_of_row (C := Tryd.checked) (s := OpenSpec.ofChange Rows.parseDeepSpec) parseDeep_own started (by kernel_rfl) Tryd.func6
    (witness_row_at (enc := enc) (C := Tryd.checked) false (laidWorld os) #[.int .i64 0, .int .i64 0] rfl (by kernel_rfl) (by kernel_rfl) (by kernel_rfl)
      (OpenSpec.preRow_of_cond 8 hx (by kernel_rfl) (fun k hk => by cases hk) (by kernel_rfl) (parseDeep_met os))) ?_
  intro W base args ds gs before hval0 hW _ _ hsz0 hL _ _
  have hfact := signs_of_laid hL
  have hval : ∀ (j : Nat) t v, Tryd.f6.params[j]? = some t → args[j]? = some v → Value.okWide Tryd.prog W .any base t v := hval0
  have hW' := hW
  obtain ⟨p, q, hA0, hV, rfl, hfz, hnd⟩ := hW
  have hA : DataW.TrodAll enc Tryd.prog W 0 (fun _ => true) true Tryd.f6.params.toList args.toList ds p := hA0
  have hsz : (DataW.weightsEach Tryd.prog (Tryd.f6.params.toList ++ Rows.parseDeepSpec.plain.varTypes Tryd.prog) (ds ++ gs)).all (· ≤ reachBytes) = true := hsz0
  rw [Tryd.params6] at hA hval hsz
  obtain ⟨v0, vs0, d0, ds0, p0, q0, hargs, rfl, rfl, h0, r0⟩ := trodAll_cons hA
  obtain ⟨v1, vs1, d1, ds1, p1, q1, rfl, rfl, rfl, h1, r1⟩ := trodAll_cons r0
  obtain ⟨rfl, rfl, rfl⟩ := trodAll_nil r1
  obtain rfl : args = #[v0, v1] := by cases args; simp_all
  obtain ⟨rfl, rfl⟩ := trodVars_none hV
  have lt0 : ∀ x ∈ p0, x.block < W.heap.size := by obtain ⟨m, hm⟩ := h0; exact DataW.trod_lt m _ _ _ hm
  have o0 := Em.open_int Tryd.underlying3 (hval 0 3 v0 rfl rfl) h0
  have lt1 : ∀ x ∈ p1, x.block < W.heap.size := by obtain ⟨m, hm⟩ := h1; exact DataW.trod_lt m _ _ _ hm
  have o1 := Em.open_int Tryd.underlying3 (hval 1 3 v1 rfl rfl) h1
  clear hA0 hval0 hsz0 hsz
  refine (walk_parseDeep W v0 v1 o0 o1 hfact).mono fun e W' ⟨he, bel⟩ => ?_
  subst he
  exact ⟨_, rfl, _, _, _, [], _, [], hW', trodAll_mk1 (shut_bool Tryd.underlying4 _), (trodAll_cons_mk (Below.trod parseDeep_laidOut (by kernel_rfl) (of_decide_eq_true (by kernel_rfl)) h0 bel lt0) (trodAll_cons_mk (Below.trod parseDeep_laidOut (by kernel_rfl) (of_decide_eq_true (by kernel_rfl)) h1 bel lt1) trodAll_mk0)), rfl, bel.frame _, fun h => by cases h⟩
theorem parseDeep_said : Rows.ParseDeepSaid :=
  OpenClaim.holds_of_cond 6 Tryd.f6 rfl rfl rfl rfl rfl rfl rfl ⟨rfl, rfl, rfl, rfl, rfl⟩ rfl rfl rfl rfl rfl (by kernel_rfl) Tryd.func6 (by kernel_rfl)
    (of_decide_eq_true (by kernel_rfl)) (by unfold Func.isWrapper; first | (rw [if_pos (by decide +kernel)]; kernel_rfl) | (rw [if_neg (by decide +kernel)]; exact ⟨rfl, rfl⟩))
    (fun os started H enc _ F => by rw [OpenClaim.pre_eq_preRow]; exact parseDeep_lifted os started H enc F)
theorem parseDeep_plain (f : FuncId) (fn : Func) (hf : Tryd.pinned.checked.prog.funcNamed "emissary/emissarylaw6.ParseDeep" = some f) (hfn : Tryd.pinned.checked.prog.funcs[f]? = some fn) :
    false = Tryd.pinned.checked.prog.looks [] ∧ ∀ (j : Nat) t, fn.params[j]? = some t → Tryd.pinned.checked.prog.wantsStandIn t = false := by
  obtain rfl : f = 6 := Option.some.inj ((show Tryd.prog.funcNamed "emissary/emissarylaw6.ParseDeep" = some 6 by kernel_rfl).symm.trans hf) |>.symm
  obtain rfl : fn = Tryd.f6 := (Option.some.inj (Tryd.func6.symm.trans hfn)).symm
  refine ⟨by kernel_rfl, fun j t ht => ?_⟩
  rw [Tryd.params6] at ht
  have hm : t ∈ ([3, 3] : List Nat) := by simpa using Array.mem_of_getElem? ht
  have hall : (([3, 3] : List Nat).all fun u => !Tryd.prog.wantsStandIn u) = true := by kernel_rfl
  exact (show Tryd.prog.wantsStandIn t = false by simpa using List.all_eq_true.1 hall t hm)
theorem parseDeep_holds : Rows.ParseDeepCardSaid :=
  Claim7.holds_tied_plain_at .later [] _ _ _ _ parseDeep_said (fun _ h => by cases h) (by kernel_rfl) (fun _ h => by cases h) parseDeep_row_tie rfl ⟨rfl, rfl⟩ (by kernel_rfl) rfl parseDeep_plain (by kernel_rfl)
#print axioms parseDeep_holds
end Go.Proofs.YtgojjknbingfpaaDoor

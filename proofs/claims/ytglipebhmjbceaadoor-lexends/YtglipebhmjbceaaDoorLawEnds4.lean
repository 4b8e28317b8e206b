/- LexEnds: names, numbers, strings may be so long, no longer. No condition but that lex.signs holds what its initialiser lays, to which the card ties it. -/
import Derived.Test.YtglipebhmjbceaaDoorRows
import Derived.Test.YtglipebhmjbceaaDoorCards
import Derived.Test.YtglipebhmjbceaaDoorTie
import Derived.Test.YtglipebhmjbceaaDoorLexL
import Derived.Test.YtglipebhmjbceaaDoorKnown4
import Derived.Test.YtglipebhmjbceaaDoorStrA
import Derived.Test.YtglipebhmjbceaaDoorFrame
import Derived.Test.YtglipebhmjbceaaDoorFrame2
namespace Go.Proofs.YtglipebhmjbceaaDoor
open Go.ChangeShapes Go.WideShapes Go.ChangeAt Go.RowKit
set_option linter.unusedVariables false

/-- Tokens where it is short enough; else an error at the third byte. -/
def endOk (r : Except Nat (List Em4.Tok)) (n most : Nat) : Bool := match r with
  | .ok _ => decide (n ≤ most)
  | .error j => decide (most < n) && decide (j = 2)

theorem ends_toks0 : ((List.range 60).all fun m => endOk (Em4.toks ([32, 32] ++ List.replicate (m + 1) 97)) (m + 1) 12) = true := by decide +kernel

set_option maxRecDepth 100000 in
set_option maxHeartbeats 2000000 in
theorem walk_ends0 (w : World) (n : Nat) (h1 : 1 ≤ n) (h60 : n ≤ 60) (hg : IsSigns w) :
    Calls Tryd.prog 5 #[.int .i64 n, .int .i64 0] w fun e w' => e = .returned (.bool true) ∧ Below w.heap.size w w' := by
  have HG : Hid (IsSigns w) := hg
  clear hg
  have HT : Hid (endOk (Em4.toks ([32, 32] ++ List.replicate n 97)) n 12 = true) := by
    have h := List.all_eq_true.1 ends_toks0 (n - 1) (by simp; omega)
    have e : n - 1 + 1 = n := by omega
    rw [e] at h
    exact h
  go_enter Tryd.func5, Tryd.ntmps5
  go_wp2
  go_loopw [7, 8] (fun a i wr => ∃ (k : Nat) (x : ByteArray), k ≤ n ∧ i = .int .i64 k ∧ a = .string x ∧ Hid (Em.IsStr x (List.replicate k 97)) ∧ Below w.heap.size w wr) (fun _ i _ => n - (intOf i).toNat)
  case atStart => exact ⟨0, _, Nat.zero_le _, rfl, rfl, ⟨rfl, by simp⟩, Below.refl _ _⟩
  case round =>
    obtain ⟨k, x, hk, rfl, rfl, HX, hbel⟩ := hrel
    by_cases hlt : k < n
    · have hcv := Em.run_str (P := Tryd.prog) 31 9 5 Tryd.underlying31 Tryd.underlying5 Tryd.underlying9 (isBytes_one wr 97 5 (by omega))
      have hsz : ¬ 9223372036854775807 < x.size + (Em.str [97]).size := by
        rw [HX.out.size, str_size]; simp; omega
      have HX2 : Hid (Em.IsStr (x ++ Em.str [97]) (List.replicate (k + 1) 97)) := by
        rw [Hid, List.replicate_succ']; exact isStr_app HX.out (Em.isStr_str (by decide))
      have HB2 : Hid (Below w.heap.size w (wr.alloc (.cells #[.int .u8 97] 5))) := hbel.alloc hbel.size _
      clear HX hbel
      go_wp2
      go_roundw
      case rel => exact ⟨k + 1, _, by omega, by go_num, rfl, HX2, HB2.out⟩
      case measure => simp [intOf]; omega
    · obtain rfl : k = n := by omega
      have hs1 : x.size = k := by rw [HX.out.size]; simp
      have HS : Hid (Em.IsStr ((⟨#[32, 32]⟩ : ByteArray) ++ x) ([32, 32] ++ List.replicate k 97)) := isStr_app ⟨rfl, by decide⟩ HX.out
      have HSZ : Hid (((⟨#[32, 32]⟩ : ByteArray) ++ x).size ≤ 2000) := by rw [Hid, HS.out.size]; simp; omega
      have hq1 : ¬ 9223372036854775807 < 1 + x.size := by omega
      have hq2 : ¬ 9223372036854775807 < 1 + x.size + 1 := by omega
      have hq3 : ¬ 9223372036854775807 < 2 + (1 + x.size + 1) := by omega
      have hq4 : ¬ 9223372036854775807 < 2 + x.size := by omega
      clear HX
      go_wp2_with fail
      refine (ltokens_any _ _ _ HS.out HSZ.out (HG.out.below hbel HG.out.lt)).mono ?_
      rintro e w1 ⟨hgot, hb1⟩
      have bel1 := hbel.trans (hb1.mono hbel.size)
      clear hb1 hbel hq1 hq2 hq3 hq4
      cases ht : Em4.toks ([32, 32] ++ List.replicate k 97) with
      | error j =>
        rw [ht] at hgot HT
        have h2 : 12 < k ∧ j = 2 := by simpa [endOk] using HT.out
        obtain ⟨h2, rfl⟩ := h2
        simp only [ToksGot] at hgot
        subst hgot
        clear HT ht
        go_wp2_with fail
        refine (known4_any _ (HG.out.below bel1 HG.out.lt)).mono ?_
        rintro e w2 ⟨rfl, hb2⟩
        have bel2 := bel1.trans (hb2.mono bel1.size)
        go_wp2
        go_ret
        exact ⟨Em.ret_bool (a := !decide ((k : Int) ≤ 12)) (by simp; omega), bel2⟩
      | ok T =>
        rw [ht] at hgot HT
        have h2 : k ≤ 12 := by simpa [endOk] using HT.out
        obtain ⟨v, rfl, hown⟩ := hgot
        clear HT ht hown
        go_wp2_with fail
        refine (known4_any _ (HG.out.below bel1 HG.out.lt)).mono ?_
        rintro e w2 ⟨rfl, hb2⟩
        have bel2 := bel1.trans (hb2.mono bel1.size)
        go_wp2
        go_ret
        exact ⟨rfl, bel2⟩

theorem ends_toks1 : ((List.range 60).all fun m => endOk (Em4.toks ([32, 32] ++ List.replicate (m + 1) 55)) (m + 1) 18) = true := by decide +kernel

set_option maxRecDepth 100000 in
set_option maxHeartbeats 2000000 in
theorem walk_ends1 (w : World) (n : Nat) (h1 : 1 ≤ n) (h60 : n ≤ 60) (hg : IsSigns w) :
    Calls Tryd.prog 5 #[.int .i64 n, .int .i64 1] w fun e w' => e = .returned (.bool true) ∧ Below w.heap.size w w' := by
  have HG : Hid (IsSigns w) := hg
  clear hg
  have HT : Hid (endOk (Em4.toks ([32, 32] ++ List.replicate n 55)) n 18 = true) := by
    have h := List.all_eq_true.1 ends_toks1 (n - 1) (by simp; omega)
    have e : n - 1 + 1 = n := by omega
    rw [e] at h
    exact h
  go_enter Tryd.func5, Tryd.ntmps5
  go_wp2
  go_loopw [7, 8] (fun a i wr => ∃ (k : Nat) (x : ByteArray), k ≤ n ∧ i = .int .i64 k ∧ a = .string x ∧ Hid (Em.IsStr x (List.replicate k 55)) ∧ Below w.heap.size w wr) (fun _ i _ => n - (intOf i).toNat)
  case atStart => exact ⟨0, _, Nat.zero_le _, rfl, rfl, ⟨rfl, by simp⟩, Below.refl _ _⟩
  case round =>
    obtain ⟨k, x, hk, rfl, rfl, HX, hbel⟩ := hrel
    by_cases hlt : k < n
    · have hcv := Em.run_str (P := Tryd.prog) 31 9 5 Tryd.underlying31 Tryd.underlying5 Tryd.underlying9 (isBytes_one wr 55 5 (by omega))
      have hsz : ¬ 9223372036854775807 < x.size + (Em.str [55]).size := by
        rw [HX.out.size, str_size]; simp; omega
      have HX2 : Hid (Em.IsStr (x ++ Em.str [55]) (List.replicate (k + 1) 55)) := by
        rw [Hid, List.replicate_succ']; exact isStr_app HX.out (Em.isStr_str (by decide))
      have HB2 : Hid (Below w.heap.size w (wr.alloc (.cells #[.int .u8 55] 5))) := hbel.alloc hbel.size _
      clear HX hbel
      go_wp2
      go_roundw
      case rel => exact ⟨k + 1, _, by omega, by go_num, rfl, HX2, HB2.out⟩
      case measure => simp [intOf]; omega
    · obtain rfl : k = n := by omega
      have hs1 : x.size = k := by rw [HX.out.size]; simp
      have HS : Hid (Em.IsStr ((⟨#[32, 32]⟩ : ByteArray) ++ x) ([32, 32] ++ List.replicate k 55)) := isStr_app ⟨rfl, by decide⟩ HX.out
      have HSZ : Hid (((⟨#[32, 32]⟩ : ByteArray) ++ x).size ≤ 2000) := by rw [Hid, HS.out.size]; simp; omega
      have hq1 : ¬ 9223372036854775807 < 1 + x.size := by omega
      have hq2 : ¬ 9223372036854775807 < 1 + x.size + 1 := by omega
      have hq3 : ¬ 9223372036854775807 < 2 + (1 + x.size + 1) := by omega
      have hq4 : ¬ 9223372036854775807 < 2 + x.size := by omega
      clear HX
      go_wp2_with fail
      refine (ltokens_any _ _ _ HS.out HSZ.out (HG.out.below hbel HG.out.lt)).mono ?_
      rintro e w1 ⟨hgot, hb1⟩
      have bel1 := hbel.trans (hb1.mono hbel.size)
      clear hb1 hbel hq1 hq2 hq3 hq4
      cases ht : Em4.toks ([32, 32] ++ List.replicate k 55) with
      | error j =>
        rw [ht] at hgot HT
        have h2 : 18 < k ∧ j = 2 := by simpa [endOk] using HT.out
        obtain ⟨h2, rfl⟩ := h2
        simp only [ToksGot] at hgot
        subst hgot
        clear HT ht
        go_wp2_with fail
        refine (known4_any _ (HG.out.below bel1 HG.out.lt)).mono ?_
        rintro e w2 ⟨rfl, hb2⟩
        have bel2 := bel1.trans (hb2.mono bel1.size)
        go_wp2
        go_ret
        exact ⟨Em.ret_bool (a := !decide ((k : Int) ≤ 18)) (by simp; omega), bel2⟩
      | ok T =>
        rw [ht] at hgot HT
        have h2 : k ≤ 18 := by simpa [endOk] using HT.out
        obtain ⟨v, rfl, hown⟩ := hgot
        clear HT ht hown
        go_wp2_with fail
        refine (known4_any _ (HG.out.below bel1 HG.out.lt)).mono ?_
        rintro e w2 ⟨rfl, hb2⟩
        have bel2 := bel1.trans (hb2.mono bel1.size)
        go_wp2
        go_ret
        exact ⟨rfl, bel2⟩

theorem ends_toks2 : ((List.range 60).all fun m => endOk (Em4.toks ([32, 32] ++ ([34] ++ List.replicate (m + 1) 97 ++ [34]))) (m + 1) 40) = true := by decide +kernel

set_option maxRecDepth 100000 in
set_option maxHeartbeats 2000000 in
theorem walk_ends2 (w : World) (n : Nat) (h1 : 1 ≤ n) (h60 : n ≤ 60) (hg : IsSigns w) :
    Calls Tryd.prog 5 #[.int .i64 n, .int .i64 2] w fun e w' => e = .returned (.bool true) ∧ Below w.heap.size w w' := by
  have HG : Hid (IsSigns w) := hg
  clear hg
  have HT : Hid (endOk (Em4.toks ([32, 32] ++ ([34] ++ List.replicate n 97 ++ [34]))) n 40 = true) := by
    have h := List.all_eq_true.1 ends_toks2 (n - 1) (by simp; omega)
    have e : n - 1 + 1 = n := by omega
    rw [e] at h
    exact h
  go_enter Tryd.func5, Tryd.ntmps5
  go_wp2
  go_loopw [7, 8] (fun a i wr => ∃ (k : Nat) (x : ByteArray), k ≤ n ∧ i = .int .i64 k ∧ a = .string x ∧ Hid (Em.IsStr x (List.replicate k 97)) ∧ Below w.heap.size w wr) (fun _ i _ => n - (intOf i).toNat)
  case atStart => exact ⟨0, _, Nat.zero_le _, rfl, rfl, ⟨rfl, by simp⟩, Below.refl _ _⟩
  case round =>
    obtain ⟨k, x, hk, rfl, rfl, HX, hbel⟩ := hrel
    by_cases hlt : k < n
    · have hcv := Em.run_str (P := Tryd.prog) 31 9 5 Tryd.underlying31 Tryd.underlying5 Tryd.underlying9 (isBytes_one wr 97 5 (by omega))
      have hsz : ¬ 9223372036854775807 < x.size + (Em.str [97]).size := by
        rw [HX.out.size, str_size]; simp; omega
      have HX2 : Hid (Em.IsStr (x ++ Em.str [97]) (List.replicate (k + 1) 97)) := by
        rw [Hid, List.replicate_succ']; exact isStr_app HX.out (Em.isStr_str (by decide))
      have HB2 : Hid (Below w.heap.size w (wr.alloc (.cells #[.int .u8 97] 5))) := hbel.alloc hbel.size _
      clear HX hbel
      go_wp2
      go_roundw
      case rel => exact ⟨k + 1, _, by omega, by go_num, rfl, HX2, HB2.out⟩
      case measure => simp [intOf]; omega
    · obtain rfl : k = n := by omega
      have hs1 : x.size = k := by rw [HX.out.size]; simp
      have HS : Hid (Em.IsStr ((⟨#[32, 32]⟩ : ByteArray) ++ ((⟨#[34]⟩ : ByteArray) ++ x ++ (⟨#[34]⟩ : ByteArray))) ([32, 32] ++ ([34] ++ List.replicate k 97 ++ [34]))) := isStr_app ⟨rfl, by decide⟩ (isStr_app (isStr_app ⟨rfl, by decide⟩ HX.out) ⟨rfl, by decide⟩)
      have HSZ : Hid (((⟨#[32, 32]⟩ : ByteArray) ++ ((⟨#[34]⟩ : ByteArray) ++ x ++ (⟨#[34]⟩ : ByteArray))).size ≤ 2000) := by rw [Hid, HS.out.size]; simp; omega
      have hq1 : ¬ 9223372036854775807 < 1 + x.size := by omega
      have hq2 : ¬ 9223372036854775807 < 1 + x.size + 1 := by omega
      have hq3 : ¬ 9223372036854775807 < 2 + (1 + x.size + 1) := by omega
      have hq4 : ¬ 9223372036854775807 < 2 + x.size := by omega
      clear HX
      go_wp2_with fail
      refine (ltokens_any _ _ _ HS.out HSZ.out (HG.out.below hbel HG.out.lt)).mono ?_
      rintro e w1 ⟨hgot, hb1⟩
      have bel1 := hbel.trans (hb1.mono hbel.size)
      clear hb1 hbel hq1 hq2 hq3 hq4
      cases ht : Em4.toks ([32, 32] ++ ([34] ++ List.replicate k 97 ++ [34])) with
      | error j =>
        rw [ht] at hgot HT
        have h2 : 40 < k ∧ j = 2 := by simpa [endOk] using HT.out
        obtain ⟨h2, rfl⟩ := h2
        simp only [ToksGot] at hgot
        subst hgot
        clear HT ht
        go_wp2_with fail
        refine (known4_any _ (HG.out.below bel1 HG.out.lt)).mono ?_
        rintro e w2 ⟨rfl, hb2⟩
        have bel2 := bel1.trans (hb2.mono bel1.size)
        go_wp2
        go_ret
        exact ⟨Em.ret_bool (a := !decide ((k : Int) ≤ 40)) (by simp; omega), bel2⟩
      | ok T =>
        rw [ht] at hgot HT
        have h2 : k ≤ 40 := by simpa [endOk] using HT.out
        obtain ⟨v, rfl, hown⟩ := hgot
        clear HT ht hown
        go_wp2_with fail
        refine (known4_any _ (HG.out.below bel1 HG.out.lt)).mono ?_
        rintro e w2 ⟨rfl, hb2⟩
        have bel2 := bel1.trans (hb2.mono bel1.size)
        go_wp2
        go_ret
        exact ⟨rfl, bel2⟩

set_option maxRecDepth 100000 in
set_option maxHeartbeats 2000000 in
theorem walk_lexEnds (w : World) (y z : Value) (hy : ∃ n, y = .int .i64 n ∧ (Lit.int .i64 n).wf = true) (hz : ∃ n, z = .int .i64 n ∧ (Lit.int .i64 n).wf = true) (hg : IsSigns w) :
    Calls Tryd.prog 5 #[y, z] w fun e w' => e = .returned (.bool true) ∧ Below w.heap.size w w' := by
  obtain ⟨n, rfl, hn⟩ := hy
  obtain ⟨m, rfl, hm⟩ := hz
  clear hn hm
  by_cases h1 : n < 1
  · go_enter Tryd.func5, Tryd.ntmps5
    go_wp2
    go_ret
    exact ⟨rfl, Below.refl _ _⟩
  by_cases h2 : 60 < n
  · go_enter Tryd.func5, Tryd.ntmps5
    go_wp2
    go_ret
    exact ⟨rfl, Below.refl _ _⟩
  by_cases h3 : m < 0
  · go_enter Tryd.func5, Tryd.ntmps5
    go_wp2
    go_ret
    exact ⟨rfl, Below.refl _ _⟩
  by_cases h4 : 2 < m
  · go_enter Tryd.func5, Tryd.ntmps5
    go_wp2
    go_ret
    exact ⟨rfl, Below.refl _ _⟩
  obtain ⟨k, rfl⟩ : ∃ k : Nat, n = k := ⟨n.toNat, by omega⟩
  obtain rfl | rfl | rfl : m = 0 ∨ m = 1 ∨ m = 2 := by omega
  · exact walk_ends0 w k (by omega) (by omega) hg
  · exact walk_ends1 w k (by omega) (by omega) hg
  · exact walk_ends2 w k (by omega) (by omega) hg

theorem lexEnds_own : ownKnob Tryd.prog.godebug = none := by kernel_rfl
theorem lexEnds_laidOut : laidOutB Tryd.prog = true := by kernel_rfl
theorem lexEnds_met (os : Os) : laidMet Tryd.prog Rows.lexEndsRow.laid ((laidWorld os).forCall (fun _ _ => 0) ⟨#[], #[.int .i64 0, .int .i64 0], []⟩).memory :=
  laidMet_of_run' 8 (by kernel_rfl) (by kernel_rfl)
theorem lexEnds_reads (os : Os) {H : Type} (enc : TypeId × Value → H) : ∃ places, DataW.whole enc Tryd.prog ((laidWorld os).forCall (fun _ _ => 0) ⟨#[], #[.int .i64 0, .int .i64 0], []⟩).memory Tryd.f5.params.toList Rows.lexEndsSpec.vars false (#[.int .i64 0, .int .i64 0] : Array Value).toList 8 = some ([.lit (.int .i64 0), .lit (.int .i64 0)], [], places) :=
  ⟨[], by kernel_rfl⟩
set_option maxRecDepth 100000 in
theorem lexEnds_lifted (os : Os) (started : os.Started) (H : Type) (enc : TypeId × Value → H) (F : Stop.Interp) :
    ReturnsInHanded {} Tryd.checked os 5 .any ((OpenSpec.ofChange Rows.lexEndsSpec).preRow enc Tryd.prog Tryd.f5 Rows.lexEndsRow.domain false Rows.lexEndsRow.laid) (((OpenSpec.ofChange Rows.lexEndsSpec).at F).post enc Tryd.prog Tryd.f5 false true false false) := by
  obtain ⟨places, hx⟩ := lexEnds_reads os enc
  refine returnsInHanded_of_row (C := Tryd.checked) (s := OpenSpec.ofChange Rows.lexEndsSpec) lexEnds_own started (by kernel_rfl) Tryd.func5
    (witness_row_at (enc := enc) (C := Tryd.checked) false (laidWorld os) #[.int .i64 0, .int .i64 0] rfl (by kernel_rfl) (by kernel_rfl) (by kernel_rfl)
      (OpenSpec.preRow_of_cond 8 hx (by kernel_rfl) (fun k hk => by cases hk) (by kernel_rfl) (lexEnds_met os))) ?_
  intro W base args ds gs before hval0 hW _ _ hsz0 hL _ _
  have hfact := signs_of_laid hL
  have hval : ∀ (j : Nat) t v, Tryd.f5.params[j]? = some t → args[j]? = some v → Value.okWide Tryd.prog W .any base t v := hval0
  have hW' := hW
  obtain ⟨p, q, hA0, hV, rfl, hfz, hnd⟩ := hW
  have hA : DataW.TrodAll enc Tryd.prog W 0 (fun _ => true) true Tryd.f5.params.toList args.toList ds p := hA0
  have hsz : (DataW.weightsEach Tryd.prog (Tryd.f5.params.toList ++ Rows.lexEndsSpec.plain.varTypes Tryd.prog) (ds ++ gs)).all (· ≤ reachBytes) = true := hsz0
  rw [Tryd.params5] at hA hval hsz
  obtain ⟨v0, vs0, d0, ds0, p0, q0, hargs, rfl, rfl, h0, r0⟩ := trodAll_cons hA
  obtain ⟨v1, vs1, d1, ds1, p1, q1, rfl, rfl, rfl, h1, r1⟩ := trodAll_cons r0
  obtain ⟨rfl, rfl, rfl⟩ := trodAll_nil r1
  obtain rfl : args = #[v0, v1] := by cases args; simp_all
  obtain ⟨rfl, rfl⟩ := trodVars_none hV
  have lt0 : ∀ x ∈ p0, x.block < W.heap.size := by obtain ⟨m, hm⟩ := h0; exact DataW.trod_lt m _ _ _ hm
  have o0 := Em.open_int Tryd.underlying3 (hval 0 3 v0 rfl rfl) h0
  have lt1 : ∀ x ∈ p1, x.block < W.heap.size := by obtain ⟨m, hm⟩ := h1; exact DataW.trod_lt m _ _ _ hm
  have o1 := Em.open_int Tryd.underlying3 (hval 1 3 v1 rfl rfl) h1
  clear hA0 hval0 hsz0 hsz
  refine (walk_lexEnds W v0 v1 o0 o1 hfact).mono fun e W' ⟨he, bel⟩ => ?_
  subst he
  exact ⟨_, rfl, _, _, _, [], _, [], hW', trodAll_mk1 (shut_bool Tryd.underlying4 _), (trodAll_cons_mk (Below.trod lexEnds_laidOut (by kernel_rfl) (of_decide_eq_true (by kernel_rfl)) h0 bel lt0) (trodAll_cons_mk (Below.trod lexEnds_laidOut (by kernel_rfl) (of_decide_eq_true (by kernel_rfl)) h1 bel lt1) trodAll_mk0)), rfl, bel.frame _, fun h => by cases h⟩
theorem lexEnds_said : Rows.LexEndsSaid :=
  OpenClaim.holds_of_cond 5 Tryd.f5 rfl rfl rfl rfl rfl rfl rfl ⟨rfl, rfl, rfl, rfl, rfl⟩ rfl rfl rfl rfl rfl (by kernel_rfl) Tryd.func5 (by kernel_rfl)
    (of_decide_eq_true (by kernel_rfl)) (by unfold Func.isWrapper; first | (rw [if_pos (by decide +kernel)]; kernel_rfl) | (rw [if_neg (by decide +kernel)]; exact ⟨rfl, rfl⟩))
    (fun os started H enc _ F => by rw [OpenClaim.pre_eq_preRow]; exact lexEnds_lifted os started H enc F)
theorem lexEnds_plain (f : FuncId) (fn : Func) (hf : Tryd.pinned.checked.prog.funcNamed "emissary/emissarylaw4.LexEnds" = some f) (hfn : Tryd.pinned.checked.prog.funcs[f]? = some fn) :
    false = Tryd.pinned.checked.prog.looks [] ∧ ∀ (j : Nat) t, fn.params[j]? = some t → Tryd.pinned.checked.prog.wantsStandIn t = false := by
  obtain rfl : f = 5 := Option.some.inj ((show Tryd.prog.funcNamed "emissary/emissarylaw4.LexEnds" = some 5 by kernel_rfl).symm.trans hf) |>.symm
  obtain rfl : fn = Tryd.f5 := (Option.some.inj (Tryd.func5.symm.trans hfn)).symm
  refine ⟨by kernel_rfl, fun j t ht => ?_⟩
  rw [Tryd.params5] at ht
  have hm : t ∈ ([3, 3] : List Nat) := by simpa using Array.mem_of_getElem? ht
  have hall : (([3, 3] : List Nat).all fun u => !Tryd.prog.wantsStandIn u) = true := by kernel_rfl
  exact (show Tryd.prog.wantsStandIn t = false by simpa using List.all_eq_true.1 hall t hm)
theorem lexEnds_holds : Rows.LexEndsCardSaid :=
  Claim7.holds_tied_plain_at .later [] _ _ _ _ lexEnds_said (fun _ h => by cases h) (by kernel_rfl) (fun _ h => by cases h) lexEnds_row_tie rfl ⟨rfl, rfl⟩ (by kernel_rfl) rfl lexEnds_plain (by kernel_rfl)
#print axioms lexEnds_holds
end Go.Proofs.YtglipebhmjbceaaDoor

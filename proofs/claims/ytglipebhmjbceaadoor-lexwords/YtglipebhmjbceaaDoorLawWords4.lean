/- LexWords: each word of the language is a Word, with a letter more a name. No condition but that lex.signs holds what its initialiser lays, to which the card ties it. -/
import Derived.Test.YtglipebhmjbceaaDoorRows
import Derived.Test.YtglipebhmjbceaaDoorCards
import Derived.Test.YtglipebhmjbceaaDoorTie
import Derived.Test.YtglipebhmjbceaaDoorLexL
import Derived.Test.YtglipebhmjbceaaDoorKnown4
import Derived.Test.YtglipebhmjbceaaDoorStrA
import Derived.Test.YtglipebhmjbceaaDoorFrame
import Derived.Test.YtglipebhmjbceaaDoorFrame2
import Derived.Deep.RegionHeld
namespace Go.Proofs.YtglipebhmjbceaaDoor
open Go.ChangeShapes Go.WideShapes Go.ChangeAt Go.RowKit
set_option linter.unusedVariables false

theorem word_toks : ∀ x ∈ Em4.words, Em4.toks x = .ok [⟨4, x, 0, 0⟩, ⟨5, [], 0, x.length⟩] ∧ Em4.toks (x ++ [120]) = .ok [⟨1, x ++ [120], 0, 0⟩, ⟨5, [], 0, (x ++ [120]).length⟩] := by
  intro x hx
  simp only [Em4.words, List.mem_cons, List.not_mem_nil, or_false] at hx
  rcases hx with rfl | rfl | rfl | rfl | rfl | rfl | rfl | rfl | rfl | rfl | rfl | rfl | rfl | rfl | rfl | rfl | rfl | rfl | rfl | rfl | rfl | rfl
  all_goals exact ⟨rfl, rfl⟩

set_option maxRecDepth 100000 in
set_option maxHeartbeats 2000000 in
theorem walk_lexWords (w : World) (y : Value) (hy : ∃ n, y = .int .i64 n ∧ (Lit.int .i64 n).wf = true) (hg : IsSigns w) :
    Calls Tryd.prog 7 #[y] w fun e w' => e = .returned (.bool true) ∧ Below w.heap.size w w' := by
  obtain ⟨n, rfl, hn⟩ := hy
  clear hn
  have HG : Hid (IsSigns w) := hg
  clear hg
  have HB : Hid (Below w.heap.size w (w.alloc (.cells wordsV 9))) := (Below.refl _ _).alloc (Nat.le_refl _) _
  by_cases h0 : n < 0
  · go_enter Tryd.func7, Tryd.ntmps7
    go_wp2_with (go_at_call 12; refine (rwords_any _).mono ?_; rintro e w1 ⟨rfl, rfl⟩)
    go_ret
    exact ⟨rfl, HB.out⟩
  by_cases h22 : 22 ≤ n
  · go_enter Tryd.func7, Tryd.ntmps7
    go_wp2_with (go_at_call 12; refine (rwords_any _).mono ?_; rintro e w1 ⟨rfl, rfl⟩)
    go_ret
    exact ⟨rfl, HB.out⟩
  obtain ⟨k, rfl⟩ : ∃ k : Nat, n = k := ⟨n.toNat, by omega⟩
  have hk : k < 22 := by omega
  clear h0 h22
  obtain ⟨x, hx⟩ : ∃ x, x = Em4.words[k]?.getD [] := ⟨_, rfl⟩
  have hmem : x ∈ Em4.words := by
    have hl : k < Em4.words.length := hk
    rw [hx, List.getElem?_eq_getElem hl, Option.getD_some]; exact List.getElem_mem hl
  have hcl := words_cell w k hk
  have hst := words_str k hk
  rw [← hx] at hcl hst
  have hsh := words_short hmem
  obtain ⟨ht1, ht2⟩ := word_toks x hmem
  have HT1 : Hid (Em4.toks x = .ok [⟨4, x, 0, 0⟩, ⟨5, [], 0, x.length⟩]) := ht1
  have HT2 : Hid (Em4.toks (x ++ [120]) = .ok [⟨1, x ++ [120], 0, 0⟩, ⟨5, [], 0, (x ++ [120]).length⟩]) := ht2
  have hst2 : Em.IsStr (Em.str x ++ (⟨#[120]⟩ : ByteArray)) (x ++ [120]) := isStr_app hst ⟨rfl, by decide⟩
  have hse : Em.str (x ++ [120]) = Em.str x ++ (⟨#[120]⟩ : ByteArray) := hst2.1.symm
  obtain ⟨t, ht⟩ : ∃ t, t = Em.str x := ⟨_, rfl⟩
  have HTE : Hid (Em.str x = t) := ht.symm
  rw [← ht] at hcl hst hst2 hse
  have HS1 : Hid (Em.IsStr t x) := hst
  have HS2 : Hid (Em.IsStr (t ++ (⟨#[120]⟩ : ByteArray)) (x ++ [120])) := hst2
  have HSE : Hid (Em.str (x ++ [120]) = t ++ (⟨#[120]⟩ : ByteArray)) := hse
  have hts : t.size ≤ 5 := by rw [hst.size]; exact hsh
  have HTS2 : Hid ((t ++ (⟨#[120]⟩ : ByteArray)).size ≤ 2000) := by rw [Hid, hst2.size]; simp; omega
  have hts2 : ¬ 9223372036854775807 < t.size + 1 := by omega
  clear hx hmem hst hsh ht1 ht2 hst2 hse ht
  go_enter Tryd.func7, Tryd.ntmps7
  go_wp2_with fail
  refine (rwords_any _).mono ?_
  rintro e w1 ⟨rfl, hw1⟩
  rw [← hw1] at hcl HB
  have hz1 : w1.heap.size = w.heap.size + 1 := by rw [hw1]; simp
  clear hw1
  go_wp2_with fail
  refine (ltokens_any _ x _ HS1.out (by omega) (HG.out.below HB.out HG.out.lt)).mono ?_
  rintro e w2 ⟨hgot, hb2⟩
  rw [HT1.out] at hgot
  obtain ⟨v2, rfl, hown2⟩ := hgot
  obtain ⟨g2, cap2, rfl, -, -, hg2, hl2, hc2⟩ := hown2.at (by simp)
  have a0 : w2.cell? ⟨g2, 0, none⟩ = some (.int .i64 4) := (hc2 0 _ rfl).1
  have a1 : w2.cell? ⟨g2, 1, none⟩ = some (.string t) := by have := (hc2 0 _ rfl).2.1; rw [HTE.out] at this; exact this
  have hcl2 : w2.cell? ⟨w.heap.size, k, none⟩ = some (.string t) := by rw [hb2.cell (p := ⟨w.heap.size, k, none⟩) (by simp; omega)]; exact hcl
  have bel2 := HB.out.trans (hb2.mono HB.out.size)
  have hz2 := bel2.size
  have hz12 := hb2.size
  simp only [List.length_cons, List.length_nil]
  clear hown2 hc2 hcl hb2
  go_wp2_with fail
  refine (ltokens_any _ (x ++ [120]) _ HS2.out HTS2.out (HG.out.below bel2 HG.out.lt)).mono ?_
  rintro e w3 ⟨hgot, hb3⟩
  rw [HT2.out] at hgot
  obtain ⟨v3, rfl, hown3⟩ := hgot
  obtain ⟨g3, cap3, rfl, -, -, hg3, hl3, hc3⟩ := hown3.at (by simp)
  have b0 : w3.cell? ⟨g3, 0, none⟩ = some (.int .i64 1) := (hc3 0 _ rfl).1
  have b1 : w3.cell? ⟨g3, 1, none⟩ = some (.string (t ++ (⟨#[120]⟩ : ByteArray))) := by have := (hc3 0 _ rfl).2.1; rw [HSE.out] at this; exact this
  have a0' : w3.cell? ⟨g2, 0, none⟩ = some (.int .i64 4) := by rw [hb3.cell (p := ⟨g2, 0, none⟩) hl2]; exact a0
  have a1' : w3.cell? ⟨g2, 1, none⟩ = some (.string t) := by rw [hb3.cell (p := ⟨g2, 1, none⟩) hl2]; exact a1
  have hcl3 : w3.cell? ⟨w.heap.size, k, none⟩ = some (.string t) := by rw [hb3.cell (p := ⟨w.heap.size, k, none⟩) (by simp; omega)]; exact hcl2
  have bel3 := bel2.trans (hb3.mono bel2.size)
  have hz3 := hb3.size
  simp only [List.length_cons, List.length_nil]
  have HK : Hid (∀ w', Below w3.heap.size w3 w' → w'.cell? ⟨g2, 0, none⟩ = some (.int .i64 4) ∧ w'.cell? ⟨g2, 1, none⟩ = some (.string t) ∧ w'.cell? ⟨g3, 0, none⟩ = some (.int .i64 1) ∧ w'.cell? ⟨g3, 1, none⟩ = some (.string (t ++ (⟨#[120]⟩ : ByteArray))) ∧ w'.cell? ⟨w.heap.size, k, none⟩ = some (.string t) ∧ Below w3.heap.size w3 w') := fun w' hb =>
    ⟨by rw [hb.cell (p := ⟨g2, 0, none⟩) (by simp; omega)]; exact a0', by rw [hb.cell (p := ⟨g2, 1, none⟩) (by simp; omega)]; exact a1', by rw [hb.cell (p := ⟨g3, 0, none⟩) hl3]; exact b0, by rw [hb.cell (p := ⟨g3, 1, none⟩) hl3]; exact b1, by rw [hb.cell (p := ⟨w.heap.size, k, none⟩) (by simp; omega)]; exact hcl3, hb⟩
  have HB3 : Hid (Below w.heap.size w w3) := bel3
  clear a0 a1 hcl2 hown3 hc3 hb3 bel2 bel3 a0' a1' b0 b1 hcl3 hg2 hg3 hl2 hl3
  have belD : Below w3.heap.size w3 w3.drew := (Below.refl _ _).drew
  have hS0 := HK.out _ belD
  go_wp2_with fail
  go_region_held (fun w' => w'.cell? ⟨g2, 0, none⟩ = some (.int .i64 4) ∧ w'.cell? ⟨g2, 1, none⟩ = some (.string t) ∧ w'.cell? ⟨g3, 0, none⟩ = some (.int .i64 1) ∧ w'.cell? ⟨g3, 1, none⟩ = some (.string (t ++ (⟨#[120]⟩ : ByteArray))) ∧ w'.cell? ⟨w.heap.size, k, none⟩ = some (.string t) ∧ Below w3.heap.size w3 w')
    (with_reducible (first | exact hS4 | exact hS0))
    (first | (go_at_call 11; refine (known4_any _ (HG.out.below (HB3.out.trans (belD.mono HB3.out.size)) HG.out.lt)).mono ?_; rintro e w4 ⟨rfl, hb4⟩; have bel4 : Below w3.heap.size w3 w4 := belD.trans (hb4.mono belD.size); have hS4 := HK.out _ bel4; clear hb4))
  all_goals
    go_wp2
    go_ret
    exact ⟨rfl, HB3.out.trans (bel4.mono HB3.out.size)⟩

theorem lexWords_own : ownKnob Tryd.prog.godebug = none := by kernel_rfl
theorem lexWords_laidOut : laidOutB Tryd.prog = true := by kernel_rfl
theorem lexWords_met (os : Os) : laidMet Tryd.prog Rows.lexWordsRow.laid ((laidWorld os).forCall (fun _ _ => 0) ⟨#[], #[.int .i64 0], []⟩).memory :=
  laidMet_of_run' 8 (by kernel_rfl) (by kernel_rfl)
theorem lexWords_reads (os : Os) {H : Type} (enc : TypeId × Value → H) : ∃ places, DataW.whole enc Tryd.prog ((laidWorld os).forCall (fun _ _ => 0) ⟨#[], #[.int .i64 0], []⟩).memory Tryd.f7.params.toList Rows.lexWordsSpec.vars false (#[.int .i64 0] : Array Value).toList 8 = some ([.lit (.int .i64 0)], [], places) :=
  ⟨[], by kernel_rfl⟩
set_option maxRecDepth 100000 in
theorem lexWords_lifted (os : Os) (started : os.Started) (H : Type) (enc : TypeId × Value → H) (F : Stop.Interp) :
    ReturnsInHanded {} Tryd.checked os 7 .any ((OpenSpec.ofChange Rows.lexWordsSpec).preRow enc Tryd.prog Tryd.f7 Rows.lexWordsRow.domain false Rows.lexWordsRow.laid) (((OpenSpec.ofChange Rows.lexWordsSpec).at F).post enc Tryd.prog Tryd.f7 false true false false) := by
  obtain ⟨places, hx⟩ := lexWords_reads os enc
  refine returnsInHanded_of_row (C := Tryd.checked) (s := OpenSpec.ofChange Rows.lexWordsSpec) lexWords_own started (by kernel_rfl) Tryd.func7
    (witness_row_at (enc := enc) (C := Tryd.checked) false (laidWorld os) #[.int .i64 0] rfl (by kernel_rfl) (by kernel_rfl) (by kernel_rfl)
      (OpenSpec.preRow_of_cond 8 hx (by kernel_rfl) (fun k hk => by cases hk) (by kernel_rfl) (lexWords_met os))) ?_
  intro W base args ds gs before hval0 hW _ _ hsz0 hL _ _
  have hfact := signs_of_laid hL
  have hval : ∀ (j : Nat) t v, Tryd.f7.params[j]? = some t → args[j]? = some v → Value.okWide Tryd.prog W .any base t v := hval0
  have hW' := hW
  obtain ⟨p, q, hA0, hV, rfl, hfz, hnd⟩ := hW
  have hA : DataW.TrodAll enc Tryd.prog W 0 (fun _ => true) true Tryd.f7.params.toList args.toList ds p := hA0
  have hsz : (DataW.weightsEach Tryd.prog (Tryd.f7.params.toList ++ Rows.lexWordsSpec.plain.varTypes Tryd.prog) (ds ++ gs)).all (· ≤ reachBytes) = true := hsz0
  rw [Tryd.params7] at hA hval hsz
  obtain ⟨v0, vs0, d0, ds0, p0, q0, hargs, rfl, rfl, h0, r0⟩ := trodAll_cons hA
  obtain ⟨rfl, rfl, rfl⟩ := trodAll_nil r0
  obtain rfl : args = #[v0] := by cases args; simp_all
  obtain ⟨rfl, rfl⟩ := trodVars_none hV
  have lt0 : ∀ x ∈ p0, x.block < W.heap.size := by obtain ⟨m, hm⟩ := h0; exact DataW.trod_lt m _ _ _ hm
  have o0 := Em.open_int Tryd.underlying3 (hval 0 3 v0 rfl rfl) h0
  clear hA0 hval0 hsz0 hsz
  refine (walk_lexWords W v0 o0 hfact).mono fun e W' ⟨he, bel⟩ => ?_
  subst he
  exact ⟨_, rfl, _, _, _, [], _, [], hW', trodAll_mk1 (shut_bool Tryd.underlying4 _), (trodAll_cons_mk (Below.trod lexWords_laidOut (by kernel_rfl) (of_decide_eq_true (by kernel_rfl)) h0 bel lt0) trodAll_mk0), rfl, bel.frame _, fun h => by cases h⟩
theorem lexWords_said : Rows.LexWordsSaid :=
  OpenClaim.holds_of_cond 7 Tryd.f7 rfl rfl rfl rfl rfl rfl rfl ⟨rfl, rfl, rfl, rfl, rfl⟩ rfl rfl rfl rfl rfl (by kernel_rfl) Tryd.func7 (by kernel_rfl)
    (of_decide_eq_true (by kernel_rfl)) (by unfold Func.isWrapper; first | (rw [if_pos (by decide +kernel)]; kernel_rfl) | (rw [if_neg (by decide +kernel)]; exact ⟨rfl, rfl⟩))
    (fun os started H enc _ F => by rw [OpenClaim.pre_eq_preRow]; exact lexWords_lifted os started H enc F)
theorem lexWords_plain (f : FuncId) (fn : Func) (hf : Tryd.pinned.checked.prog.funcNamed "emissary/emissarylaw4.LexWords" = some f) (hfn : Tryd.pinned.checked.prog.funcs[f]? = some fn) :
    false = Tryd.pinned.checked.prog.looks [] ∧ ∀ (j : Nat) t, fn.params[j]? = some t → Tryd.pinned.checked.prog.wantsStandIn t = false := by
  obtain rfl : f = 7 := Option.some.inj ((show Tryd.prog.funcNamed "emissary/emissarylaw4.LexWords" = some 7 by kernel_rfl).symm.trans hf) |>.symm
  obtain rfl : fn = Tryd.f7 := (Option.some.inj (Tryd.func7.symm.trans hfn)).symm
  refine ⟨by kernel_rfl, fun j t ht => ?_⟩
  rw [Tryd.params7] at ht
  have hm : t ∈ ([3] : List Nat) := by simpa using Array.mem_of_getElem? ht
  have hall : (([3] : List Nat).all fun u => !Tryd.prog.wantsStandIn u) = true := by kernel_rfl
  exact (show Tryd.prog.wantsStandIn t = false by simpa using List.all_eq_true.1 hall t hm)
theorem lexWords_holds : Rows.LexWordsCardSaid :=
  Claim7.holds_tied_plain_at .later [] _ _ _ _ lexWords_said (fun _ h => by cases h) (by kernel_rfl) (fun _ h => by cases h) lexWords_row_tie rfl ⟨rfl, rfl⟩ (by kernel_rfl) rfl lexWords_plain (by kernel_rfl)
#print axioms lexWords_holds
end Go.Proofs.YtglipebhmjbceaaDoor

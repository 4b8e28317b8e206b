/- UnifyWithin: a var is never a type that has it within. -/
import Derived.Test.YtadhjnbhcenocaaRows
import Derived.Test.YtadhjnbhcenocaaUfG9
import Derived.Test.YtadhjnbhcenocaaRTypC
import Derived.Test.YtadhjnbhcenocaaRTypV
import Derived.Test.YtadhjnbhcenocaaFrameG9
import Derived.Deep.RegionHeld
namespace Go.Proofs.Ytadhjnbhcenocaa
open Go.ChangeShapes Go.WideShapes Go.ChangeAt Go.RowKit Go.Em8 Go.Em9
set_option linter.unusedVariables false
set_option linter.unusedSimpArgs false

theorem isTy_teach {T : Ty} (h : isTy T = true) : teach T = true := by
  unfold isTy at h
  simp only [Bool.and_eq_true] at h
  exact h.2
/-- Where a type that lies below may lie. -/
theorem isTy_far {w w' : World} {T : Ty} {v : Value} (h : IsTy w T v) (hb : Below w.heap.size w w') {Mn : Nat → Prop} (hM : ∀ k, Mn k → w.heap.size ≤ k) : IsTyP (fun k => ¬ Mn k) w' T v :=
  isTyP_keep hb.size (fun k hp hl => ⟨hb.block k hl, fun e => absurd (hM k e) (by omega)⟩) _ _ (isTy_isP _ _ h)
/-- A var can be made a type just if it is not within it, or the type is a var itself. -/
theorem within_can {n : Int} {T : Ty} (hT : teach T = true) (h : n ∉ tvars T [] ∨ T.op = tVar) : ∃ t, Fac t tv ∧ tsub t (tv n) = tsub t T := by
  by_cases ho : T.op = tVar
  · have e := var_form hT ho
    rw [e]
    exact ⟨fun _ => tv 0, tv_fac _, by rw [tsub_tv, tsub_tv]⟩
  · have hn : ¬ tocc n T := fun hc => (h.resolve_right ho) ((tvars_iff T [] n).2 (.inr hc))
    exact ⟨one n T, tv_fac _, by rw [tsub_tv, one_same, one_free hT hn]⟩
theorem within_no {n : Int} {T : Ty} (hT : teach T = true) (h : n ∈ tvars T [] ∧ T.op ≠ tVar) (t : Int → Ty) : ¬ (Fac t tv ∧ tsub t (tv n) = tsub t T) := fun ht => by
  have hc : tocc n T := ((tvars_iff T [] n).1 h.1).resolve_left (by simp)
  have := ht.2
  rw [tsub_tv] at this
  exact occ_no hT h.2 hc t this

theorem isTyP_txt9 {P : Nat → Prop} {w : World} {A : Ty} {v : Value} (h : IsTyP P w A v) : Em5.Txt A.op := by
  obtain ⟨op, n, l⟩ := A
  unfold IsTyP at h
  obtain ⟨a, cap, -, h1, -⟩ := h
  exact h1
theorem within_unify {w : World} {sb : Nat} {Mn : Nat → Prop} {n : Int} {T : Ty} {va vb : Value} (hU : Uf w sb 0 0 Mn 0 tv (fun _ => False)) (hT : teach T = true) (hn : 0 ≤ n ∧ n ≤ 1000) (hs : T.size ≤ 50) (hA : IsTyP (fun k => ¬ Mn k) w (tv n) va) (hB : IsTyP (fun k => ¬ Mn k) w T vb) :
    Calls Try.prog 12 #[.pointer (some ⟨sb, 0, none⟩), va, vb] w fun e w' => e = .returned (.bool (!decide (n ∈ tvars T []) || decide (T.op = tVar))) ∧ Kept Mn w w' := by
  have ht : teach (tv n) = true := by simp [tv, Em8.teach, teachs, tkids, tVar, tInt, tBool, tUnit, tString, tCell, hn.1]
  have h1 : (tv n).size = 1 := by simp [tv, Ty.size, tsizes]
  refine (uUnify_any hU ⟨by omega, by omega⟩ ht hT (by omega) (.inr uundo_any) hA hB).mono ?_
  rintro e w' ⟨hk, ⟨he, Mn', d', hU', hf, -⟩ | ⟨he, hno⟩⟩
  · refine ⟨?_, hk⟩
    have hd := (hf d').1 hU'.fac
    by_cases hm : n ∈ tvars T []
    · by_cases ho : T.op = tVar
      · rw [he]; simp [ho]
      · exact absurd hd (within_no hT ⟨hm, ho⟩ d')
    · rw [he]; simp [hm]
  · refine ⟨?_, hk⟩
    by_cases h : n ∉ tvars T [] ∨ T.op = tVar
    · obtain ⟨t, ht⟩ := within_can hT h
      exact absurd ht (hno t)
    · have h2 : n ∈ tvars T [] := Classical.not_not.1 fun e => h (.inl e)
      have h3 : T.op ≠ tVar := fun e => h (.inr e)
      rw [he]; simp [h2, h3]

set_option maxRecDepth 100000 in
set_option maxHeartbeats 8000000 in
theorem walk_unifyWithin (w : World) (v0 u : Value) (h0 : ∃ n, v0 = .int .i64 n ∧ (Lit.int .i64 n).wf = true) (hu : ∃ T, IsTy w T u) :
    Calls Try.prog 5 #[v0, u] w fun e w' => e = .returned (.bool true) ∧ Below w.heap.size w w' := by
  obtain ⟨n, rfl, -⟩ := h0
  obtain ⟨T, hu⟩ := hu
  have HU : Hid (∀ w', Below w.heap.size w w' → IsTy w' T u) := fun w' h => isTy_below h _ _ hu
  obtain ⟨op, tn, a, k, cap, rfl⟩ := isTyP_form (isTy_isP _ _ hu)
  have HOP : Hid (op = Em.str T.op) := by obtain ⟨o9, n9, l9⟩ := T; unfold IsTy at hu; obtain ⟨a9, c9, e9, -⟩ := hu; simp only [Value.agg.injEq, Array.mk.injEq, List.cons.injEq, Value.string.injEq] at e9; exact e9.1
  obtain ⟨W, hW⟩ : ∃ W, W = w.alloc (.cells #[.string op, .int .i64 tn, .slice a k cap] 25) := ⟨_, rfl⟩
  have hbW : Below w.heap.size w W := by rw [hW]; exact (Below.refl _ _).alloc (Nat.le_refl _) _
  have k0 : W.cell? ⟨w.heap.size, 0, none⟩ = some (.string op) := by rw [hW]; simp
  have k1 : W.cell? ⟨w.heap.size, 1, none⟩ = some (.int .i64 tn) := by rw [hW]; simp
  have k2 : W.cell? ⟨w.heap.size, 2, none⟩ = some (.slice a k cap) := by rw [hW]; simp
  have H3 : Hid (∀ w', Below W.heap.size W w' → w'.cell? ⟨w.heap.size, 0, none⟩ = some (.string op) ∧ w'.cell? ⟨w.heap.size, 1, none⟩ = some (.int .i64 tn) ∧ w'.cell? ⟨w.heap.size, 2, none⟩ = some (.slice a k cap)) := fun w' h => by
    have hl : w.heap.size < W.heap.size := by rw [hW]; simp
    have key : ∀ o, w'.cell? ⟨w.heap.size, o, none⟩ = W.cell? ⟨w.heap.size, o, none⟩ := fun o => h.cell (p := ⟨w.heap.size, o, none⟩) hl
    exact ⟨(key 0).trans k0, (key 1).trans k1, (key 2).trans k2⟩
  have HW : Hid (Below w.heap.size w W) := hbW
  have HWE : Hid (w.alloc (.cells #[.string op, .int .i64 tn, .slice a k cap] 25) = W) := hW.symm
  clear hW hbW hu
  go_enter Try.func5, Try.ntmps5
  go_upto_region 1 with fail
  rw [HWE.out]
  clear HWE
  by_cases hn0 : n < 0
  · go_wp2_with fail
    go_ret
    exact ⟨rfl, HW.out⟩
  by_cases hn1 : 1000 < n
  · go_wp2_with fail
    go_ret
    exact ⟨rfl, HW.out⟩
  go_wp2_with fail
  refine (rtsize_any T _ _ 100 (HU.out _ HW.out) (by omega) (by omega)).mono ?_
  rintro e w1 ⟨rfl, hb1⟩
  have HB1 : Hid (Below W.heap.size W w1) := hb1
  obtain ⟨q, hq⟩ : ∃ q, q = decide (50 < T.size) := ⟨_, rfl⟩
  have HQ : Hid (decide ((50 : Int) < ((min T.size 100 : Nat) : Int)) = q) := by rw [Hid, hq, decide_eq_decide]; omega
  have HQ1 : Hid (q = decide (50 < T.size)) := hq
  generalize min T.size 100 = z at HQ
  clear k0 k1 k2 hb1 hq
  obtain ⟨k0, k1, k2⟩ := H3.out _ HB1.out
  have hz := HQ.out
  cases q with
  | true =>
    go_wp2_with fail
    go_ret
    exact ⟨rfl, HW.out.trans (HB1.out.mono HW.out.size)⟩
  | false =>
  have HS : Hid (T.size ≤ 50) := by have := of_decide_eq_false HQ1.out.symm; show _ ≤ _; omega
  go_wp2_with fail
  refine (rtIs_any T _ _ (HU.out _ (HW.out.trans (HB1.out.mono HW.out.size)))).mono ?_
  rintro e w2 ⟨rfl, hb2⟩
  have HB2 : Hid (Below W.heap.size W w2) := HB1.out.trans (hb2.mono HB1.out.size)
  have HB2w : Hid (Below w.heap.size w w2) := HW.out.trans (HB2.out.mono HW.out.size)
  clear k0 k1 k2 hb2 hz HQ
  cases hi : isTy T with
  | false =>
    go_wp2_with fail
    go_ret
    exact ⟨rfl, HB2w.out⟩
  | true =>
  have HI : Hid (teach T = true) := isTy_teach hi
  clear hi
  go_wp2_with fail
  refine (unew_any w2).mono ?_
  rintro e w3 ⟨rfl, hb3, Mn, hU, hMn⟩
  have HU3 : Hid (Uf w3 w2.heap.size 0 0 Mn 0 tv (fun _ => False)) := hU
  have HM : Hid (∀ k, Mn k → w2.heap.size ≤ k) := fun k hk => by have := hMn k hk; omega
  have HB3 : Hid (Below w2.heap.size w2 w3) := hb3
  clear hb3 hU hMn
  have HBX : Hid (∀ w', Below w2.heap.size w2 w' → w'.cell? ⟨w.heap.size, 0, none⟩ = some (.string op) ∧ w'.cell? ⟨w.heap.size, 1, none⟩ = some (.int .i64 tn) ∧ w'.cell? ⟨w.heap.size, 2, none⟩ = some (.slice a k cap)) := fun w' h => H3.out _ (HB2.out.trans (h.mono HB2.out.size))
  have HD : Hid (∀ w', Below w2.heap.size w2 w' → IsTy w' T (.agg #[.string op, .int .i64 tn, .slice a k cap])) := fun w' h => HU.out _ (HB2w.out.trans (h.mono HB2w.out.size))
  obtain ⟨k0, k1, k2⟩ := HBX.out _ HB3.out
  go_wp2_with fail
  refine (rtVars_any T _ _ (HD.out _ HB3.out) (by have := HS.out; omega)).mono ?_
  rintro e w4 ⟨uv, rfl, hov, hiv, hb4⟩
  have HB4 : Hid (Below w2.heap.size w2 w4) := HB3.out.trans (hb4.mono HB3.out.size)
  have HU4 : Hid (Uf w4 w2.heap.size 0 0 Mn 0 tv (fun _ => False)) := HU3.out.below hb4
  have hisv := hov.is hiv
  obtain ⟨va, vc, hve⟩ := hov.form
  subst hve
  have HHS := rtHas_any _ _ n w4 hisv
  obtain ⟨r, hr⟩ : ∃ r, r = decide (n ∈ tvars T []) := ⟨_, rfl⟩
  rw [← hr] at HHS
  have HR : Hid (r = decide (n ∈ tvars T [])) := hr
  clear hb4 hov hiv hisv hr k0 k1 k2
  obtain ⟨k0, k1, k2⟩ := HBX.out _ HB4.out
  go_wp2_with fail
  refine HHS.mono ?_
  rintro e w4' ⟨rfl, rfl⟩
  clear HHS
  have HN : Hid (0 ≤ n ∧ n ≤ 1000) := ⟨by omega, by omega⟩
  obtain ⟨m, hm⟩ : ∃ m, m = decide (T.op = tVar) := ⟨_, rfl⟩
  have hq : (op.toList == [118, 97, 114]) = m := by
    rw [HOP.out, hm]
    exact (Em5.str_eq (isTyP_txt9 (isTy_isP _ _ (HD.out _ (Below.refl _ _)))).1 _).trans rfl
  have HUN : Hid (∀ w', Below w2.heap.size w2 w' → Uf w' w2.heap.size 0 0 Mn 0 tv (fun _ => False) → Calls Try.prog 12 #[.pointer (some ⟨w2.heap.size, 0, none⟩), .agg #[.string (Em.str tVar), .int .i64 n, .slice none 0 0], .agg #[.string op, .int .i64 tn, .slice a k cap]] w' fun e w'' => e = .returned (.bool (!r || m)) ∧ Below w2.heap.size w2 w'') := fun w' hb hU => by
    rw [HR.out, hm]
    refine (within_unify hU HI.out HN.out HS.out (isTyP_leaf _ _ ⟨by decide, by decide⟩ (by have := HN.out; unfold Em5.I64; omega)) (isTy_far (HD.out _ (Below.refl _ _)) hb HM.out)).mono ?_
    rintro e w'' ⟨he, hk⟩
    exact ⟨he, hb.trans (hk.below hb.size fun q hq hm => by have := HM.out q hm; omega)⟩
  have b4 : Below w2.heap.size w2 w4'.drew := HB4.out.drew
  have U4 : Hid (Uf w4'.drew w2.heap.size 0 0 Mn 0 tv (fun _ => False)) := HU4.out.below (Below.refl _ _).drew
  clear hm
  go_wp2_with fail
  cases r with
  | false =>
    refine wp_region_held_drew (S := fun w' => w'.cell? ⟨w.heap.size, 0, none⟩ = some (.string op) ∧ w'.cell? ⟨w.heap.size, 1, none⟩ = some (.int .i64 tn) ∧ w'.cell? ⟨w.heap.size, 2, none⟩ = some (.slice a k cap)) (by kernel_rfl) (HBX.out _ b4) (fun hHeld => ?_)
    refine wpAnyH_take (i := 0) (v := ?_) rfl (by kernel_rfl) (by kernel_rfl) (by kernel_rfl) (fun _ _ _ h => h) (Or.inl ⟨by rfl, ?_⟩) (by assumption) ?_
    rotate_left
    · (intro w hSw; (try dsimp only at hSw); go_simp); all_goals (with_reducible rfl)
    simp only [List.getElem_toArray, List.getElem_cons_succ, List.getElem_cons_zero, Act.put, List.setIfInBounds_toArray, List.set_cons_zero, List.set_cons_succ]
    refine wpAnyH_take (i := 1) (v := ?_) rfl (by kernel_rfl) (by kernel_rfl) (by kernel_rfl) (fun _ _ _ h => h) (Or.inl ⟨by rfl, ?_⟩) (by assumption) ?_
    rotate_left
    · (intro w hSw; (try dsimp only at hSw); go_simp); all_goals (with_reducible rfl)
    simp only [List.getElem_toArray, List.getElem_cons_succ, List.getElem_cons_zero, Act.put, List.setIfInBounds_toArray, List.set_cons_zero, List.set_cons_succ]
    refine wpAnyH_take (i := 3) (v := ?_) rfl (by kernel_rfl) (by kernel_rfl) (by kernel_rfl) (fun _ _ _ h => h) (Or.inl ⟨by rfl, ?_⟩) (by assumption) ?_
    rotate_left
    · (intro w hSw; (try dsimp only at hSw); go_simp); all_goals (with_reducible rfl)
    simp only [List.getElem_toArray, List.getElem_cons_succ, List.getElem_cons_zero, Act.put, List.setIfInBounds_toArray, List.set_cons_zero, List.set_cons_succ]
    refine wpAnyH_take (i := 5) (v := ?_) rfl (by kernel_rfl) (by kernel_rfl) (by kernel_rfl) (fun _ _ _ h => h) (Or.inl ⟨by rfl, ?_⟩) (by assumption) ?_
    rotate_left
    · (intro w hSw; (try dsimp only at hSw); go_simp); all_goals (with_reducible rfl)
    simp only [List.getElem_toArray, List.getElem_cons_succ, List.getElem_cons_zero, Act.put, List.setIfInBounds_toArray, List.set_cons_zero, List.set_cons_succ]
    refine wpAnyH_take (i := 6) (v := ?_) rfl (by kernel_rfl) (by kernel_rfl) (by kernel_rfl) (fun _ _ _ h => h) (Or.inl ⟨by rfl, ?_⟩) (by assumption) ?_
    rotate_left
    · (intro w hSw; (try dsimp only at hSw); go_simp); all_goals (with_reducible rfl)
    simp only [List.getElem_toArray, List.getElem_cons_succ, List.getElem_cons_zero, Act.put, List.setIfInBounds_toArray, List.set_cons_zero, List.set_cons_succ]
    refine wpAnyH_ready (rs := [2]) (by kernel_rfl) (by simp) (AllReadyH.cons rfl (fun K hK => ?_) AllReadyH.nil)
    go_simp
    go_at_call 21; refine (rtVar_any n _).mono ?_; rintro e x5 ⟨rfl, hc⟩; have U5 : Hid (Uf x5 w2.heap.size 0 0 Mn 0 tv (fun _ => False)) := U4.out.below hc; have b5 := b4.trans (hc.mono b4.size); clear hc
    (try dsimp only)
    refine hK.out _ _ (HBX.out _ b5) (fun hHeld => ?_)
    clear hK K
    refine wpAnyH_ready (rs := [4]) (by kernel_rfl) (by simp) (AllReadyH.cons rfl (fun K hK => ?_) AllReadyH.nil)
    go_simp
    go_at_call 12; refine (HUN.out _ b5 U5.out).mono ?_; rintro e x6 ⟨rfl, b6⟩
    (try dsimp only)
    refine hK.out _ _ (HBX.out _ b6) (fun hHeld => ?_)
    clear hK K
    refine wpAnyH_take (i := 7) (v := ?_) rfl (by kernel_rfl) (by kernel_rfl) (by kernel_rfl) (fun _ _ _ h => h) (Or.inl ⟨by rfl, ?_⟩) (by assumption) ?_
    rotate_left
    · (intro w hSw; (try dsimp only at hSw); go_simp); all_goals (with_reducible rfl)
    simp only [List.getElem_toArray, List.getElem_cons_succ, List.getElem_cons_zero, Act.put, List.setIfInBounds_toArray, List.set_cons_zero, List.set_cons_succ]
    refine wpAnyH_take (i := 8) (v := undef) rfl (by kernel_rfl) (by kernel_rfl) (by kernel_rfl) (fun _ _ _ h => h) (Or.inr ⟨by rfl, rfl⟩) (by assumption) ?_
    simp only [List.getElem_toArray, List.getElem_cons_succ, List.getElem_cons_zero, Act.put, List.setIfInBounds_toArray, List.set_cons_zero, List.set_cons_succ]
    refine wpAnyH_take (i := 9) (v := undef) rfl (by kernel_rfl) (by kernel_rfl) (by kernel_rfl) (fun _ _ _ h => h) (Or.inr ⟨by rfl, rfl⟩) (by assumption) ?_
    simp only [List.getElem_toArray, List.getElem_cons_succ, List.getElem_cons_zero, Act.put, List.setIfInBounds_toArray, List.set_cons_zero, List.set_cons_succ]
    refine wpAnyH_take (i := 10) (v := undef) rfl (by kernel_rfl) (by kernel_rfl) (by kernel_rfl) (fun _ _ _ h => h) (Or.inr ⟨by rfl, rfl⟩) (by assumption) ?_
    simp only [List.getElem_toArray, List.getElem_cons_succ, List.getElem_cons_zero, Act.put, List.setIfInBounds_toArray, List.set_cons_zero, List.set_cons_succ]
    refine wpAnyH_take (i := 11) (v := ?_) rfl (by kernel_rfl) (by kernel_rfl) (by kernel_rfl) (fun _ _ _ h => h) (Or.inl ⟨by rfl, ?_⟩) (by assumption) ?_
    rotate_left
    · (intro w hSw; (try dsimp only at hSw); go_simp); all_goals (with_reducible rfl)
    simp only [List.getElem_toArray, List.getElem_cons_succ, List.getElem_cons_zero, Act.put, List.setIfInBounds_toArray, List.set_cons_zero, List.set_cons_succ]
    refine wpAnyH_take (i := 12) (v := ?_) rfl (by kernel_rfl) (by kernel_rfl) (by kernel_rfl) (fun _ _ _ h => h) (Or.inl ⟨by rfl, ?_⟩) (by assumption) ?_
    rotate_left
    · (intro w hSw; (try dsimp only at hSw); go_simp); all_goals (with_reducible rfl)
    simp only [List.getElem_toArray, List.getElem_cons_succ, List.getElem_cons_zero, Act.put, List.setIfInBounds_toArray, List.set_cons_zero, List.set_cons_succ]
    refine wpAnyH_take (i := 13) (v := ?_) rfl (by kernel_rfl) (by kernel_rfl) (by kernel_rfl) (fun _ _ _ h => h) (Or.inl ⟨by rfl, ?_⟩) (by assumption) ?_
    rotate_left
    · (intro w hSw; (try dsimp only at hSw); go_simp); all_goals (with_reducible rfl)
    simp only [List.getElem_toArray, List.getElem_cons_succ, List.getElem_cons_zero, Act.put, List.setIfInBounds_toArray, List.set_cons_zero, List.set_cons_succ]
    refine wpAnyH_ready (rs := [14]) (by kernel_rfl) (by simp) (AllReadyH.cons rfl (fun K hK => ?_) AllReadyH.nil)
    go_simp
    go_at_call 14; refine (known9_any _).mono ?_; rintro e x7 ⟨rfl, hc⟩; have b7 := b6.trans (hc.mono b6.size); clear hc
    (try dsimp only)
    refine hK.out _ _ (HBX.out _ b7) (fun hHeld => ?_)
    clear hK K
    refine wpAnyH_take (i := 15) (v := ?_) rfl (by kernel_rfl) (by kernel_rfl) (by kernel_rfl) (fun _ _ _ h => h) (Or.inl ⟨by rfl, ?_⟩) (by assumption) ?_
    rotate_left
    · (intro w hSw; (try dsimp only at hSw); go_simp); all_goals (with_reducible rfl)
    simp only [List.getElem_toArray, List.getElem_cons_succ, List.getElem_cons_zero, Act.put, List.setIfInBounds_toArray, List.set_cons_zero, List.set_cons_succ]
    refine wpAnyH_take (i := 16) (v := ?_) rfl (by kernel_rfl) (by kernel_rfl) (by kernel_rfl) (fun _ _ _ h => h) (Or.inl ⟨by rfl, ?_⟩) (by assumption) ?_
    rotate_left
    · (intro w hSw; (try dsimp only at hSw); go_simp); all_goals (with_reducible rfl)
    simp only [List.getElem_toArray, List.getElem_cons_succ, List.getElem_cons_zero, Act.put, List.setIfInBounds_toArray, List.set_cons_zero, List.set_cons_succ]
    refine wpAnyH_done (by kernel_rfl) ?_ _
    go_wp2_with fail
    go_ret
    exact ⟨by first | rfl | simp, HB2w.out.trans (b7.mono HB2w.out.size)⟩
  | true =>
    cases m
    all_goals
      refine wp_region_held_drew (S := fun w' => w'.cell? ⟨w.heap.size, 0, none⟩ = some (.string op) ∧ w'.cell? ⟨w.heap.size, 1, none⟩ = some (.int .i64 tn) ∧ w'.cell? ⟨w.heap.size, 2, none⟩ = some (.slice a k cap)) (by kernel_rfl) (HBX.out _ b4) (fun hHeld => ?_)
      refine wpAnyH_take (i := 0) (v := ?_) rfl (by kernel_rfl) (by kernel_rfl) (by kernel_rfl) (fun _ _ _ h => h) (Or.inl ⟨by rfl, ?_⟩) (by assumption) ?_
      rotate_left
      · (intro w hSw; (try dsimp only at hSw); go_simp); all_goals (with_reducible rfl)
      simp only [List.getElem_toArray, List.getElem_cons_succ, List.getElem_cons_zero, Act.put, List.setIfInBounds_toArray, List.set_cons_zero, List.set_cons_succ]
      refine wpAnyH_take (i := 1) (v := ?_) rfl (by kernel_rfl) (by kernel_rfl) (by kernel_rfl) (fun _ _ _ h => h) (Or.inl ⟨by rfl, ?_⟩) (by assumption) ?_
      rotate_left
      · (intro w hSw; (try dsimp only at hSw); go_simp); all_goals (with_reducible rfl)
      simp only [List.getElem_toArray, List.getElem_cons_succ, List.getElem_cons_zero, Act.put, List.setIfInBounds_toArray, List.set_cons_zero, List.set_cons_succ]
      refine wpAnyH_take (i := 3) (v := ?_) rfl (by kernel_rfl) (by kernel_rfl) (by kernel_rfl) (fun _ _ _ h => h) (Or.inl ⟨by rfl, ?_⟩) (by assumption) ?_
      rotate_left
      · (intro w hSw; (try dsimp only at hSw); go_simp); all_goals (with_reducible rfl)
      simp only [List.getElem_toArray, List.getElem_cons_succ, List.getElem_cons_zero, Act.put, List.setIfInBounds_toArray, List.set_cons_zero, List.set_cons_succ]
      refine wpAnyH_take (i := 5) (v := ?_) rfl (by kernel_rfl) (by kernel_rfl) (by kernel_rfl) (fun _ _ _ h => h) (Or.inl ⟨by rfl, ?_⟩) (by assumption) ?_
      rotate_left
      · (intro w hSw; (try dsimp only at hSw); go_simp); all_goals (with_reducible rfl)
      simp only [List.getElem_toArray, List.getElem_cons_succ, List.getElem_cons_zero, Act.put, List.setIfInBounds_toArray, List.set_cons_zero, List.set_cons_succ]
      refine wpAnyH_take (i := 6) (v := ?_) rfl (by kernel_rfl) (by kernel_rfl) (by kernel_rfl) (fun _ _ _ h => h) (Or.inl ⟨by rfl, ?_⟩) (by assumption) ?_
      rotate_left
      · (intro w hSw; (try dsimp only at hSw); go_simp); all_goals (with_reducible rfl)
      simp only [List.getElem_toArray, List.getElem_cons_succ, List.getElem_cons_zero, Act.put, List.setIfInBounds_toArray, List.set_cons_zero, List.set_cons_succ]
      refine wpAnyH_ready (rs := [2]) (by kernel_rfl) (by simp) (AllReadyH.cons rfl (fun K hK => ?_) AllReadyH.nil)
      go_simp
      go_at_call 21; refine (rtVar_any n _).mono ?_; rintro e x5 ⟨rfl, hc⟩; have U5 : Hid (Uf x5 w2.heap.size 0 0 Mn 0 tv (fun _ => False)) := U4.out.below hc; have b5 := b4.trans (hc.mono b4.size); clear hc
      (try dsimp only)
      refine hK.out _ _ (HBX.out _ b5) (fun hHeld => ?_)
      clear hK K
      refine wpAnyH_ready (rs := [4]) (by kernel_rfl) (by simp) (AllReadyH.cons rfl (fun K hK => ?_) AllReadyH.nil)
      go_simp
      go_at_call 12; refine (HUN.out _ b5 U5.out).mono ?_; rintro e x6 ⟨rfl, b6⟩
      (try dsimp only)
      refine hK.out _ _ (HBX.out _ b6) (fun hHeld => ?_)
      clear hK K
      refine wpAnyH_take (i := 7) (v := ?_) rfl (by kernel_rfl) (by kernel_rfl) (by kernel_rfl) (fun _ _ _ h => h) (Or.inl ⟨by rfl, ?_⟩) (by assumption) ?_
      rotate_left
      · (intro w hSw; (try dsimp only at hSw); go_simp); all_goals (with_reducible rfl)
      simp only [List.getElem_toArray, List.getElem_cons_succ, List.getElem_cons_zero, Act.put, List.setIfInBounds_toArray, List.set_cons_zero, List.set_cons_succ]
      refine wpAnyH_take (i := 8) (v := ?_) rfl (by kernel_rfl) (by kernel_rfl) (by kernel_rfl) (fun _ _ _ h => h) (Or.inl ⟨by rfl, ?_⟩) (by assumption) ?_
      rotate_left
      · (intro w hSw; (try dsimp only at hSw); go_simp); all_goals (with_reducible rfl)
      simp only [List.getElem_toArray, List.getElem_cons_succ, List.getElem_cons_zero, Act.put, List.setIfInBounds_toArray, List.set_cons_zero, List.set_cons_succ]
      refine wpAnyH_take (i := 9) (v := ?_) rfl (by kernel_rfl) (by kernel_rfl) (by kernel_rfl) (fun _ _ _ h => h) (Or.inl ⟨by rfl, ?_⟩) (by assumption) ?_
      rotate_left
      · (intro w hSw; (try dsimp only at hSw); go_simp); all_goals (with_reducible rfl)
      simp only [List.getElem_toArray, List.getElem_cons_succ, List.getElem_cons_zero, Act.put, List.setIfInBounds_toArray, List.set_cons_zero, List.set_cons_succ]
      refine wpAnyH_take (i := 10) (v := ?_) rfl (by kernel_rfl) (by kernel_rfl) (by kernel_rfl) (fun _ _ _ h => h) (Or.inl ⟨by rfl, ?_⟩) (by assumption) ?_
      rotate_left
      · (intro w hSw; (try dsimp only at hSw); go_simp); all_goals (with_reducible rfl)
      simp only [List.getElem_toArray, List.getElem_cons_succ, List.getElem_cons_zero, Act.put, List.setIfInBounds_toArray, List.set_cons_zero, List.set_cons_succ]
      refine wpAnyH_take (i := 11) (v := ?_) rfl (by kernel_rfl) (by kernel_rfl) (by kernel_rfl) (fun _ _ _ h => h) (Or.inl ⟨by rfl, ?_⟩) (by assumption) ?_
      rotate_left
      · (intro w hSw; (try dsimp only at hSw); go_simp); all_goals (with_reducible rfl)
      simp only [List.getElem_toArray, List.getElem_cons_succ, List.getElem_cons_zero, Act.put, List.setIfInBounds_toArray, List.set_cons_zero, List.set_cons_succ]
      refine wpAnyH_take (i := 12) (v := ?_) rfl (by kernel_rfl) (by kernel_rfl) (by kernel_rfl) (fun _ _ _ h => h) (Or.inl ⟨by rfl, ?_⟩) (by assumption) ?_
      rotate_left
      · (intro w hSw; (try dsimp only at hSw); go_simp); all_goals (with_reducible rfl)
      simp only [List.getElem_toArray, List.getElem_cons_succ, List.getElem_cons_zero, Act.put, List.setIfInBounds_toArray, List.set_cons_zero, List.set_cons_succ]
      refine wpAnyH_take (i := 13) (v := ?_) rfl (by kernel_rfl) (by kernel_rfl) (by kernel_rfl) (fun _ _ _ h => h) (Or.inl ⟨by rfl, ?_⟩) (by assumption) ?_
      rotate_left
      · (intro w hSw; (try dsimp only at hSw); go_simp); all_goals (with_reducible rfl)
      simp only [List.getElem_toArray, List.getElem_cons_succ, List.getElem_cons_zero, Act.put, List.setIfInBounds_toArray, List.set_cons_zero, List.set_cons_succ]
      refine wpAnyH_ready (rs := [14]) (by kernel_rfl) (by simp) (AllReadyH.cons rfl (fun K hK => ?_) AllReadyH.nil)
      go_simp
      go_at_call 14; refine (known9_any _).mono ?_; rintro e x7 ⟨rfl, hc⟩; have b7 := b6.trans (hc.mono b6.size); clear hc
      (try dsimp only)
      refine hK.out _ _ (HBX.out _ b7) (fun hHeld => ?_)
      clear hK K
      refine wpAnyH_take (i := 15) (v := ?_) rfl (by kernel_rfl) (by kernel_rfl) (by kernel_rfl) (fun _ _ _ h => h) (Or.inl ⟨by rfl, ?_⟩) (by assumption) ?_
      rotate_left
      · (intro w hSw; (try dsimp only at hSw); go_simp); all_goals (with_reducible rfl)
      simp only [List.getElem_toArray, List.getElem_cons_succ, List.getElem_cons_zero, Act.put, List.setIfInBounds_toArray, List.set_cons_zero, List.set_cons_succ]
      refine wpAnyH_take (i := 16) (v := ?_) rfl (by kernel_rfl) (by kernel_rfl) (by kernel_rfl) (fun _ _ _ h => h) (Or.inl ⟨by rfl, ?_⟩) (by assumption) ?_
      rotate_left
      · (intro w hSw; (try dsimp only at hSw); go_simp); all_goals (with_reducible rfl)
      simp only [List.getElem_toArray, List.getElem_cons_succ, List.getElem_cons_zero, Act.put, List.setIfInBounds_toArray, List.set_cons_zero, List.set_cons_succ]
      refine wpAnyH_done (by kernel_rfl) ?_ _
      go_wp2_with fail
      go_ret
      exact ⟨by first | rfl | simp, HB2w.out.trans (b7.mono HB2w.out.size)⟩

theorem unifyWithin_own : ownKnob Try.prog.godebug = none := by kernel_rfl
theorem unifyWithin_laidOut : laidOutB Try.prog = true := by kernel_rfl
set_option maxRecDepth 100000 in
theorem unifyWithin_lifted (os : Os) (started : os.Started) (H : Type) (enc : TypeId × Value → H) :
    ReturnsInHanded {} Try.checked os 5 .any (Rows.unifyWithinSpec.pre6 enc Try.prog Try.f5 Rows.unifyWithinRow.domain false) (Rows.unifyWithinSpec.post enc Try.prog Try.f5 false true false false) := by
  refine returnsInHanded_of_change_sized (C := Try.checked) unifyWithin_own started (by kernel_rfl) Try.func5
    (ChangeSpec.witness6 (enc := enc) (C := Try.checked) false ⟨#[], #[.int .i64 0, .agg #[.string ByteArray.empty, .int .i64 0, .slice none 0 0]], []⟩ 8 (by kernel_rfl) (by kernel_rfl) (by kernel_rfl) (by kernel_rfl)) ?_
  intro W base args ds gs before hval0 hW hcnd hsz0 _
  have hval : ∀ (j : Nat) t v, Try.f5.params[j]? = some t → args[j]? = some v → Value.okWide Try.prog W .any base t v := hval0
  have hW' := hW
  obtain ⟨p, q, hA0, hV, rfl, hfz, hnd⟩ := hW
  have hA : DataW.TrodAll enc Try.prog W 0 (fun _ => true) true Try.f5.params.toList args.toList ds p := hA0
  have hsz : (DataW.weightsEach Try.prog (Try.f5.params.toList ++ Rows.unifyWithinSpec.plain.varTypes Try.prog) (ds ++ gs)).all (· ≤ reachBytes) = true := hsz0
  rw [Try.params5] at hA hval hsz
  obtain ⟨v0, vs0, d0, ds0, p0, q0, hargs, rfl, rfl, h0, r0⟩ := trodAll_cons hA
  obtain ⟨v1, vs1, d1, ds1, p1, q1, rfl, rfl, rfl, h1, r1⟩ := trodAll_cons r0
  obtain ⟨rfl, rfl, rfl⟩ := trodAll_nil r1
  obtain rfl : args = #[v0, v1] := by cases args; simp_all
  obtain ⟨rfl, rfl⟩ := trodVars_none hV
  have lt0 : ∀ x ∈ p0, x.block < W.heap.size := by obtain ⟨m, hm⟩ := h0; exact DataW.trod_lt m _ _ _ hm
  have o0 := Em.open_int Try.underlying3 (hval 0 3 v0 rfl rfl) h0
  have lt1 : ∀ x ∈ p1, x.block < W.heap.size := by obtain ⟨m, hm⟩ := h1; exact DataW.trod_lt m _ _ _ hm
  have o1 := open_ty (hval 1 25 v1 rfl rfl) h1 (Em.sized_arg hsz 1 rfl rfl)
  clear hsz0 hsz
  clear hA0 hval0
  refine (walk_unifyWithin W v0 v1 o0 o1).mono fun e W' ⟨he, bel⟩ => ?_
  subst he
  exact ⟨_, rfl, _, _, _, [], _, [], hW', trodAll_mk1 (shut_bool Try.underlying4 _), (trodAll_cons_mk (Below.trod unifyWithin_laidOut (by kernel_rfl) (of_decide_eq_true (by kernel_rfl)) h0 bel lt0) (trodAll_cons_mk (Below.trod unifyWithin_laidOut (by kernel_rfl) (of_decide_eq_true (by kernel_rfl)) h1 bel lt1) trodAll_mk0)), rfl, bel.frame _, fun h => by cases h⟩
theorem unifyWithin_holds : Rows.UnifyWithinSaid :=
  OpenClaim.holds_of_wide 5 Try.f5 rfl rfl rfl rfl rfl rfl rfl ⟨rfl, rfl, rfl, rfl, rfl⟩ rfl rfl rfl rfl rfl (by kernel_rfl) Try.func5 (by kernel_rfl)
    (of_decide_eq_true (by kernel_rfl)) (by unfold Func.isWrapper; first | (rw [if_pos (by decide +kernel)]; kernel_rfl) | (rw [if_neg (by decide +kernel)]; exact ⟨rfl, rfl⟩))
    (fun os started H enc _ => unifyWithin_lifted os started H enc)
#print axioms unifyWithin_holds
end Go.Proofs.Ytadhjnbhcenocaa

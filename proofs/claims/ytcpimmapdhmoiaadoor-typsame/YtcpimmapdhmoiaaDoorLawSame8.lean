/- TypSame: of two types of at most 300 nodes each the program answers as the document does whether they are one, and if both are types their texts are one just if they are. No condition but that the tables that the program reads hold what their initialisers lay, to which the card ties them. -/
import Derived.Test.YtcpimmapdhmoiaaDoorRows
import Derived.Test.YtcpimmapdhmoiaaDoorCards
import Derived.Test.YtcpimmapdhmoiaaDoorTie
import Derived.Test.YtcpimmapdhmoiaaDoorLaid8
import Derived.Test.YtcpimmapdhmoiaaDoorKnown8
import Derived.Test.YtcpimmapdhmoiaaDoorTypS
import Derived.Test.YtcpimmapdhmoiaaDoorMath8d
import Derived.Test.YtcpimmapdhmoiaaDoorFrame
import Derived.Test.YtcpimmapdhmoiaaDoorFrame2
import Derived.Test.YtcpimmapdhmoiaaDoorFrameT
import Derived.Deep.RegionHeld
namespace Go.Proofs.YtcpimmapdhmoiaaDoor
open Go.ChangeShapes Go.WideShapes Go.ChangeAt Go.RowKit Go.Em8
set_option linter.unusedVariables false
set_option linter.unusedSimpArgs false

theorem isTy_teach {T : Ty} (h : isTy T = true) : teach T = true := by
  unfold isTy at h
  simp only [Bool.and_eq_true] at h
  exact h.2
theorem show_iff {S T : Ty} (hs : teach S = true) (ht : teach T = true) : ((Em.str (tshow S)).toList == (Em.str (tshow T)).toList) = tsame S T := by
  rw [(Em.isStr_str (tshow_mem S hs)).beq (Em.isStr_str (tshow_mem T ht)), Bool.eq_iff_iff, decide_eq_true_iff, tsame_iff]
  exact ⟨tshow_inj hs ht, fun e => by rw [e]⟩

set_option maxRecDepth 100000 in
set_option maxHeartbeats 8000000 in
theorem walk_typSame (w : World) (u v : Value) (hu : ∃ T, IsTy w T u) (hv : ∃ T, IsTy w T v) (hp : IsPow w) :
    Calls Tryd.prog 4 #[u, v] w fun e w' => e = .returned (.bool true) ∧ Below w.heap.size w w' := by
  obtain ⟨S, hu⟩ := hu
  obtain ⟨T, hv⟩ := hv
  have HPA : Hid (∀ w', Below w.heap.size w w' → IsPow w') := fun w' h => hp.below h
  have HU : Hid (∀ w', Below w.heap.size w w' → IsTy w' S u) := fun w' h => isTy_below h _ _ hu
  have HV : Hid (∀ w', Below w.heap.size w w' → IsTy w' T v) := fun w' h => isTy_below h _ _ hv
  obtain ⟨op, n, a, k, cap, rfl⟩ := isTyP_form (isTy_isP _ _ hu)
  obtain ⟨op', n', a', k', cap', rfl⟩ := isTyP_form (isTy_isP _ _ hv)
  obtain ⟨W, hW⟩ : ∃ W, W = (w.alloc (.cells #[.string op, .int .i64 n, .slice a k cap] 24)).alloc (.cells #[.string op', .int .i64 n', .slice a' k' cap'] 24) := ⟨_, rfl⟩
  have hbW : Below w.heap.size w W := by rw [hW]; exact ((Below.refl _ _).alloc (Nat.le_refl _) _).alloc (by simp) _
  have e1 : (w.alloc (.cells #[.string op, .int .i64 n, .slice a k cap] 24)).heap.size = w.heap.size + 1 := by simp
  have h3 : Tri W w.heap.size (.string op) (.int .i64 n) (.slice a k cap) := by
    rw [hW]; exact (Tri.made _ _ _ _ _).below ((Below.refl _ _).alloc (Nat.le_refl _) _)
  have h4 : Tri W (w.heap.size + 1) (.string op') (.int .i64 n') (.slice a' k' cap') := by rw [hW, ← e1]; exact Tri.made _ _ _ _ _
  have H3 : Hid (∀ w', Below W.heap.size W w' → Tri w' w.heap.size (.string op) (.int .i64 n) (.slice a k cap)) := fun w' h => h3.below h
  have H4 : Hid (∀ w', Below W.heap.size W w' → Tri w' (w.heap.size + 1) (.string op') (.int .i64 n') (.slice a' k' cap')) := fun w' h => h4.below h
  have HW : Hid (Below w.heap.size w W) := hbW
  have HWE : Hid ((w.alloc (.cells #[.string op, .int .i64 n, .slice a k cap] 24)).alloc (.cells #[.string op', .int .i64 n', .slice a' k' cap'] 24) = W) := hW.symm
  obtain ⟨g0, g1, g2⟩ := h3
  clear hW hbW hp hu hv h4 e1
  go_enter Tryd.func4, Tryd.ntmps4
  go_upto_region 1 with fail
  rw [HWE.out]
  clear HWE
  go_wp2_with fail
  refine (ylong_any S _ _ (HU.out _ HW.out)).mono ?_
  rintro e w1 ⟨rfl, hb1⟩
  have hbw1 : Below w.heap.size w w1 := HW.out.trans (hb1.mono HW.out.size)
  clear g0 g1 g2
  by_cases h300 : 300 < S.size
  · rw [decide_eq_true h300]
    clear h300
    go_wp2_with fail
    go_ret
    exact ⟨rfl, hbw1⟩
  rw [decide_eq_false h300]
  have HSS : Hid (S.size ≤ 1000000) := by rw [Hid]; omega
  clear h300
  obtain ⟨k0, k1, k2⟩ := H4.out _ hb1
  go_wp2_with fail
  refine (ylong_any T _ _ (HV.out _ hbw1)).mono ?_
  rintro e w2 ⟨rfl, hb2⟩
  have hb2' : Below W.heap.size W w2 := hb1.trans (hb2.mono hb1.size)
  have hbw2 : Below w.heap.size w w2 := HW.out.trans (hb2'.mono HW.out.size)
  clear k0 k1 k2 hb1 hbw1 hb2
  by_cases h300 : 300 < T.size
  · rw [decide_eq_true h300]
    clear h300
    go_wp2_with fail
    go_ret
    exact ⟨rfl, hbw2⟩
  rw [decide_eq_false h300]
  have HTS : Hid (T.size ≤ 1000000) := by rw [Hid]; omega
  clear h300
  have HB2 : Hid (Below w.heap.size w w2) := hbw2
  have HX : Hid (Below W.heap.size W w2) := hb2'
  have HSM : Hid (tsame S S = true) := (tsame_iff _ _).2 rfl
  obtain ⟨zz, hzz⟩ : ∃ zz, zz = tsame S T := ⟨_, rfl⟩
  have HQ : Hid (tsame S T = zz) := hzz.symm
  have HS : Hid (∀ w', Below w2.heap.size w2 w' → w'.cell? ⟨w.heap.size, 0, none⟩ = some (.string op) ∧ w'.cell? ⟨w.heap.size, 1, none⟩ = some (.int .i64 n) ∧ w'.cell? ⟨w.heap.size, 2, none⟩ = some (.slice a k cap) ∧ w'.cell? ⟨w.heap.size + 1, 0, none⟩ = some (.string op') ∧ w'.cell? ⟨w.heap.size + 1, 1, none⟩ = some (.int .i64 n') ∧ w'.cell? ⟨w.heap.size + 1, 2, none⟩ = some (.slice a' k' cap')) := fun w' h => by
    obtain ⟨e0, e1, e2⟩ := (H3.out _ HX.out).below h
    obtain ⟨f0, f1, f2⟩ := (H4.out _ HX.out).below h
    exact ⟨e0, e1, e2, f0, f1, f2⟩
  have HDU : Hid (∀ w', Below w2.heap.size w2 w' → IsTy w' S (.agg #[.string op, .int .i64 n, .slice a k cap])) := fun w' h => HU.out _ (HB2.out.trans (h.mono HB2.out.size))
  have HDV : Hid (∀ w', Below w2.heap.size w2 w' → IsTy w' T (.agg #[.string op', .int .i64 n', .slice a' k' cap'])) := fun w' h => HV.out _ (HB2.out.trans (h.mono HB2.out.size))
  have HPB : Hid (∀ w', Below w2.heap.size w2 w' → IsPow w') := fun w' h => HPA.out _ (HB2.out.trans (h.mono HB2.out.size))
  have b0 : Below w2.heap.size w2 w2.drew := (Below.refl _ _).drew
  clear hb2' hbw2 hzz
  cases zz
  all_goals
    go_wp2_with fail
    go_region_held (fun w' => w'.cell? ⟨w.heap.size, 0, none⟩ = some (.string op) ∧ w'.cell? ⟨w.heap.size, 1, none⟩ = some (.int .i64 n) ∧ w'.cell? ⟨w.heap.size, 2, none⟩ = some (.slice a k cap) ∧ w'.cell? ⟨w.heap.size + 1, 0, none⟩ = some (.string op') ∧ w'.cell? ⟨w.heap.size + 1, 1, none⟩ = some (.int .i64 n') ∧ w'.cell? ⟨w.heap.size + 1, 2, none⟩ = some (.slice a' k' cap'))
      (with_reducible (first | exact HS.out _ b3 | exact HS.out _ b2 | exact HS.out _ b1 | exact HS.out _ b0))
      (first | (go_at_call 22; have bq := b2; clear bq; refine (ySame_any S S _ _ _ (HDU.out _ b2) (HDU.out _ b2)).mono ?_; rintro e x3 ⟨rfl, hc⟩; rw [HSM.out]; have b3 := b2.trans (hc.mono b2.size); clear hc) | (go_at_call 22; refine (ySame_any S T _ _ _ (HDU.out _ b0) (HDV.out _ b0)).mono ?_; rintro e x1 ⟨rfl, hc⟩; rw [HQ.out]; have b1 := b0.trans (hc.mono b0.size); clear hc) | (go_at_call 15; refine (rtSame_any S T _ _ _ (HDU.out _ b1) (HDV.out _ b1)).mono ?_; rintro e x2 ⟨rfl, hc⟩; rw [HQ.out]; have b2 := b1.trans (hc.mono b1.size); clear hc))
    all_goals
      have b4 := b3.drew
      have HB3 : Hid (Below w2.heap.size w2 x3) := b3
      clear b0 b1 b2 b3
      cases hi : isTy S with
      | false =>
        have HI : Hid (isTy S = false) := hi
        clear hi
        go_wp2_with fail
        refine wp_region_held_drew (S := (fun w' => w'.cell? ⟨w.heap.size, 0, none⟩ = some (.string op) ∧ w'.cell? ⟨w.heap.size, 1, none⟩ = some (.int .i64 n) ∧ w'.cell? ⟨w.heap.size, 2, none⟩ = some (.slice a k cap) ∧ w'.cell? ⟨w.heap.size + 1, 0, none⟩ = some (.string op') ∧ w'.cell? ⟨w.heap.size + 1, 1, none⟩ = some (.int .i64 n') ∧ w'.cell? ⟨w.heap.size + 1, 2, none⟩ = some (.slice a' k' cap'))) (by kernel_rfl) (HS.out _ b4) (fun hHeld => ?_)
        refine wpAnyH_take (i := 0) (v := ?_) rfl (by kernel_rfl) (by kernel_rfl) (by kernel_rfl) (fun _ _ _ h => h) (Or.inl ⟨by rfl, ?_⟩) (by assumption) ?_
        rotate_left
        · (intro w hSw; (try dsimp only at hSw); go_simp); all_goals (with_reducible rfl)
        simp only [List.getElem_toArray, List.getElem_cons_succ, List.getElem_cons_zero, Act.put, List.setIfInBounds_toArray, List.set_cons_zero, List.set_cons_succ]
        refine wpAnyH_ready (rs := [1]) (by kernel_rfl) (by simp) (AllReadyH.cons rfl (fun K hK => ?_) AllReadyH.nil)
        go_simp
        go_at_call 9; refine (rtIs_any S _ _ (HDU.out _ b4)).mono ?_; rintro e x5 ⟨rfl, hc⟩; rw [HI.out]; have b5 := b4.trans (hc.mono b4.size); clear hc
        (try dsimp only)
        refine hK.out _ _ (HS.out _ b5) (fun hHeld => ?_)
        clear hK K
        refine wpAnyH_take (i := 2) (v := ?_) rfl (by kernel_rfl) (by kernel_rfl) (by kernel_rfl) (fun _ _ _ h => h) (Or.inl ⟨by rfl, ?_⟩) (by assumption) ?_
        rotate_left
        · (intro w hSw; (try dsimp only at hSw); go_simp); all_goals (with_reducible rfl)
        simp only [List.getElem_toArray, List.getElem_cons_succ, List.getElem_cons_zero, Act.put, List.setIfInBounds_toArray, List.set_cons_zero, List.set_cons_succ]
        refine wpAnyH_take (i := 3) (v := ?_) rfl (by kernel_rfl) (by kernel_rfl) (by kernel_rfl) (fun _ _ _ h => h) (Or.inl ⟨by rfl, ?_⟩) (by assumption) ?_
        rotate_left
        · (intro w hSw; (try dsimp only at hSw); go_simp); all_goals (with_reducible rfl)
        simp only [List.getElem_toArray, List.getElem_cons_succ, List.getElem_cons_zero, Act.put, List.setIfInBounds_toArray, List.set_cons_zero, List.set_cons_succ]
        refine wpAnyH_take (i := 4) (v := undef) rfl (by kernel_rfl) (by kernel_rfl) (by kernel_rfl) (fun _ _ _ h => h) (Or.inr ⟨by rfl, rfl⟩) (by assumption) ?_
        simp only [List.getElem_toArray, List.getElem_cons_succ, List.getElem_cons_zero, Act.put, List.setIfInBounds_toArray, List.set_cons_zero, List.set_cons_succ]
        refine wpAnyH_take (i := 5) (v := undef) rfl (by kernel_rfl) (by kernel_rfl) (by kernel_rfl) (fun _ _ _ h => h) (Or.inr ⟨by rfl, rfl⟩) (by assumption) ?_
        simp only [List.getElem_toArray, List.getElem_cons_succ, List.getElem_cons_zero, Act.put, List.setIfInBounds_toArray, List.set_cons_zero, List.set_cons_succ]
        refine wpAnyH_take (i := 6) (v := undef) rfl (by kernel_rfl) (by kernel_rfl) (by kernel_rfl) (fun _ _ _ h => h) (Or.inr ⟨by rfl, rfl⟩) (by assumption) ?_
        simp only [List.getElem_toArray, List.getElem_cons_succ, List.getElem_cons_zero, Act.put, List.setIfInBounds_toArray, List.set_cons_zero, List.set_cons_succ]
        refine wpAnyH_take (i := 7) (v := ?_) rfl (by kernel_rfl) (by kernel_rfl) (by kernel_rfl) (fun _ _ _ h => h) (Or.inl ⟨by rfl, ?_⟩) (by assumption) ?_
        rotate_left
        · (intro w hSw; (try dsimp only at hSw); go_simp); all_goals (with_reducible rfl)
        simp only [List.getElem_toArray, List.getElem_cons_succ, List.getElem_cons_zero, Act.put, List.setIfInBounds_toArray, List.set_cons_zero, List.set_cons_succ]
        refine wpAnyH_take (i := 8) (v := ?_) rfl (by kernel_rfl) (by kernel_rfl) (by kernel_rfl) (fun _ _ _ h => h) (Or.inl ⟨by rfl, ?_⟩) (by assumption) ?_
        rotate_left
        · (intro w hSw; (try dsimp only at hSw); go_simp); all_goals (with_reducible rfl)
        simp only [List.getElem_toArray, List.getElem_cons_succ, List.getElem_cons_zero, Act.put, List.setIfInBounds_toArray, List.set_cons_zero, List.set_cons_succ]
        refine wpAnyH_take (i := 9) (v := undef) rfl (by kernel_rfl) (by kernel_rfl) (by kernel_rfl) (fun _ _ _ h => h) (Or.inr ⟨by rfl, rfl⟩) (by assumption) ?_
        simp only [List.getElem_toArray, List.getElem_cons_succ, List.getElem_cons_zero, Act.put, List.setIfInBounds_toArray, List.set_cons_zero, List.set_cons_succ]
        refine wpAnyH_take (i := 10) (v := undef) rfl (by kernel_rfl) (by kernel_rfl) (by kernel_rfl) (fun _ _ _ h => h) (Or.inr ⟨by rfl, rfl⟩) (by assumption) ?_
        simp only [List.getElem_toArray, List.getElem_cons_succ, List.getElem_cons_zero, Act.put, List.setIfInBounds_toArray, List.set_cons_zero, List.set_cons_succ]
        refine wpAnyH_take (i := 11) (v := undef) rfl (by kernel_rfl) (by kernel_rfl) (by kernel_rfl) (fun _ _ _ h => h) (Or.inr ⟨by rfl, rfl⟩) (by assumption) ?_
        simp only [List.getElem_toArray, List.getElem_cons_succ, List.getElem_cons_zero, Act.put, List.setIfInBounds_toArray, List.set_cons_zero, List.set_cons_succ]
        refine wpAnyH_take (i := 12) (v := undef) rfl (by kernel_rfl) (by kernel_rfl) (by kernel_rfl) (fun _ _ _ h => h) (Or.inr ⟨by rfl, rfl⟩) (by assumption) ?_
        simp only [List.getElem_toArray, List.getElem_cons_succ, List.getElem_cons_zero, Act.put, List.setIfInBounds_toArray, List.set_cons_zero, List.set_cons_succ]
        refine wpAnyH_take (i := 13) (v := undef) rfl (by kernel_rfl) (by kernel_rfl) (by kernel_rfl) (fun _ _ _ h => h) (Or.inr ⟨by rfl, rfl⟩) (by assumption) ?_
        simp only [List.getElem_toArray, List.getElem_cons_succ, List.getElem_cons_zero, Act.put, List.setIfInBounds_toArray, List.set_cons_zero, List.set_cons_succ]
        refine wpAnyH_take (i := 14) (v := undef) rfl (by kernel_rfl) (by kernel_rfl) (by kernel_rfl) (fun _ _ _ h => h) (Or.inr ⟨by rfl, rfl⟩) (by assumption) ?_
        simp only [List.getElem_toArray, List.getElem_cons_succ, List.getElem_cons_zero, Act.put, List.setIfInBounds_toArray, List.set_cons_zero, List.set_cons_succ]
        refine wpAnyH_take (i := 15) (v := undef) rfl (by kernel_rfl) (by kernel_rfl) (by kernel_rfl) (fun _ _ _ h => h) (Or.inr ⟨by rfl, rfl⟩) (by assumption) ?_
        simp only [List.getElem_toArray, List.getElem_cons_succ, List.getElem_cons_zero, Act.put, List.setIfInBounds_toArray, List.set_cons_zero, List.set_cons_succ]
        refine wpAnyH_take (i := 16) (v := undef) rfl (by kernel_rfl) (by kernel_rfl) (by kernel_rfl) (fun _ _ _ h => h) (Or.inr ⟨by rfl, rfl⟩) (by assumption) ?_
        simp only [List.getElem_toArray, List.getElem_cons_succ, List.getElem_cons_zero, Act.put, List.setIfInBounds_toArray, List.set_cons_zero, List.set_cons_succ]
        refine wpAnyH_take (i := 17) (v := undef) rfl (by kernel_rfl) (by kernel_rfl) (by kernel_rfl) (fun _ _ _ h => h) (Or.inr ⟨by rfl, rfl⟩) (by assumption) ?_
        simp only [List.getElem_toArray, List.getElem_cons_succ, List.getElem_cons_zero, Act.put, List.setIfInBounds_toArray, List.set_cons_zero, List.set_cons_succ]
        refine wpAnyH_take (i := 18) (v := ?_) rfl (by kernel_rfl) (by kernel_rfl) (by kernel_rfl) (fun _ _ _ h => h) (Or.inl ⟨by rfl, ?_⟩) (by assumption) ?_
        rotate_left
        · (intro w hSw; (try dsimp only at hSw); go_simp); all_goals (with_reducible rfl)
        simp only [List.getElem_toArray, List.getElem_cons_succ, List.getElem_cons_zero, Act.put, List.setIfInBounds_toArray, List.set_cons_zero, List.set_cons_succ]
        refine wpAnyH_take (i := 19) (v := ?_) rfl (by kernel_rfl) (by kernel_rfl) (by kernel_rfl) (fun _ _ _ h => h) (Or.inl ⟨by rfl, ?_⟩) (by assumption) ?_
        rotate_left
        · (intro w hSw; (try dsimp only at hSw); go_simp); all_goals (with_reducible rfl)
        simp only [List.getElem_toArray, List.getElem_cons_succ, List.getElem_cons_zero, Act.put, List.setIfInBounds_toArray, List.set_cons_zero, List.set_cons_succ]
        refine wpAnyH_ready (rs := [20]) (by kernel_rfl) (by simp) (AllReadyH.cons rfl (fun K hK => ?_) AllReadyH.nil)
        go_simp
        go_at_call 11; refine (known8_any _ (HPB.out _ b5)).mono ?_; rintro e x9 ⟨rfl, hc⟩; have b9 := b5.trans (hc.mono b5.size); clear hc
        (try dsimp only)
        refine hK.out _ _ (HS.out _ b9) (fun hHeld => ?_)
        clear hK K
        refine wpAnyH_take (i := 21) (v := ?_) rfl (by kernel_rfl) (by kernel_rfl) (by kernel_rfl) (fun _ _ _ h => h) (Or.inl ⟨by rfl, ?_⟩) (by assumption) ?_
        rotate_left
        · (intro w hSw; (try dsimp only at hSw); go_simp); all_goals (with_reducible rfl)
        simp only [List.getElem_toArray, List.getElem_cons_succ, List.getElem_cons_zero, Act.put, List.setIfInBounds_toArray, List.set_cons_zero, List.set_cons_succ]
        refine wpAnyH_take (i := 22) (v := ?_) rfl (by kernel_rfl) (by kernel_rfl) (by kernel_rfl) (fun _ _ _ h => h) (Or.inl ⟨by rfl, ?_⟩) (by assumption) ?_
        rotate_left
        · (intro w hSw; (try dsimp only at hSw); go_simp); all_goals (with_reducible rfl)
        simp only [List.getElem_toArray, List.getElem_cons_succ, List.getElem_cons_zero, Act.put, List.setIfInBounds_toArray, List.set_cons_zero, List.set_cons_succ]
        refine wpAnyH_done (by kernel_rfl) ?_ _
        all_goals
          go_wp2_with fail
          go_ret
          exact ⟨rfl, HB2.out.trans (b9.mono HB2.out.size)⟩
      | true =>
        cases hj : isTy T with
        | false =>
          have HI : Hid (isTy S = true ∧ isTy T = false) := ⟨hi, hj⟩
          clear hi hj
          go_wp2_with fail
          refine wp_region_held_drew (S := (fun w' => w'.cell? ⟨w.heap.size, 0, none⟩ = some (.string op) ∧ w'.cell? ⟨w.heap.size, 1, none⟩ = some (.int .i64 n) ∧ w'.cell? ⟨w.heap.size, 2, none⟩ = some (.slice a k cap) ∧ w'.cell? ⟨w.heap.size + 1, 0, none⟩ = some (.string op') ∧ w'.cell? ⟨w.heap.size + 1, 1, none⟩ = some (.int .i64 n') ∧ w'.cell? ⟨w.heap.size + 1, 2, none⟩ = some (.slice a' k' cap'))) (by kernel_rfl) (HS.out _ b4) (fun hHeld => ?_)
          refine wpAnyH_take (i := 0) (v := ?_) rfl (by kernel_rfl) (by kernel_rfl) (by kernel_rfl) (fun _ _ _ h => h) (Or.inl ⟨by rfl, ?_⟩) (by assumption) ?_
          rotate_left
          · (intro w hSw; (try dsimp only at hSw); go_simp); all_goals (with_reducible rfl)
          simp only [List.getElem_toArray, List.getElem_cons_succ, List.getElem_cons_zero, Act.put, List.setIfInBounds_toArray, List.set_cons_zero, List.set_cons_succ]
          refine wpAnyH_ready (rs := [1]) (by kernel_rfl) (by simp) (AllReadyH.cons rfl (fun K hK => ?_) AllReadyH.nil)
          go_simp
          go_at_call 9; refine (rtIs_any S _ _ (HDU.out _ b4)).mono ?_; rintro e x5 ⟨rfl, hc⟩; rw [HI.out.1]; have b5 := b4.trans (hc.mono b4.size); clear hc
          (try dsimp only)
          refine hK.out _ _ (HS.out _ b5) (fun hHeld => ?_)
          clear hK K
          refine wpAnyH_take (i := 2) (v := ?_) rfl (by kernel_rfl) (by kernel_rfl) (by kernel_rfl) (fun _ _ _ h => h) (Or.inl ⟨by rfl, ?_⟩) (by assumption) ?_
          rotate_left
          · (intro w hSw; (try dsimp only at hSw); go_simp); all_goals (with_reducible rfl)
          simp only [List.getElem_toArray, List.getElem_cons_succ, List.getElem_cons_zero, Act.put, List.setIfInBounds_toArray, List.set_cons_zero, List.set_cons_succ]
          refine wpAnyH_take (i := 3) (v := ?_) rfl (by kernel_rfl) (by kernel_rfl) (by kernel_rfl) (fun _ _ _ h => h) (Or.inl ⟨by rfl, ?_⟩) (by assumption) ?_
          rotate_left
          · (intro w hSw; (try dsimp only at hSw); go_simp); all_goals (with_reducible rfl)
          simp only [List.getElem_toArray, List.getElem_cons_succ, List.getElem_cons_zero, Act.put, List.setIfInBounds_toArray, List.set_cons_zero, List.set_cons_succ]
          refine wpAnyH_take (i := 4) (v := ?_) rfl (by kernel_rfl) (by kernel_rfl) (by kernel_rfl) (fun _ _ _ h => h) (Or.inl ⟨by rfl, ?_⟩) (by assumption) ?_
          rotate_left
          · (intro w hSw; (try dsimp only at hSw); go_simp); all_goals (with_reducible rfl)
          simp only [List.getElem_toArray, List.getElem_cons_succ, List.getElem_cons_zero, Act.put, List.setIfInBounds_toArray, List.set_cons_zero, List.set_cons_succ]
          refine wpAnyH_ready (rs := [5]) (by kernel_rfl) (by simp) (AllReadyH.cons rfl (fun K hK => ?_) AllReadyH.nil)
          go_simp
          go_at_call 9; refine (rtIs_any T _ _ (HDV.out _ b5)).mono ?_; rintro e x6 ⟨rfl, hc⟩; rw [HI.out.2]; have b6 := b5.trans (hc.mono b5.size); clear hc
          (try dsimp only)
          refine hK.out _ _ (HS.out _ b6) (fun hHeld => ?_)
          clear hK K
          refine wpAnyH_take (i := 6) (v := ?_) rfl (by kernel_rfl) (by kernel_rfl) (by kernel_rfl) (fun _ _ _ h => h) (Or.inl ⟨by rfl, ?_⟩) (by assumption) ?_
          rotate_left
          · (intro w hSw; (try dsimp only at hSw); go_simp); all_goals (with_reducible rfl)
          simp only [List.getElem_toArray, List.getElem_cons_succ, List.getElem_cons_zero, Act.put, List.setIfInBounds_toArray, List.set_cons_zero, List.set_cons_succ]
          refine wpAnyH_take (i := 7) (v := ?_) rfl (by kernel_rfl) (by kernel_rfl) (by kernel_rfl) (fun _ _ _ h => h) (Or.inl ⟨by rfl, ?_⟩) (by assumption) ?_
          rotate_left
          · (intro w hSw; (try dsimp only at hSw); go_simp); all_goals (with_reducible rfl)
          simp only [List.getElem_toArray, List.getElem_cons_succ, List.getElem_cons_zero, Act.put, List.setIfInBounds_toArray, List.set_cons_zero, List.set_cons_succ]
          refine wpAnyH_take (i := 8) (v := ?_) rfl (by kernel_rfl) (by kernel_rfl) (by kernel_rfl) (fun _ _ _ h => h) (Or.inl ⟨by rfl, ?_⟩) (by assumption) ?_
          rotate_left
          · (intro w hSw; (try dsimp only at hSw); go_simp); all_goals (with_reducible rfl)
          simp only [List.getElem_toArray, List.getElem_cons_succ, List.getElem_cons_zero, Act.put, List.setIfInBounds_toArray, List.set_cons_zero, List.set_cons_succ]
          refine wpAnyH_take (i := 9) (v := undef) rfl (by kernel_rfl) (by kernel_rfl) (by kernel_rfl) (fun _ _ _ h => h) (Or.inr ⟨by rfl, rfl⟩) (by assumption) ?_
          simp only [List.getElem_toArray, List.getElem_cons_succ, List.getElem_cons_zero, Act.put, List.setIfInBounds_toArray, List.set_cons_zero, List.set_cons_succ]
          refine wpAnyH_take (i := 10) (v := undef) rfl (by kernel_rfl) (by kernel_rfl) (by kernel_rfl) (fun _ _ _ h => h) (Or.inr ⟨by rfl, rfl⟩) (by assumption) ?_
          simp only [List.getElem_toArray, List.getElem_cons_succ, List.getElem_cons_zero, Act.put, List.setIfInBounds_toArray, List.set_cons_zero, List.set_cons_succ]
          refine wpAnyH_take (i := 11) (v := undef) rfl (by kernel_rfl) (by kernel_rfl) (by kernel_rfl) (fun _ _ _ h => h) (Or.inr ⟨by rfl, rfl⟩) (by assumption) ?_
          simp only [List.getElem_toArray, List.getElem_cons_succ, List.getElem_cons_zero, Act.put, List.setIfInBounds_toArray, List.set_cons_zero, List.set_cons_succ]
          refine wpAnyH_take (i := 12) (v := undef) rfl (by kernel_rfl) (by kernel_rfl) (by kernel_rfl) (fun _ _ _ h => h) (Or.inr ⟨by rfl, rfl⟩) (by assumption) ?_
          simp only [List.getElem_toArray, List.getElem_cons_succ, List.getElem_cons_zero, Act.put, List.setIfInBounds_toArray, List.set_cons_zero, List.set_cons_succ]
          refine wpAnyH_take (i := 13) (v := undef) rfl (by kernel_rfl) (by kernel_rfl) (by kernel_rfl) (fun _ _ _ h => h) (Or.inr ⟨by rfl, rfl⟩) (by assumption) ?_
          simp only [List.getElem_toArray, List.getElem_cons_succ, List.getElem_cons_zero, Act.put, List.setIfInBounds_toArray, List.set_cons_zero, List.set_cons_succ]
          refine wpAnyH_take (i := 14) (v := undef) rfl (by kernel_rfl) (by kernel_rfl) (by kernel_rfl) (fun _ _ _ h => h) (Or.inr ⟨by rfl, rfl⟩) (by assumption) ?_
          simp only [List.getElem_toArray, List.getElem_cons_succ, List.getElem_cons_zero, Act.put, List.setIfInBounds_toArray, List.set_cons_zero, List.set_cons_succ]
          refine wpAnyH_take (i := 15) (v := undef) rfl (by kernel_rfl) (by kernel_rfl) (by kernel_rfl) (fun _ _ _ h => h) (Or.inr ⟨by rfl, rfl⟩) (by assumption) ?_
          simp only [List.getElem_toArray, List.getElem_cons_succ, List.getElem_cons_zero, Act.put, List.setIfInBounds_toArray, List.set_cons_zero, List.set_cons_succ]
          refine wpAnyH_take (i := 16) (v := undef) rfl (by kernel_rfl) (by kernel_rfl) (by kernel_rfl) (fun _ _ _ h => h) (Or.inr ⟨by rfl, rfl⟩) (by assumption) ?_
          simp only [List.getElem_toArray, List.getElem_cons_succ, List.getElem_cons_zero, Act.put, List.setIfInBounds_toArray, List.set_cons_zero, List.set_cons_succ]
          refine wpAnyH_take (i := 17) (v := undef) rfl (by kernel_rfl) (by kernel_rfl) (by kernel_rfl) (fun _ _ _ h => h) (Or.inr ⟨by rfl, rfl⟩) (by assumption) ?_
          simp only [List.getElem_toArray, List.getElem_cons_succ, List.getElem_cons_zero, Act.put, List.setIfInBounds_toArray, List.set_cons_zero, List.set_cons_succ]
          refine wpAnyH_take (i := 18) (v := ?_) rfl (by kernel_rfl) (by kernel_rfl) (by kernel_rfl) (fun _ _ _ h => h) (Or.inl ⟨by rfl, ?_⟩) (by assumption) ?_
          rotate_left
          · (intro w hSw; (try dsimp only at hSw); go_simp); all_goals (with_reducible rfl)
          simp only [List.getElem_toArray, List.getElem_cons_succ, List.getElem_cons_zero, Act.put, List.setIfInBounds_toArray, List.set_cons_zero, List.set_cons_succ]
          refine wpAnyH_take (i := 19) (v := ?_) rfl (by kernel_rfl) (by kernel_rfl) (by kernel_rfl) (fun _ _ _ h => h) (Or.inl ⟨by rfl, ?_⟩) (by assumption) ?_
          rotate_left
          · (intro w hSw; (try dsimp only at hSw); go_simp); all_goals (with_reducible rfl)
          simp only [List.getElem_toArray, List.getElem_cons_succ, List.getElem_cons_zero, Act.put, List.setIfInBounds_toArray, List.set_cons_zero, List.set_cons_succ]
          refine wpAnyH_ready (rs := [20]) (by kernel_rfl) (by simp) (AllReadyH.cons rfl (fun K hK => ?_) AllReadyH.nil)
          go_simp
          go_at_call 11; refine (known8_any _ (HPB.out _ b6)).mono ?_; rintro e x9 ⟨rfl, hc⟩; have b9 := b6.trans (hc.mono b6.size); clear hc
          (try dsimp only)
          refine hK.out _ _ (HS.out _ b9) (fun hHeld => ?_)
          clear hK K
          refine wpAnyH_take (i := 21) (v := ?_) rfl (by kernel_rfl) (by kernel_rfl) (by kernel_rfl) (fun _ _ _ h => h) (Or.inl ⟨by rfl, ?_⟩) (by assumption) ?_
          rotate_left
          · (intro w hSw; (try dsimp only at hSw); go_simp); all_goals (with_reducible rfl)
          simp only [List.getElem_toArray, List.getElem_cons_succ, List.getElem_cons_zero, Act.put, List.setIfInBounds_toArray, List.set_cons_zero, List.set_cons_succ]
          refine wpAnyH_take (i := 22) (v := ?_) rfl (by kernel_rfl) (by kernel_rfl) (by kernel_rfl) (fun _ _ _ h => h) (Or.inl ⟨by rfl, ?_⟩) (by assumption) ?_
          rotate_left
          · (intro w hSw; (try dsimp only at hSw); go_simp); all_goals (with_reducible rfl)
          simp only [List.getElem_toArray, List.getElem_cons_succ, List.getElem_cons_zero, Act.put, List.setIfInBounds_toArray, List.set_cons_zero, List.set_cons_succ]
          refine wpAnyH_done (by kernel_rfl) ?_ _
          all_goals
            go_wp2_with fail
            go_ret
            exact ⟨rfl, HB2.out.trans (b9.mono HB2.out.size)⟩
        | true =>
          have HI : Hid (isTy S = true ∧ isTy T = true) := ⟨hi, hj⟩
          have HE : Hid (teach S = true ∧ teach T = true) := ⟨isTy_teach hi, isTy_teach hj⟩
          have hq := show_iff (isTy_teach hi) (isTy_teach hj)
          rw [HQ.out] at hq
          clear hi hj
          go_wp2_with fail
          go_region_held (fun w' => w'.cell? ⟨w.heap.size, 0, none⟩ = some (.string op) ∧ w'.cell? ⟨w.heap.size, 1, none⟩ = some (.int .i64 n) ∧ w'.cell? ⟨w.heap.size, 2, none⟩ = some (.slice a k cap) ∧ w'.cell? ⟨w.heap.size + 1, 0, none⟩ = some (.string op') ∧ w'.cell? ⟨w.heap.size + 1, 1, none⟩ = some (.int .i64 n') ∧ w'.cell? ⟨w.heap.size + 1, 2, none⟩ = some (.slice a' k' cap'))
            (with_reducible (first | exact HS.out _ b9 | exact HS.out _ b11 | exact HS.out _ b8 | exact HS.out _ b7 | exact HS.out _ b6 | exact HS.out _ b5 | exact HS.out _ b4))
            (first
              | (go_at_call 9; have bq := b5; clear bq; refine (rtIs_any T _ _ (HDV.out _ b5)).mono ?_; rintro e x6 ⟨rfl, hc⟩; rw [HI.out.2]; have b6 := b5.trans (hc.mono b5.size); clear hc)
              | (go_at_call 9; refine (rtIs_any S _ _ (HDU.out _ b4)).mono ?_; rintro e x5 ⟨rfl, hc⟩; rw [HI.out.1]; have b5 := b4.trans (hc.mono b4.size); clear hc)
              | (go_at_call 18; have bq := b7; clear bq; refine (yShow_any T _ _ (HDV.out _ b7) HE.out.2 HTS.out (HPB.out _ b7)).mono ?_; rintro e x8 ⟨rfl, hc⟩; have b8 := b7.trans (hc.mono b7.size); clear hc)
              | (go_at_call 18; refine (yShow_any S _ _ (HDU.out _ b6) HE.out.1 HSS.out (HPB.out _ b6)).mono ?_; rintro e x7 ⟨rfl, hc⟩; have b7 := b6.trans (hc.mono b6.size); clear hc)
              | (go_at_call 15; refine (rtSame_any S T _ _ _ (HDU.out _ b8) (HDV.out _ b8)).mono ?_; rintro e x11 ⟨rfl, hc⟩; rw [HQ.out]; have b11 := b8.trans (hc.mono b8.size); clear hc)
              | (go_at_call 11; refine (known8_any _ (HPB.out _ b11)).mono ?_; rintro e x9 ⟨rfl, hc⟩; have b9 := b11.trans (hc.mono b11.size); clear hc))
          all_goals
            go_wp2_with fail
            go_ret
            exact ⟨rfl, HB2.out.trans (b9.mono HB2.out.size)⟩

theorem typSame_own : ownKnob Tryd.prog.godebug = none := by kernel_rfl
theorem typSame_laidOut : laidOutB Tryd.prog = true := by kernel_rfl
theorem typSame_met (os : Os) : laidMet Tryd.prog Rows.typSameRow.laid ((laidWorld os).forCall (fun _ _ => 0) ⟨#[], #[.agg #[.string ByteArray.empty, .int .i64 0, .slice none 0 0], .agg #[.string ByteArray.empty, .int .i64 0, .slice none 0 0]], []⟩).memory :=
  laidMet_of_run' 8 (by kernel_rfl) (by kernel_rfl)
theorem typSame_reads (os : Os) {H : Type} (enc : TypeId × Value → H) : ∃ places, DataW.whole enc Tryd.prog ((laidWorld os).forCall (fun _ _ => 0) ⟨#[], #[.agg #[.string ByteArray.empty, .int .i64 0, .slice none 0 0], .agg #[.string ByteArray.empty, .int .i64 0, .slice none 0 0]], []⟩).memory Tryd.f4.params.toList Rows.typSameSpec.vars false (#[.agg #[.string ByteArray.empty, .int .i64 0, .slice none 0 0], .agg #[.string ByteArray.empty, .int .i64 0, .slice none 0 0]] : Array Value).toList 8 = some ([.agg [.lit (.string []), .lit (.int .i64 0), .nil], .agg [.lit (.string []), .lit (.int .i64 0), .nil]], [], places) :=
  ⟨[], by kernel_rfl⟩
set_option maxRecDepth 100000 in
theorem typSame_lifted (os : Os) (started : os.Started) (H : Type) (enc : TypeId × Value → H) (F : Stop.Interp) :
    ReturnsInHanded {} Tryd.checked os 4 .any ((OpenSpec.ofChange Rows.typSameSpec).preRow enc Tryd.prog Tryd.f4 Rows.typSameRow.domain false Rows.typSameRow.laid) (((OpenSpec.ofChange Rows.typSameSpec).at F).post enc Tryd.prog Tryd.f4 false true false false) := by
  obtain ⟨places, hx⟩ := typSame_reads os enc
  refine returnsInHanded_of_row (C := Tryd.checked) (s := OpenSpec.ofChange Rows.typSameSpec) typSame_own started (by kernel_rfl) Tryd.func4
    (witness_row_at (enc := enc) (C := Tryd.checked) false (laidWorld os) #[.agg #[.string ByteArray.empty, .int .i64 0, .slice none 0 0], .agg #[.string ByteArray.empty, .int .i64 0, .slice none 0 0]] rfl (by kernel_rfl) (by kernel_rfl) (by kernel_rfl)
      (OpenSpec.preRow_of_cond 8 hx (by kernel_rfl) (fun k hk => by cases hk) (by kernel_rfl) (typSame_met os))) ?_
  intro W base args ds gs before hval0 hW _ _ hsz0 hL _ _
  have hfact := laid_of_row hL
  have hval : ∀ (j : Nat) t v, Tryd.f4.params[j]? = some t → args[j]? = some v → Value.okWide Tryd.prog W .any base t v := hval0
  have hW' := hW
  obtain ⟨p, q, hA0, hV, rfl, hfz, hnd⟩ := hW
  have hA : DataW.TrodAll enc Tryd.prog W 0 (fun _ => true) true Tryd.f4.params.toList args.toList ds p := hA0
  have hsz : (DataW.weightsEach Tryd.prog (Tryd.f4.params.toList ++ Rows.typSameSpec.plain.varTypes Tryd.prog) (ds ++ gs)).all (· ≤ reachBytes) = true := hsz0
  rw [Tryd.params4] at hA hval hsz
  obtain ⟨v0, vs0, d0, ds0, p0, q0, hargs, rfl, rfl, h0, r0⟩ := trodAll_cons hA
  obtain ⟨v1, vs1, d1, ds1, p1, q1, rfl, rfl, rfl, h1, r1⟩ := trodAll_cons r0
  obtain ⟨rfl, rfl, rfl⟩ := trodAll_nil r1
  obtain rfl : args = #[v0, v1] := by cases args; simp_all
  obtain ⟨rfl, rfl⟩ := trodVars_none hV
  have lt0 : ∀ x ∈ p0, x.block < W.heap.size := by obtain ⟨m, hm⟩ := h0; exact DataW.trod_lt m _ _ _ hm
  have o0 := open_ty (hval 0 24 v0 rfl rfl) h0 (Em.sized_arg hsz 0 rfl rfl)
  have lt1 : ∀ x ∈ p1, x.block < W.heap.size := by obtain ⟨m, hm⟩ := h1; exact DataW.trod_lt m _ _ _ hm
  have o1 := open_ty (hval 1 24 v1 rfl rfl) h1 (Em.sized_arg hsz 1 rfl rfl)
  clear hA0 hval0 hsz0 hsz
  refine (walk_typSame W v0 v1 o0 o1 hfact).mono fun e W' ⟨he, bel⟩ => ?_
  subst he
  exact ⟨_, rfl, _, _, _, [], _, [], hW', trodAll_mk1 (shut_bool Tryd.underlying4 _), (trodAll_cons_mk (Below.trod typSame_laidOut (by kernel_rfl) (of_decide_eq_true (by kernel_rfl)) h0 bel lt0) (trodAll_cons_mk (Below.trod typSame_laidOut (by kernel_rfl) (of_decide_eq_true (by kernel_rfl)) h1 bel lt1) trodAll_mk0)), rfl, bel.frame _, fun h => by cases h⟩
theorem typSame_said : Rows.TypSameSaid :=
  OpenClaim.holds_of_cond 4 Tryd.f4 rfl rfl rfl rfl rfl rfl rfl ⟨rfl, rfl, rfl, rfl, rfl⟩ rfl rfl rfl rfl rfl (by kernel_rfl) Tryd.func4 (by kernel_rfl)
    (of_decide_eq_true (by kernel_rfl)) (by unfold Func.isWrapper; first | (rw [if_pos (by decide +kernel)]; kernel_rfl) | (rw [if_neg (by decide +kernel)]; exact ⟨rfl, rfl⟩))
    (fun os started H enc _ F => by rw [OpenClaim.pre_eq_preRow]; exact typSame_lifted os started H enc F)
theorem typSame_plain (f : FuncId) (fn : Func) (hf : Tryd.pinned.checked.prog.funcNamed "emissary/emissarylaw8.TypSame" = some f) (hfn : Tryd.pinned.checked.prog.funcs[f]? = some fn) :
    false = Tryd.pinned.checked.prog.looks [] ∧ ∀ (j : Nat) t, fn.params[j]? = some t → Tryd.pinned.checked.prog.wantsStandIn t = false := by
  obtain rfl : f = 4 := Option.some.inj ((show Tryd.prog.funcNamed "emissary/emissarylaw8.TypSame" = some 4 by kernel_rfl).symm.trans hf) |>.symm
  obtain rfl : fn = Tryd.f4 := (Option.some.inj (Tryd.func4.symm.trans hfn)).symm
  refine ⟨by kernel_rfl, fun j t ht => ?_⟩
  rw [Tryd.params4] at ht
  have hm : t ∈ ([24, 24] : List Nat) := by simpa using Array.mem_of_getElem? ht
  have hall : (([24, 24] : List Nat).all fun u => !Tryd.prog.wantsStandIn u) = true := by kernel_rfl
  exact (show Tryd.prog.wantsStandIn t = false by simpa using List.all_eq_true.1 hall t hm)
theorem typSame_holds : Rows.TypSameCardSaid :=
  Claim7.holds_tied_plain_at .later [] _ _ _ _ typSame_said (fun _ h => by cases h) (by kernel_rfl) (fun _ h => by cases h) typSame_row_tie rfl ⟨rfl, rfl⟩ (by kernel_rfl) rfl typSame_plain (by kernel_rfl)
#print axioms typSame_holds
end Go.Proofs.YtcpimmapdhmoiaaDoor

/- SchemeOwn: of any env that may be and any type, no var of General is free in the env; with a bound of that very type behind the env, General has no vars. No condition. -/
import Derived.Test.YtbiihiibebdjgaaRows
import Derived.Test.YtbiihiibebdjgaaSBox
import Derived.Test.YtbiihiibebdjgaaFrame
import Derived.Test.YtbiihiibebdjgaaFrame2
namespace Go.Proofs.Ytbiihiibebdjgaa
open Go.ChangeShapes Go.WideShapes Go.ChangeAt Go.RowKit Go.Em8
set_option linter.unusedSimpArgs false
set_option linter.unusedVariables false

set_option maxRecDepth 100000 in
set_option maxHeartbeats 8000000 in
theorem walk_schemeOwn (w : World) (v u : Value) (h0 : ∃ l, IsBds w v l) (hu : ∃ T, IsTy w T u) :
    Calls Try.prog 5 #[v, u] w fun e w' => e = .returned (.bool true) ∧ Below w.heap.size w w' := by
  obtain ⟨l, hv⟩ := h0
  obtain ⟨T, ht⟩ := hu
  obtain ⟨op, tn, a, k', cap, rfl⟩ := isTyP_form (isTy_isP _ _ ht)
  obtain ⟨pa, pk, pc, rfl⟩ : ∃ pa pk pc, v = .slice pa pk pc := by obtain ⟨pa, pc, e, -⟩ := hv; exact ⟨_, _, _, e⟩
  obtain ⟨W, hW⟩ : ∃ W, W = w.alloc (.cells #[.string op, .int .i64 tn, .slice a k' cap] 25) := ⟨_, rfl⟩
  have hbW : Below w.heap.size w W := by rw [hW]; exact (Below.refl _ _).alloc (Nat.le_refl _) _
  have hT3 : Tri W w.heap.size (.string op) (.int .i64 tn) (.slice a k' cap) := by rw [hW]; exact Tri.made _ _ _ _ _
  have HK : Hid (∀ w', Below W.heap.size W w' → w'.cell? ⟨w.heap.size, 0, none⟩ = some (.string op) ∧ w'.cell? ⟨w.heap.size, 1, none⟩ = some (.int .i64 tn) ∧ w'.cell? ⟨w.heap.size, 2, none⟩ = some (.slice a k' cap)) := fun w' h => ⟨(hT3.below h).c0, (hT3.below h).c1, (hT3.below h).c2⟩
  have HV0 : Hid (∀ w', Below W.heap.size W w' → IsBds w' (.slice pa pk pc) l) := fun w' h => hv.below (hbW.trans (h.mono hbW.size))
  have HT0 : Hid (∀ w', Below W.heap.size W w' → IsTy w' T (.agg #[.string op, .int .i64 tn, .slice a k' cap])) := fun w' h => isTy_below (hbW.trans (h.mono hbW.size)) _ _ ht
  have HW : Hid (Below w.heap.size w W) := hbW
  have HWE : Hid (w.alloc (.cells #[.string op, .int .i64 tn, .slice a k' cap] 25) = W) := hW.symm
  clear hv ht hbW hT3 hW
  go_enter Try.func5, Try.ntmps5
  go_upto_region 1 with fail
  rw [HWE.out]
  clear HWE
  go_wp2_with fail
  refine (ymay_any l _ W (HV0.out _ (Below.refl _ _))).mono ?_
  rintro e w1 ⟨bm, rfl, hm, b1⟩
  cases bm with
  | false =>
    go_wp2_with fail
    go_ret
    exact ⟨rfl, HW.out.trans (b1.mono HW.out.size)⟩
  | true =>
    have HM : Hid (l.length < 20 ∧ ∀ x ∈ l, MayBd x) := hm rfl
    have HB1 : Hid (Below W.heap.size W w1) := b1
    obtain ⟨k0, k1, k2⟩ := HK.out w1 b1
    clear hm b1
    go_wp2_with fail
    refine (rtsize_any T _ w1 100 (HT0.out _ HB1.out) (by omega) (by omega)).mono ?_
    rintro e w2 ⟨rfl, b2⟩
    obtain ⟨z, hz⟩ : ∃ z, z = min T.size 100 := ⟨_, rfl⟩
    rw [← hz]
    have HZ : Hid (z = min T.size 100) := hz
    have HB2 : Hid (Below W.heap.size W w2) := HB1.out.trans (b2.mono HB1.out.size)
    clear hz b2 k0 k1 k2
    obtain ⟨k0, k1, k2⟩ := HK.out w2 HB2.out
    by_cases h50 : z ≤ 50
    · have h50I : ¬ (50 : Int) < (z : Int) := by omega
      have HSZ : Hid (T.size ≤ 1000) := by have := HZ.out; rw [Hid]; omega
      go_wp2_with fail
      refine (rtIs_any T _ w2 (HT0.out _ HB2.out)).mono ?_
      rintro e w3 ⟨rfl, b3⟩
      obtain ⟨q, hq⟩ : ∃ q, q = isTy T := ⟨_, rfl⟩
      rw [← hq]
      have HB3 : Hid (Below W.heap.size W w3) := HB2.out.trans (b3.mono HB2.out.size)
      clear hq b3 k0 k1 k2 h50
      cases q with
      | false =>
        go_wp2_with fail
        go_ret
        exact ⟨rfl, HW.out.trans (HB3.out.mono HW.out.size)⟩
      | true =>
        go_upto_region 3 with fail
        have HV3 : Hid (IsBds w3 (.slice pa pk pc) l ∧ BdsOk l) := ⟨HV0.out _ HB3.out, BdsOk.of HM.out⟩
        obtain ⟨k0, k1, k2⟩ := HK.out w3 HB3.out
        go_wp2_with fail
        refine (sGeneral_any l _ T _ w3 HV3.out.1 HV3.out.2 (HT0.out _ HB3.out) HSZ.out).mono ?_
        rintro e w4 ⟨va, vk, vc, s, n, ka, kl, kc, rfl, ho4, hi4, ht4, c4⟩
        obtain ⟨L, hL⟩ : ∃ L, L = genV l T := ⟨_, rfl⟩
        rw [← hL] at ho4 hi4
        have HNH : Hid (∀ (k : Nat) (t : Int), L[k]? = some t → decide (t ∈ freeP l) = false) := by
          intro k t hk
          have hm := List.mem_of_getElem? hk
          rw [hL, genV_mem] at hm
          exact decide_eq_false fun h => hm.2 ((freeP_mem _ _).1 h)
        have g1 := ho4.is hi4
        have hvk : vk = L.length := by obtain ⟨a', c', e, -⟩ := g1; cases e; rfl
        subst hvk
        have g2 := isTyP_is _ _ ht4
        obtain ⟨X4, hX4⟩ : ∃ X4, X4 = w4.alloc (.cells #[.slice va L.length vc, .string s, .int .i64 n, .slice ka kl kc] 31) := ⟨_, rfl⟩
        have HB4 : Hid (Below w3.heap.size w3 X4 ∧ SBox X4 w4.heap.size L T) := by
          rw [Hid, hX4]; exact ⟨c4.alloc c4.size _, SBox.made g1 g2⟩
        have HX4 : Hid (w4.alloc (.cells #[.slice va L.length vc, .string s, .int .i64 n, .slice ka kl kc] 31) = X4) := hX4.symm
        obtain ⟨g9, hg9⟩ : ∃ g9, g9 = w4.heap.size := ⟨_, rfl⟩
        have HG9 : Hid (w4.heap.size = g9) := hg9.symm
        clear ho4 hi4 ht4 c4 hL g1 g2 hX4 hg9 k0 k1 k2
        go_upto_region 4 with fail
        rw [HX4.out, HG9.out]
        rw [HG9.out] at HB4
        clear HX4 HG9
        go_wp2_with fail
        refine (rFree_any l _ X4 (HV3.out.1.below HB4.out.1) HV3.out.2).mono ?_
        rintro e w5 ⟨uf, rfl, o5, i5, c5⟩
        have HF : Hid (IsInts w5 uf (freeP l)) := o5.is i5
        have HB5 : Hid (Below W.heap.size W w5) := HB3.out.trans ((HB4.out.1.trans (c5.mono HB4.out.1.size)).mono HB3.out.size)
        obtain ⟨a7, a7k, a7c, s7, n7, t7, t7l, t7c, H7⟩ := (HB4.out.2.below c5).all
        have hk7 : a7k = L.length := by obtain ⟨a', c', e, -⟩ := (H7.out w5 (Below.refl _ _)).2.2.2.2.1; cases e; rfl
        have hLm : L.length ≤ 9223372036854775807 := ((H7.out w5 (Below.refl _ _)).2.2.2.2.1).len
        subst hk7
        clear o5 i5 c5
        go_wp2_with fail
        go_loopw [7] (fun i wr => ∃ k q : Nat, k ≤ L.length ∧ i = .int .i64 k ∧ wr = w5.drewN q) (fun i _ => L.length - (intOf i).toNat)
        case atStart => exact ⟨0, 0, Nat.zero_le _, rfl, rfl⟩
        case round =>
          obtain ⟨k, q, hk, rfl, rfl⟩ := hrel
          have hk0 : (0 : Int) ≤ (k : Int) := by omega
          have HQ : Hid (Below w5.heap.size w5 (w5.drewN q)) := Em.below_drewN (Below.refl _ _) q
          obtain ⟨d70, -, -, -, -, -⟩ := H7.out _ HQ.out
          by_cases hlt : k < L.length
          · obtain ⟨t, ht⟩ : ∃ t, L[k]? = some t := ⟨_, List.getElem?_eq_getElem hlt⟩
            obtain ⟨b7, o7, c7, he, -, -, -, hc7⟩ := ((H7.out _ HQ.out).2.2.2.2.1).plain (by omega)
            cases he
            have m0 := hc7 k t ht
            have HD : Hid (decide (t ∈ freeP l) = false) := HNH.out k t ht
            have hkl : (k : Int) < (L.length : Int) := by omega
            clear ht hc7
            go_wp2_with fail
            refine (rtHas_any uf (freeP l) t _ (HF.out.below (by first | exact HQ.out | exact HQ.out.drew))).mono ?_
            rintro e wz ⟨rfl, rfl⟩
            rw [HD.out]
            go_wp2_with fail
            go_roundw
            case rel => exact ⟨k + 1, _, by omega, by go_num, by first | rfl | (rw [← World.drewN_add])⟩
            case measure => simp [intOf]; omega
          · have hkl : ¬ (k : Int) < (L.length : Int) := by omega
            go_upto_region 10 with fail
            obtain ⟨X, hX⟩ : ∃ X, X = w5.drewN q := ⟨_, rfl⟩
            have HBX : Hid (Below W.heap.size W X) := by rw [hX]; exact HB5.out.trans (HQ.out.mono HB5.out.size)
            have HTX : Hid (IsTy X T (.agg #[.string op, .int .i64 tn, .slice a k' cap])) := HT0.out _ HBX.out
            obtain ⟨cs, hsrc, hare⟩ := (HV0.out X HBX.out).src
            obtain ⟨bd1, hbd⟩ : ∃ bd1 : Bd, bd1 = ⟨[122], [], T⟩ := ⟨_, rfl⟩
            have hbd1 : IsBd X bd1 (.string ⟨#[122]⟩) (.slice none 0 0) (.string op) (.int .i64 tn) (.slice a k' cap) := by
              rw [hbd]; exact ⟨rfl, (show Em5.Txt [122] from ⟨by decide, by decide⟩), isInts_nil _, HTX.out⟩
            have HSRC : Hid (SrcBds X (.slice pa pk pc) cs) := hsrc
            have HARE : Hid (BdsAre X (cs ++ [(.string ⟨#[122]⟩, .slice none 0 0, .string op, .int .i64 tn, .slice a k' cap)]) (l ++ [bd1])) := hare.app hbd1
            have HLEN : Hid (cs.length ≤ 100) := by have := hare.1; have := HM.out.1; rw [Hid]; omega
            have HONE : Hid (∀ u ∈ [Value.string ⟨#[122]⟩, .slice none 0 0, .string op, .int .i64 tn, .slice a k' cap], u.oneCell' = true) := isBd_one hbd1
            have HOKL : Hid (BdsOk (l ++ [bd1])) := BdsOk.app HM.out (by rw [hbd]; have := HSZ.out; show T.size ≤ 2000; omega) (by rw [hbd]; show 0 ≤ 1000; omega)
            have HGN : Hid (genV (l ++ [bd1]) T = []) := by rw [Hid, hbd]; exact genV_nil _ _ _
            have HS : Hid (∀ w', Below X.heap.size X w' → w'.cell? ⟨w.heap.size, 0, none⟩ = some (.string op) ∧ w'.cell? ⟨w.heap.size, 1, none⟩ = some (.int .i64 tn) ∧ w'.cell? ⟨w.heap.size, 2, none⟩ = some (.slice a k' cap)) := fun w' h => HK.out w' (HBX.out.trans (h.mono HBX.out.size))
            rw [← hX]
            clear hX hbd1 hbd hsrc hare d70 HQ
            go_cut [8] from 9 (fun s8 wx => ∃ gb : Nat, s8 = .pointer (some ⟨gb, 0, none⟩) ∧ Hid (SBox wx gb [] T ∧ Below X.heap.size X wx))
            case rest =>
              obtain ⟨gb, rfl, HF8⟩ := hcut
              obtain ⟨a8, a8k, a8c, s8, n8, t8, t8l, t8c, H8⟩ := HF8.out.1.all
              have hk8 : a8k = 0 := by obtain ⟨a', c', e, -⟩ := (H8.out wc (Below.refl _ _)).2.2.2.2.1; cases e; rfl
              subst hk8
              have HWX : Hid (Below w.heap.size w wc) := HW.out.trans ((HBX.out.trans (HF8.out.2.mono HBX.out.size)).mono HW.out.size)
              obtain ⟨d80, -, -, -, -, -⟩ := H8.out wc (Below.refl _ _)
              go_wp2_with fail
              refine (known10_any wc).mono ?_
              rintro e y8 ⟨rfl, c8⟩
              have HB8 : Hid (Below w.heap.size w y8) := HWX.out.trans (c8.mono HWX.out.size)
              clear c8
              go_wp2_with fail
              go_ret
              exact ⟨rfl, HB8.out⟩
            go_wp2_with fail
            refine wp_region_held_drew (S := fun w' => w'.cell? ⟨w.heap.size, 0, none⟩ = some (.string op) ∧ w'.cell? ⟨w.heap.size, 1, none⟩ = some (.int .i64 tn) ∧ w'.cell? ⟨w.heap.size, 2, none⟩ = some (.slice a k' cap)) (by kernel_rfl) (HS.out _ (Below.refl _ _).drew) (fun hHeld => ?_)
            obtain ⟨x0, hx0⟩ : ∃ x0, x0 = X.drew := ⟨_, rfl⟩
            have b0 : Below X.heap.size X x0 := by rw [hx0]; exact (Below.refl _ _).drew
            rw [← hx0]
            rw [← hx0] at hHeld
            clear hx0
            refine wpAnyH_take (i := 1) (v := ?_) rfl (by kernel_rfl) (by kernel_rfl) (by kernel_rfl) (fun _ _ _ h => h) (Or.inl ⟨by rfl, ?_⟩) (by assumption) ?_
            rotate_left
            · (intro w hSw; (try dsimp only at hSw); go_simp); all_goals (with_reducible rfl)
            simp only [List.getElem_toArray, List.getElem_cons_succ, List.getElem_cons_zero, Act.put, List.setIfInBounds_toArray, List.set_cons_zero, List.set_cons_succ]
            refine wpAnyH_take (i := 3) (v := ?_) rfl (by kernel_rfl) (by kernel_rfl) (by kernel_rfl) (fun _ _ _ h => h) (Or.inl ⟨by rfl, ?_⟩) (by assumption) ?_
            rotate_left
            · (intro w hSw; (try dsimp only at hSw); go_simp); all_goals (with_reducible rfl)
            simp only [List.getElem_toArray, List.getElem_cons_succ, List.getElem_cons_zero, Act.put, List.setIfInBounds_toArray, List.set_cons_zero, List.set_cons_succ]
            refine wpAnyH_take (i := 4) (v := ?_) rfl (by kernel_rfl) (by kernel_rfl) (by kernel_rfl) (fun _ _ _ h => h) (Or.inl ⟨by rfl, ?_⟩) (by assumption) ?_
            rotate_left
            · (intro w hSw; (try dsimp only at hSw); go_simp); all_goals (with_reducible rfl)
            simp only [List.getElem_toArray, List.getElem_cons_succ, List.getElem_cons_zero, Act.put, List.setIfInBounds_toArray, List.set_cons_zero, List.set_cons_succ]
            refine wpAnyH_take (i := 5) (v := ?_) rfl (by kernel_rfl) (by kernel_rfl) (by kernel_rfl) (fun _ _ _ h => h) (Or.inl ⟨by rfl, ?_⟩) (by assumption) ?_
            rotate_left
            · (intro w hSw; (try dsimp only at hSw); go_simp); all_goals (with_reducible rfl)
            simp only [List.getElem_toArray, List.getElem_cons_succ, List.getElem_cons_zero, Act.put, List.setIfInBounds_toArray, List.set_cons_zero, List.set_cons_succ]
            refine wpAnyH_take (i := 8) (v := ?_) rfl (by kernel_rfl) (by kernel_rfl) (by kernel_rfl) (fun _ _ _ h => h) (Or.inl ⟨by rfl, ?_⟩) (by assumption) ?_
            rotate_left
            · (intro w hSw; (try dsimp only at hSw); go_simp); all_goals (with_reducible rfl)
            simp only [List.getElem_toArray, List.getElem_cons_succ, List.getElem_cons_zero, Act.put, List.setIfInBounds_toArray, List.set_cons_zero, List.set_cons_succ]
            refine wpAnyH_ready (rs := [0, 6, 10]) (by kernel_rfl) (by simp) (AllReadyH.cons rfl (fun K hK => ?_) (AllReadyH.cons rfl (fun K hK => ?_) (AllReadyH.cons rfl (fun K hK => ?_) AllReadyH.nil)))
            ·
              go_simp
              obtain ⟨x1, hx1⟩ : ∃ x1, x1 = x0.alloc (.cells #[] 41) := ⟨_, rfl⟩
              have hc1 : Below x0.heap.size x0 x1 := by rw [hx1]; exact (Below.refl _ _).alloc (Nat.le_refl _) _
              have b1 := b0.trans (hc1.mono b0.size)
              have o1 : OwnBds x1 X.heap.size (.slice (some ⟨x0.heap.size, 0, none⟩) 0 0) [] := by rw [hx1]; exact own_empty5 x0 b0.size
              obtain ⟨v0, hv0⟩ : ∃ v0, v0 = (Value.slice (some ⟨x0.heap.size, 0, none⟩) 0 0) := ⟨_, rfl⟩
              rw [← hx1, ← hv0]
              rw [← hv0] at o1
              clear hx1 hv0 hc1
              refine hK.out _ _ (HS.out _ b1) (fun hHeld => ?_)
              clear hK K
              refine wpAnyH_ready (rs := [2, 6, 10]) (by kernel_rfl) (by simp) (AllReadyH.cons rfl (fun K hK => ?_) (AllReadyH.cons rfl (fun K hK => ?_) (AllReadyH.cons rfl (fun K hK => ?_) AllReadyH.nil)))
              ·
                refine step_app_bds (by rfl) _ _ (by rfl) X.heap.size v0 [] (by rfl) o1 _ cs (by rfl) (by first | exact (HSRC.out.below b1) | exact (HSRC.out.below b1)) (by have := HLEN.out; simp; omega) b1.size ?_
                intro v1 x2 o2 gr2 e2 d2
                have b2 := b1.trans d2
                rw [List.nil_append] at o2
                clear gr2 e2 d2
                clear o1
                refine hK.out _ _ (HS.out _ b2) (fun hHeld => ?_)
                clear hK K
                refine wpAnyH_ready (rs := [6, 10]) (by kernel_rfl) (by simp) (AllReadyH.cons rfl (fun K hK => ?_) (AllReadyH.cons rfl (fun K hK => ?_) AllReadyH.nil))
                ·
                  go_simp
                  obtain ⟨x3, hx3⟩ : ∃ x3, x3 = x2.alloc (.cells #[.string ⟨#[122]⟩, .slice none 0 0, .string op, .int .i64 tn, .slice a k' cap] 41) := ⟨_, rfl⟩
                  have hc3 : Below x2.heap.size x2 x3 := by rw [hx3]; exact (Below.refl _ _).alloc (Nat.le_refl _) _
                  have b3 := b2.trans (hc3.mono b2.size)
                  obtain ⟨g1, hg1⟩ : ∃ g1, g1 = x2.heap.size := ⟨_, rfl⟩
                  have hg1_3 : x3.heap[g1]? = some (.cells #[.string ⟨#[122]⟩, .slice none 0 0, .string op, .int .i64 tn, .slice a k' cap] 41 (0, 0)) := by rw [hx3, hg1]; exact World.alloc_heap_new x2 _
                  have o3 : OwnBds x3 X.heap.size v1 cs := o2.below hc3
                  have nb1 : some g1 ≠ v1.ownBlock := by
                    intro e
                    have := (World.ownsRow.lt (show x2.ownsRow X.heap.size 41 5 v1 _ (flat5 cs) from o2) g1 e.symm).2
                    omega
                  rw [← hx3, ← hg1]
                  clear hx3 hg1 hc3
                  clear o2
                  refine hK.out _ _ (HS.out _ b3) (fun hHeld => ?_)
                  clear hK K
                  refine wpAnyH_ready (rs := [7, 10]) (by kernel_rfl) (by simp) (AllReadyH.cons rfl (fun K hK => ?_) (AllReadyH.cons rfl (fun K hK => ?_) AllReadyH.nil))
                  ·
                    refine step_app_bds (by rfl) _ _ (by rfl) X.heap.size v1 cs (by rfl) o3 _ [(.string ⟨#[122]⟩, .slice none 0 0, .string op, .int .i64 tn, .slice a k' cap)] (by rfl) (by first | exact (src_one5 hg1_3 HONE.out) | exact (src_one5 hg1_3 HONE.out)) (by have := HLEN.out; simp; omega) b3.size ?_
                    intro v2 x4 o4 gr4 e4 d4
                    have b4 := b3.trans d4
                    clear gr4 e4 d4
                    clear hg1_3 o3
                    obtain ⟨ra, rk, rc, hrf⟩ := o4.form
                    subst hrf
                    have HIB : Hid (IsBds x4 (.slice ra rk rc) (l ++ [bd1])) := o4.is (HARE.out.below b4)
                    clear o4
                    refine hK.out _ _ (HS.out _ b4) (fun hHeld => ?_)
                    clear hK K
                    refine wpAnyH_ready (rs := [9, 10]) (by kernel_rfl) (by simp) (AllReadyH.cons rfl (fun K hK => ?_) (AllReadyH.cons rfl (fun K hK => ?_) AllReadyH.nil))
                    ·
                      go_simp
                      go_at_call 9
                      obtain ⟨lo, hlo⟩ : ∃ lo, lo = x4.heap.size := ⟨_, rfl⟩
                      refine (sGeneral_any (l ++ [bd1]) _ T _ x4 HIB.out HOKL.out (isTy_below b4 _ _ HTX.out) HSZ.out).mono ?_
                      rintro e x5 ⟨va, vk, vc, s, n, ka, kl, kc, rfl, ho2, hi2, ht2, hc5⟩
                      rw [HGN.out] at ho2 hi2
                      have b5 := b4.trans (hc5.mono b4.size)
                      obtain ⟨hi, hhi⟩ : ∃ hi, hi = x5.heap.size := ⟨_, rfl⟩
                      have HI2 : Hid (∀ y ∈ [], Em5.I64 y) := hi2
                      have O2 : Hid ((OwnInts x5 lo (.slice va vk vc) [] ∧ IsTyP (Btw lo hi) x5 T (.agg #[.string s, .int .i64 n, .slice ka kl kc])) ∧ hi ≤ x5.heap.size) := by rw [Hid, hlo, hhi]; exact ⟨⟨ho2, isTyP_btw ht2⟩, Nat.le_refl _⟩
                      clear ho2 hi2 ht2 hlo hhi
                      clear hc5
                      (try dsimp only)
                      refine hK.out _ _ (HS.out _ b5) (fun hHeld => ?_)
                      clear hK K
                      refine wpAnyH_ready (rs := [10]) (by kernel_rfl) (by simp) (AllReadyH.cons rfl (fun K hK => ?_) AllReadyH.nil)
                      go_simp
                      obtain ⟨x6, hx6⟩ : ∃ x6, x6 = x5.alloc zeroS := ⟨_, rfl⟩
                      have hc6 : Below x5.heap.size x5 x6 := by rw [hx6]; exact (Below.refl _ _).alloc (Nat.le_refl _) _
                      have b6 := b5.trans (hc6.mono b5.size)
                      obtain ⟨gb, hggb⟩ : ∃ gb, gb = x5.heap.size := ⟨_, rfl⟩
                      have hgb_6 : x6.heap[gb]? = some zeroS := by rw [hx6, hggb]; exact World.alloc_heap_new x5 _
                      have mgb : X.heap.size ≤ gb := by rw [hggb]; exact b5.size
                      have rgb : hi ≤ gb := by rw [hggb]; exact O2.out.2
                      replace O2 : Hid ((OwnInts x6 lo (.slice va vk vc) [] ∧ IsTyP (Btw lo hi) x6 T (.agg #[.string s, .int .i64 n, .slice ka kl kc])) ∧ hi ≤ x6.heap.size) := ⟨⟨O2.out.1.1.below hc6, isTyP_below O2.out.1.2 hc6⟩, Nat.le_trans O2.out.2 hc6.size⟩
                      rw [← hx6, ← hggb]
                      clear hx6 hggb hc6
                      refine hK.out _ _ (HS.out _ b6) (fun hHeld => ?_)
                      clear hK K
                      have HFIN : Hid _ := sbox_set (c := #[]) hgb_6 O2.out.1.1 HI2.out O2.out.1.2 (.inr rgb)
                      have bE := below_set4 b6 mgb (.slice va vk vc) (.string s) (.int .i64 n) (.slice ka kl kc)
                      obtain ⟨q0, q1, q2, q3, qf⟩ := box4_cells hgb_6
                      refine wpAnyH_ready (rs := [11]) (by kernel_rfl) (by simp) (AllReadyH.cons rfl (fun K hK => ?_) AllReadyH.nil)
                      go_simp
                      refine hK.out _ _ (HS.out _ bE) (fun hHeld => ?_)
                      clear hK K q0 q1 q2 q3 qf
                      refine wpAnyH_done (by kernel_rfl) ?_ _
                      go_wp2_with fail
                      go_meet
                      exact ⟨_, rfl, HFIN, bE⟩
                    ·
                      go_simp
                      obtain ⟨x5, hx5⟩ : ∃ x5, x5 = x4.alloc zeroS := ⟨_, rfl⟩
                      have hc5 : Below x4.heap.size x4 x5 := by rw [hx5]; exact (Below.refl _ _).alloc (Nat.le_refl _) _
                      have b5 := b4.trans (hc5.mono b4.size)
                      obtain ⟨gb, hggb⟩ : ∃ gb, gb = x4.heap.size := ⟨_, rfl⟩
                      have hgb_5 : x5.heap[gb]? = some zeroS := by rw [hx5, hggb]; exact World.alloc_heap_new x4 _
                      have mgb : X.heap.size ≤ gb := by rw [hggb]; exact b4.size
                      replace HIB : Hid (IsBds x5 (.slice ra rk rc) (l ++ [bd1])) := HIB.out.below hc5
                      rw [← hx5, ← hggb]
                      clear hx5 hggb hc5
                      refine hK.out _ _ (HS.out _ b5) (fun hHeld => ?_)
                      clear hK K
                      refine wpAnyH_ready (rs := [9]) (by kernel_rfl) (by simp) (AllReadyH.cons rfl (fun K hK => ?_) AllReadyH.nil)
                      go_simp
                      go_at_call 9
                      obtain ⟨lo, hlo⟩ : ∃ lo, lo = x5.heap.size := ⟨_, rfl⟩
                      refine (sGeneral_any (l ++ [bd1]) _ T _ x5 HIB.out HOKL.out (isTy_below b5 _ _ HTX.out) HSZ.out).mono ?_
                      rintro e x6 ⟨va, vk, vc, s, n, ka, kl, kc, rfl, ho2, hi2, ht2, hc6⟩
                      rw [HGN.out] at ho2 hi2
                      have b6 := b5.trans (hc6.mono b5.size)
                      have lgb : gb < lo := by rw [hlo]; exact (Array.getElem?_eq_some_iff.1 hgb_5).1
                      obtain ⟨hi, hhi⟩ : ∃ hi, hi = x6.heap.size := ⟨_, rfl⟩
                      have HI2 : Hid (∀ y ∈ [], Em5.I64 y) := hi2
                      have O2 : Hid ((OwnInts x6 lo (.slice va vk vc) [] ∧ IsTyP (Btw lo hi) x6 T (.agg #[.string s, .int .i64 n, .slice ka kl kc])) ∧ hi ≤ x6.heap.size) := by rw [Hid, hlo, hhi]; exact ⟨⟨ho2, isTyP_btw ht2⟩, Nat.le_refl _⟩
                      clear ho2 hi2 ht2 hlo hhi
                      have hgb_6 := (hc6.block _ (Array.getElem?_eq_some_iff.1 hgb_5).1).trans hgb_5
                      clear hgb_5
                      clear hc6
                      (try dsimp only)
                      refine hK.out _ _ (HS.out _ b6) (fun hHeld => ?_)
                      clear hK K
                      have HFIN : Hid _ := sbox_set (c := #[]) hgb_6 O2.out.1.1 HI2.out O2.out.1.2 (.inl lgb)
                      have bE := below_set4 b6 mgb (.slice va vk vc) (.string s) (.int .i64 n) (.slice ka kl kc)
                      obtain ⟨q0, q1, q2, q3, qf⟩ := box4_cells hgb_6
                      refine wpAnyH_ready (rs := [11]) (by kernel_rfl) (by simp) (AllReadyH.cons rfl (fun K hK => ?_) AllReadyH.nil)
                      go_simp
                      refine hK.out _ _ (HS.out _ bE) (fun hHeld => ?_)
                      clear hK K q0 q1 q2 q3 qf
                      refine wpAnyH_done (by kernel_rfl) ?_ _
                      go_wp2_with fail
                      go_meet
                      exact ⟨_, rfl, HFIN, bE⟩
                  ·
                    go_simp
                    obtain ⟨x4, hx4⟩ : ∃ x4, x4 = x3.alloc zeroS := ⟨_, rfl⟩
                    have hc4 : Below x3.heap.size x3 x4 := by rw [hx4]; exact (Below.refl _ _).alloc (Nat.le_refl _) _
                    have b4 := b3.trans (hc4.mono b3.size)
                    obtain ⟨gb, hggb⟩ : ∃ gb, gb = x3.heap.size := ⟨_, rfl⟩
                    have hgb_4 : x4.heap[gb]? = some zeroS := by rw [hx4, hggb]; exact World.alloc_heap_new x3 _
                    have mgb : X.heap.size ≤ gb := by rw [hggb]; exact b3.size
                    have hg1_4 := (hc4.block _ (Array.getElem?_eq_some_iff.1 hg1_3).1).trans hg1_3
                    have o4 : OwnBds x4 X.heap.size v1 cs := o3.below hc4
                    rw [← hx4, ← hggb]
                    clear hx4 hggb hc4
                    clear hg1_3 o3
                    refine hK.out _ _ (HS.out _ b4) (fun hHeld => ?_)
                    clear hK K
                    refine wpAnyH_ready (rs := [7]) (by kernel_rfl) (by simp) (AllReadyH.cons rfl (fun K hK => ?_) AllReadyH.nil)
                    refine step_app_bds (by rfl) _ _ (by rfl) X.heap.size v1 cs (by rfl) o4 _ [(.string ⟨#[122]⟩, .slice none 0 0, .string op, .int .i64 tn, .slice a k' cap)] (by rfl) (by first | exact (src_one5 hg1_4 HONE.out) | exact (src_one5 hg1_4 HONE.out)) (by have := HLEN.out; simp; omega) b4.size ?_
                    intro v2 x5 o5 gr5 e5 d5
                    have b5 := b4.trans d5
                    have hgb_5 := (gr5.block _ (Array.getElem?_eq_some_iff.1 hgb_4).1 (o4.ne hgb_4)).trans hgb_4
                    clear gr5 e5 d5
                    clear hgb_4 hg1_4 o4
                    obtain ⟨ra, rk, rc, hrf⟩ := o5.form
                    subst hrf
                    have HIB : Hid (IsBds x5 (.slice ra rk rc) (l ++ [bd1])) := o5.is (HARE.out.below b5)
                    clear o5
                    refine hK.out _ _ (HS.out _ b5) (fun hHeld => ?_)
                    clear hK K
                    refine wpAnyH_ready (rs := [9]) (by kernel_rfl) (by simp) (AllReadyH.cons rfl (fun K hK => ?_) AllReadyH.nil)
                    go_simp
                    go_at_call 9
                    obtain ⟨lo, hlo⟩ : ∃ lo, lo = x5.heap.size := ⟨_, rfl⟩
                    refine (sGeneral_any (l ++ [bd1]) _ T _ x5 HIB.out HOKL.out (isTy_below b5 _ _ HTX.out) HSZ.out).mono ?_
                    rintro e x6 ⟨va, vk, vc, s, n, ka, kl, kc, rfl, ho2, hi2, ht2, hc6⟩
                    rw [HGN.out] at ho2 hi2
                    have b6 := b5.trans (hc6.mono b5.size)
                    have lgb : gb < lo := by rw [hlo]; exact (Array.getElem?_eq_some_iff.1 hgb_5).1
                    obtain ⟨hi, hhi⟩ : ∃ hi, hi = x6.heap.size := ⟨_, rfl⟩
                    have HI2 : Hid (∀ y ∈ [], Em5.I64 y) := hi2
                    have O2 : Hid ((OwnInts x6 lo (.slice va vk vc) [] ∧ IsTyP (Btw lo hi) x6 T (.agg #[.string s, .int .i64 n, .slice ka kl kc])) ∧ hi ≤ x6.heap.size) := by rw [Hid, hlo, hhi]; exact ⟨⟨ho2, isTyP_btw ht2⟩, Nat.le_refl _⟩
                    clear ho2 hi2 ht2 hlo hhi
                    have hgb_6 := (hc6.block _ (Array.getElem?_eq_some_iff.1 hgb_5).1).trans hgb_5
                    clear hgb_5
                    clear hc6
                    (try dsimp only)
                    refine hK.out _ _ (HS.out _ b6) (fun hHeld => ?_)
                    clear hK K
                    have HFIN : Hid _ := sbox_set (c := #[]) hgb_6 O2.out.1.1 HI2.out O2.out.1.2 (.inl lgb)
                    have bE := below_set4 b6 mgb (.slice va vk vc) (.string s) (.int .i64 n) (.slice ka kl kc)
                    obtain ⟨q0, q1, q2, q3, qf⟩ := box4_cells hgb_6
                    refine wpAnyH_ready (rs := [11]) (by kernel_rfl) (by simp) (AllReadyH.cons rfl (fun K hK => ?_) AllReadyH.nil)
                    go_simp
                    refine hK.out _ _ (HS.out _ bE) (fun hHeld => ?_)
                    clear hK K q0 q1 q2 q3 qf
                    refine wpAnyH_done (by kernel_rfl) ?_ _
                    go_wp2_with fail
                    go_meet
                    exact ⟨_, rfl, HFIN, bE⟩
                ·
                  go_simp
                  obtain ⟨x3, hx3⟩ : ∃ x3, x3 = x2.alloc zeroS := ⟨_, rfl⟩
                  have hc3 : Below x2.heap.size x2 x3 := by rw [hx3]; exact (Below.refl _ _).alloc (Nat.le_refl _) _
                  have b3 := b2.trans (hc3.mono b2.size)
                  obtain ⟨gb, hggb⟩ : ∃ gb, gb = x2.heap.size := ⟨_, rfl⟩
                  have hgb_3 : x3.heap[gb]? = some zeroS := by rw [hx3, hggb]; exact World.alloc_heap_new x2 _
                  have mgb : X.heap.size ≤ gb := by rw [hggb]; exact b2.size
                  have o3 : OwnBds x3 X.heap.size v1 cs := o2.below hc3
                  rw [← hx3, ← hggb]
                  clear hx3 hggb hc3
                  clear o2
                  refine hK.out _ _ (HS.out _ b3) (fun hHeld => ?_)
                  clear hK K
                  refine wpAnyH_ready (rs := [6]) (by kernel_rfl) (by simp) (AllReadyH.cons rfl (fun K hK => ?_) AllReadyH.nil)
                  go_simp
                  obtain ⟨x4, hx4⟩ : ∃ x4, x4 = x3.alloc (.cells #[.string ⟨#[122]⟩, .slice none 0 0, .string op, .int .i64 tn, .slice a k' cap] 41) := ⟨_, rfl⟩
                  have hc4 : Below x3.heap.size x3 x4 := by rw [hx4]; exact (Below.refl _ _).alloc (Nat.le_refl _) _
                  have b4 := b3.trans (hc4.mono b3.size)
                  obtain ⟨g1, hg1⟩ : ∃ g1, g1 = x3.heap.size := ⟨_, rfl⟩
                  have hg1_4 : x4.heap[g1]? = some (.cells #[.string ⟨#[122]⟩, .slice none 0 0, .string op, .int .i64 tn, .slice a k' cap] 41 (0, 0)) := by rw [hx4, hg1]; exact World.alloc_heap_new x3 _
                  have hgb_4 := (hc4.block _ (Array.getElem?_eq_some_iff.1 hgb_3).1).trans hgb_3
                  have o4 : OwnBds x4 X.heap.size v1 cs := o3.below hc4
                  have nb1 : some g1 ≠ v1.ownBlock := by
                    intro e
                    have := (World.ownsRow.lt (show x3.ownsRow X.heap.size 41 5 v1 _ (flat5 cs) from o3) g1 e.symm).2
                    omega
                  rw [← hx4, ← hg1]
                  clear hx4 hg1 hc4
                  clear hgb_3 o3
                  refine hK.out _ _ (HS.out _ b4) (fun hHeld => ?_)
                  clear hK K
                  refine wpAnyH_ready (rs := [7]) (by kernel_rfl) (by simp) (AllReadyH.cons rfl (fun K hK => ?_) AllReadyH.nil)
                  refine step_app_bds (by rfl) _ _ (by rfl) X.heap.size v1 cs (by rfl) o4 _ [(.string ⟨#[122]⟩, .slice none 0 0, .string op, .int .i64 tn, .slice a k' cap)] (by rfl) (by first | exact (src_one5 hg1_4 HONE.out) | exact (src_one5 hg1_4 HONE.out)) (by have := HLEN.out; simp; omega) b4.size ?_
                  intro v2 x5 o5 gr5 e5 d5
                  have b5 := b4.trans d5
                  have hgb_5 := (gr5.block _ (Array.getElem?_eq_some_iff.1 hgb_4).1 (o4.ne hgb_4)).trans hgb_4
                  clear gr5 e5 d5
                  clear hgb_4 hg1_4 o4
                  obtain ⟨ra, rk, rc, hrf⟩ := o5.form
                  subst hrf
                  have HIB : Hid (IsBds x5 (.slice ra rk rc) (l ++ [bd1])) := o5.is (HARE.out.below b5)
                  clear o5
                  refine hK.out _ _ (HS.out _ b5) (fun hHeld => ?_)
                  clear hK K
                  refine wpAnyH_ready (rs := [9]) (by kernel_rfl) (by simp) (AllReadyH.cons rfl (fun K hK => ?_) AllReadyH.nil)
                  go_simp
                  go_at_call 9
                  obtain ⟨lo, hlo⟩ : ∃ lo, lo = x5.heap.size := ⟨_, rfl⟩
                  refine (sGeneral_any (l ++ [bd1]) _ T _ x5 HIB.out HOKL.out (isTy_below b5 _ _ HTX.out) HSZ.out).mono ?_
                  rintro e x6 ⟨va, vk, vc, s, n, ka, kl, kc, rfl, ho2, hi2, ht2, hc6⟩
                  rw [HGN.out] at ho2 hi2
                  have b6 := b5.trans (hc6.mono b5.size)
                  have lgb : gb < lo := by rw [hlo]; exact (Array.getElem?_eq_some_iff.1 hgb_5).1
                  obtain ⟨hi, hhi⟩ : ∃ hi, hi = x6.heap.size := ⟨_, rfl⟩
                  have HI2 : Hid (∀ y ∈ [], Em5.I64 y) := hi2
                  have O2 : Hid ((OwnInts x6 lo (.slice va vk vc) [] ∧ IsTyP (Btw lo hi) x6 T (.agg #[.string s, .int .i64 n, .slice ka kl kc])) ∧ hi ≤ x6.heap.size) := by rw [Hid, hlo, hhi]; exact ⟨⟨ho2, isTyP_btw ht2⟩, Nat.le_refl _⟩
                  clear ho2 hi2 ht2 hlo hhi
                  have hgb_6 := (hc6.block _ (Array.getElem?_eq_some_iff.1 hgb_5).1).trans hgb_5
                  clear hgb_5
                  clear hc6
                  (try dsimp only)
                  refine hK.out _ _ (HS.out _ b6) (fun hHeld => ?_)
                  clear hK K
                  have HFIN : Hid _ := sbox_set (c := #[]) hgb_6 O2.out.1.1 HI2.out O2.out.1.2 (.inl lgb)
                  have bE := below_set4 b6 mgb (.slice va vk vc) (.string s) (.int .i64 n) (.slice ka kl kc)
                  obtain ⟨q0, q1, q2, q3, qf⟩ := box4_cells hgb_6
                  refine wpAnyH_ready (rs := [11]) (by kernel_rfl) (by simp) (AllReadyH.cons rfl (fun K hK => ?_) AllReadyH.nil)
                  go_simp
                  refine hK.out _ _ (HS.out _ bE) (fun hHeld => ?_)
                  clear hK K q0 q1 q2 q3 qf
                  refine wpAnyH_done (by kernel_rfl) ?_ _
                  go_wp2_with fail
                  go_meet
                  exact ⟨_, rfl, HFIN, bE⟩
              ·
                go_simp
                obtain ⟨x2, hx2⟩ : ∃ x2, x2 = x1.alloc (.cells #[.string ⟨#[122]⟩, .slice none 0 0, .string op, .int .i64 tn, .slice a k' cap] 41) := ⟨_, rfl⟩
                have hc2 : Below x1.heap.size x1 x2 := by rw [hx2]; exact (Below.refl _ _).alloc (Nat.le_refl _) _
                have b2 := b1.trans (hc2.mono b1.size)
                obtain ⟨g1, hg1⟩ : ∃ g1, g1 = x1.heap.size := ⟨_, rfl⟩
                have hg1_2 : x2.heap[g1]? = some (.cells #[.string ⟨#[122]⟩, .slice none 0 0, .string op, .int .i64 tn, .slice a k' cap] 41 (0, 0)) := by rw [hx2, hg1]; exact World.alloc_heap_new x1 _
                have o2 : OwnBds x2 X.heap.size v0 [] := o1.below hc2
                have nb0 : some g1 ≠ v0.ownBlock := by
                  intro e
                  have := (World.ownsRow.lt (show x1.ownsRow X.heap.size 41 5 v0 _ (flat5 []) from o1) g1 e.symm).2
                  omega
                rw [← hx2, ← hg1]
                clear hx2 hg1 hc2
                clear o1
                refine hK.out _ _ (HS.out _ b2) (fun hHeld => ?_)
                clear hK K
                refine wpAnyH_ready (rs := [2, 10]) (by kernel_rfl) (by simp) (AllReadyH.cons rfl (fun K hK => ?_) (AllReadyH.cons rfl (fun K hK => ?_) AllReadyH.nil))
                ·
                  refine step_app_bds (by rfl) _ _ (by rfl) X.heap.size v0 [] (by rfl) o2 _ cs (by rfl) (by first | exact (HSRC.out.below b2) | exact (HSRC.out.below b2)) (by have := HLEN.out; simp; omega) b2.size ?_
                  intro v1 x3 o3 gr3 e3 d3
                  have b3 := b2.trans d3
                  rw [List.nil_append] at o3
                  have hg1_3 := (gr3.block _ (Array.getElem?_eq_some_iff.1 hg1_2).1 nb0).trans hg1_2
                  have nb1 : some g1 ≠ v1.ownBlock := by
                    rcases e3 with e | e
                    · rw [e]; exact nb0
                    · rw [e]; intro e2; have hlt := (Array.getElem?_eq_some_iff.1 hg1_2).1; simp at e2; omega
                  clear gr3 e3 d3
                  clear hg1_2 o2
                  refine hK.out _ _ (HS.out _ b3) (fun hHeld => ?_)
                  clear hK K
                  refine wpAnyH_ready (rs := [7, 10]) (by kernel_rfl) (by simp) (AllReadyH.cons rfl (fun K hK => ?_) (AllReadyH.cons rfl (fun K hK => ?_) AllReadyH.nil))
                  ·
                    refine step_app_bds (by rfl) _ _ (by rfl) X.heap.size v1 cs (by rfl) o3 _ [(.string ⟨#[122]⟩, .slice none 0 0, .string op, .int .i64 tn, .slice a k' cap)] (by rfl) (by first | exact (src_one5 hg1_3 HONE.out) | exact (src_one5 hg1_3 HONE.out)) (by have := HLEN.out; simp; omega) b3.size ?_
                    intro v2 x4 o4 gr4 e4 d4
                    have b4 := b3.trans d4
                    clear gr4 e4 d4
                    clear hg1_3 o3
                    obtain ⟨ra, rk, rc, hrf⟩ := o4.form
                    subst hrf
                    have HIB : Hid (IsBds x4 (.slice ra rk rc) (l ++ [bd1])) := o4.is (HARE.out.below b4)
                    clear o4
                    refine hK.out _ _ (HS.out _ b4) (fun hHeld => ?_)
                    clear hK K
                    refine wpAnyH_ready (rs := [9, 10]) (by kernel_rfl) (by simp) (AllReadyH.cons rfl (fun K hK => ?_) (AllReadyH.cons rfl (fun K hK => ?_) AllReadyH.nil))
                    ·
                      go_simp
                      go_at_call 9
                      obtain ⟨lo, hlo⟩ : ∃ lo, lo = x4.heap.size := ⟨_, rfl⟩
                      refine (sGeneral_any (l ++ [bd1]) _ T _ x4 HIB.out HOKL.out (isTy_below b4 _ _ HTX.out) HSZ.out).mono ?_
                      rintro e x5 ⟨va, vk, vc, s, n, ka, kl, kc, rfl, ho2, hi2, ht2, hc5⟩
                      rw [HGN.out] at ho2 hi2
                      have b5 := b4.trans (hc5.mono b4.size)
                      obtain ⟨hi, hhi⟩ : ∃ hi, hi = x5.heap.size := ⟨_, rfl⟩
                      have HI2 : Hid (∀ y ∈ [], Em5.I64 y) := hi2
                      have O2 : Hid ((OwnInts x5 lo (.slice va vk vc) [] ∧ IsTyP (Btw lo hi) x5 T (.agg #[.string s, .int .i64 n, .slice ka kl kc])) ∧ hi ≤ x5.heap.size) := by rw [Hid, hlo, hhi]; exact ⟨⟨ho2, isTyP_btw ht2⟩, Nat.le_refl _⟩
                      clear ho2 hi2 ht2 hlo hhi
                      clear hc5
                      (try dsimp only)
                      refine hK.out _ _ (HS.out _ b5) (fun hHeld => ?_)
                      clear hK K
                      refine wpAnyH_ready (rs := [10]) (by kernel_rfl) (by simp) (AllReadyH.cons rfl (fun K hK => ?_) AllReadyH.nil)
                      go_simp
                      obtain ⟨x6, hx6⟩ : ∃ x6, x6 = x5.alloc zeroS := ⟨_, rfl⟩
                      have hc6 : Below x5.heap.size x5 x6 := by rw [hx6]; exact (Below.refl _ _).alloc (Nat.le_refl _) _
                      have b6 := b5.trans (hc6.mono b5.size)
                      obtain ⟨gb, hggb⟩ : ∃ gb, gb = x5.heap.size := ⟨_, rfl⟩
                      have hgb_6 : x6.heap[gb]? = some zeroS := by rw [hx6, hggb]; exact World.alloc_heap_new x5 _
                      have mgb : X.heap.size ≤ gb := by rw [hggb]; exact b5.size
                      have rgb : hi ≤ gb := by rw [hggb]; exact O2.out.2
                      replace O2 : Hid ((OwnInts x6 lo (.slice va vk vc) [] ∧ IsTyP (Btw lo hi) x6 T (.agg #[.string s, .int .i64 n, .slice ka kl kc])) ∧ hi ≤ x6.heap.size) := ⟨⟨O2.out.1.1.below hc6, isTyP_below O2.out.1.2 hc6⟩, Nat.le_trans O2.out.2 hc6.size⟩
                      rw [← hx6, ← hggb]
                      clear hx6 hggb hc6
                      refine hK.out _ _ (HS.out _ b6) (fun hHeld => ?_)
                      clear hK K
                      have HFIN : Hid _ := sbox_set (c := #[]) hgb_6 O2.out.1.1 HI2.out O2.out.1.2 (.inr rgb)
                      have bE := below_set4 b6 mgb (.slice va vk vc) (.string s) (.int .i64 n) (.slice ka kl kc)
                      obtain ⟨q0, q1, q2, q3, qf⟩ := box4_cells hgb_6
                      refine wpAnyH_ready (rs := [11]) (by kernel_rfl) (by simp) (AllReadyH.cons rfl (fun K hK => ?_) AllReadyH.nil)
                      go_simp
                      refine hK.out _ _ (HS.out _ bE) (fun hHeld => ?_)
                      clear hK K q0 q1 q2 q3 qf
                      refine wpAnyH_done (by kernel_rfl) ?_ _
                      go_wp2_with fail
                      go_meet
                      exact ⟨_, rfl, HFIN, bE⟩
                    ·
                      go_simp
                      obtain ⟨x5, hx5⟩ : ∃ x5, x5 = x4.alloc zeroS := ⟨_, rfl⟩
                      have hc5 : Below x4.heap.size x4 x5 := by rw [hx5]; exact (Below.refl _ _).alloc (Nat.le_refl _) _
                      have b5 := b4.trans (hc5.mono b4.size)
                      obtain ⟨gb, hggb⟩ : ∃ gb, gb = x4.heap.size := ⟨_, rfl⟩
                      have hgb_5 : x5.heap[gb]? = some zeroS := by rw [hx5, hggb]; exact World.alloc_heap_new x4 _
                      have mgb : X.heap.size ≤ gb := by rw [hggb]; exact b4.size
                      replace HIB : Hid (IsBds x5 (.slice ra rk rc) (l ++ [bd1])) := HIB.out.below hc5
                      rw [← hx5, ← hggb]
                      clear hx5 hggb hc5
                      refine hK.out _ _ (HS.out _ b5) (fun hHeld => ?_)
                      clear hK K
                      refine wpAnyH_ready (rs := [9]) (by kernel_rfl) (by simp) (AllReadyH.cons rfl (fun K hK => ?_) AllReadyH.nil)
                      go_simp
                      go_at_call 9
                      obtain ⟨lo, hlo⟩ : ∃ lo, lo = x5.heap.size := ⟨_, rfl⟩
                      refine (sGeneral_any (l ++ [bd1]) _ T _ x5 HIB.out HOKL.out (isTy_below b5 _ _ HTX.out) HSZ.out).mono ?_
                      rintro e x6 ⟨va, vk, vc, s, n, ka, kl, kc, rfl, ho2, hi2, ht2, hc6⟩
                      rw [HGN.out] at ho2 hi2
                      have b6 := b5.trans (hc6.mono b5.size)
                      have lgb : gb < lo := by rw [hlo]; exact (Array.getElem?_eq_some_iff.1 hgb_5).1
                      obtain ⟨hi, hhi⟩ : ∃ hi, hi = x6.heap.size := ⟨_, rfl⟩
                      have HI2 : Hid (∀ y ∈ [], Em5.I64 y) := hi2
                      have O2 : Hid ((OwnInts x6 lo (.slice va vk vc) [] ∧ IsTyP (Btw lo hi) x6 T (.agg #[.string s, .int .i64 n, .slice ka kl kc])) ∧ hi ≤ x6.heap.size) := by rw [Hid, hlo, hhi]; exact ⟨⟨ho2, isTyP_btw ht2⟩, Nat.le_refl _⟩
                      clear ho2 hi2 ht2 hlo hhi
                      have hgb_6 := (hc6.block _ (Array.getElem?_eq_some_iff.1 hgb_5).1).trans hgb_5
                      clear hgb_5
                      clear hc6
                      (try dsimp only)
                      refine hK.out _ _ (HS.out _ b6) (fun hHeld => ?_)
                      clear hK K
                      have HFIN : Hid _ := sbox_set (c := #[]) hgb_6 O2.out.1.1 HI2.out O2.out.1.2 (.inl lgb)
                      have bE := below_set4 b6 mgb (.slice va vk vc) (.string s) (.int .i64 n) (.slice ka kl kc)
                      obtain ⟨q0, q1, q2, q3, qf⟩ := box4_cells hgb_6
                      refine wpAnyH_ready (rs := [11]) (by kernel_rfl) (by simp) (AllReadyH.cons rfl (fun K hK => ?_) AllReadyH.nil)
                      go_simp
                      refine hK.out _ _ (HS.out _ bE) (fun hHeld => ?_)
                      clear hK K q0 q1 q2 q3 qf
                      refine wpAnyH_done (by kernel_rfl) ?_ _
                      go_wp2_with fail
                      go_meet
                      exact ⟨_, rfl, HFIN, bE⟩
                  ·
                    go_simp
                    obtain ⟨x4, hx4⟩ : ∃ x4, x4 = x3.alloc zeroS := ⟨_, rfl⟩
                    have hc4 : Below x3.heap.size x3 x4 := by rw [hx4]; exact (Below.refl _ _).alloc (Nat.le_refl _) _
                    have b4 := b3.trans (hc4.mono b3.size)
                    obtain ⟨gb, hggb⟩ : ∃ gb, gb = x3.heap.size := ⟨_, rfl⟩
                    have hgb_4 : x4.heap[gb]? = some zeroS := by rw [hx4, hggb]; exact World.alloc_heap_new x3 _
                    have mgb : X.heap.size ≤ gb := by rw [hggb]; exact b3.size
                    have hg1_4 := (hc4.block _ (Array.getElem?_eq_some_iff.1 hg1_3).1).trans hg1_3
                    have o4 : OwnBds x4 X.heap.size v1 cs := o3.below hc4
                    rw [← hx4, ← hggb]
                    clear hx4 hggb hc4
                    clear hg1_3 o3
                    refine hK.out _ _ (HS.out _ b4) (fun hHeld => ?_)
                    clear hK K
                    refine wpAnyH_ready (rs := [7]) (by kernel_rfl) (by simp) (AllReadyH.cons rfl (fun K hK => ?_) AllReadyH.nil)
                    refine step_app_bds (by rfl) _ _ (by rfl) X.heap.size v1 cs (by rfl) o4 _ [(.string ⟨#[122]⟩, .slice none 0 0, .string op, .int .i64 tn, .slice a k' cap)] (by rfl) (by first | exact (src_one5 hg1_4 HONE.out) | exact (src_one5 hg1_4 HONE.out)) (by have := HLEN.out; simp; omega) b4.size ?_
                    intro v2 x5 o5 gr5 e5 d5
                    have b5 := b4.trans d5
                    have hgb_5 := (gr5.block _ (Array.getElem?_eq_some_iff.1 hgb_4).1 (o4.ne hgb_4)).trans hgb_4
                    clear gr5 e5 d5
                    clear hgb_4 hg1_4 o4
                    obtain ⟨ra, rk, rc, hrf⟩ := o5.form
                    subst hrf
                    have HIB : Hid (IsBds x5 (.slice ra rk rc) (l ++ [bd1])) := o5.is (HARE.out.below b5)
                    clear o5
                    refine hK.out _ _ (HS.out _ b5) (fun hHeld => ?_)
                    clear hK K
                    refine wpAnyH_ready (rs := [9]) (by kernel_rfl) (by simp) (AllReadyH.cons rfl (fun K hK => ?_) AllReadyH.nil)
                    go_simp
                    go_at_call 9
                    obtain ⟨lo, hlo⟩ : ∃ lo, lo = x5.heap.size := ⟨_, rfl⟩
                    refine (sGeneral_any (l ++ [bd1]) _ T _ x5 HIB.out HOKL.out (isTy_below b5 _ _ HTX.out) HSZ.out).mono ?_
                    rintro e x6 ⟨va, vk, vc, s, n, ka, kl, kc, rfl, ho2, hi2, ht2, hc6⟩
                    rw [HGN.out] at ho2 hi2
                    have b6 := b5.trans (hc6.mono b5.size)
                    have lgb : gb < lo := by rw [hlo]; exact (Array.getElem?_eq_some_iff.1 hgb_5).1
                    obtain ⟨hi, hhi⟩ : ∃ hi, hi = x6.heap.size := ⟨_, rfl⟩
                    have HI2 : Hid (∀ y ∈ [], Em5.I64 y) := hi2
                    have O2 : Hid ((OwnInts x6 lo (.slice va vk vc) [] ∧ IsTyP (Btw lo hi) x6 T (.agg #[.string s, .int .i64 n, .slice ka kl kc])) ∧ hi ≤ x6.heap.size) := by rw [Hid, hlo, hhi]; exact ⟨⟨ho2, isTyP_btw ht2⟩, Nat.le_refl _⟩
                    clear ho2 hi2 ht2 hlo hhi
                    have hgb_6 := (hc6.block _ (Array.getElem?_eq_some_iff.1 hgb_5).1).trans hgb_5
                    clear hgb_5
                    clear hc6
                    (try dsimp only)
                    refine hK.out _ _ (HS.out _ b6) (fun hHeld => ?_)
                    clear hK K
                    have HFIN : Hid _ := sbox_set (c := #[]) hgb_6 O2.out.1.1 HI2.out O2.out.1.2 (.inl lgb)
                    have bE := below_set4 b6 mgb (.slice va vk vc) (.string s) (.int .i64 n) (.slice ka kl kc)
                    obtain ⟨q0, q1, q2, q3, qf⟩ := box4_cells hgb_6
                    refine wpAnyH_ready (rs := [11]) (by kernel_rfl) (by simp) (AllReadyH.cons rfl (fun K hK => ?_) AllReadyH.nil)
                    go_simp
                    refine hK.out _ _ (HS.out _ bE) (fun hHeld => ?_)
                    clear hK K q0 q1 q2 q3 qf
                    refine wpAnyH_done (by kernel_rfl) ?_ _
                    go_wp2_with fail
                    go_meet
                    exact ⟨_, rfl, HFIN, bE⟩
                ·
                  go_simp
                  obtain ⟨x3, hx3⟩ : ∃ x3, x3 = x2.alloc zeroS := ⟨_, rfl⟩
                  have hc3 : Below x2.heap.size x2 x3 := by rw [hx3]; exact (Below.refl _ _).alloc (Nat.le_refl _) _
                  have b3 := b2.trans (hc3.mono b2.size)
                  obtain ⟨gb, hggb⟩ : ∃ gb, gb = x2.heap.size := ⟨_, rfl⟩
                  have hgb_3 : x3.heap[gb]? = some zeroS := by rw [hx3, hggb]; exact World.alloc_heap_new x2 _
                  have mgb : X.heap.size ≤ gb := by rw [hggb]; exact b2.size
                  have hg1_3 := (hc3.block _ (Array.getElem?_eq_some_iff.1 hg1_2).1).trans hg1_2
                  have o3 : OwnBds x3 X.heap.size v0 [] := o2.below hc3
                  rw [← hx3, ← hggb]
                  clear hx3 hggb hc3
                  clear hg1_2 o2
                  refine hK.out _ _ (HS.out _ b3) (fun hHeld => ?_)
                  clear hK K
                  refine wpAnyH_ready (rs := [2]) (by kernel_rfl) (by simp) (AllReadyH.cons rfl (fun K hK => ?_) AllReadyH.nil)
                  refine step_app_bds (by rfl) _ _ (by rfl) X.heap.size v0 [] (by rfl) o3 _ cs (by rfl) (by first | exact (HSRC.out.below b3) | exact (HSRC.out.below b3)) (by have := HLEN.out; simp; omega) b3.size ?_
                  intro v1 x4 o4 gr4 e4 d4
                  have b4 := b3.trans d4
                  rw [List.nil_append] at o4
                  have hgb_4 := (gr4.block _ (Array.getElem?_eq_some_iff.1 hgb_3).1 (o3.ne hgb_3)).trans hgb_3
                  have hg1_4 := (gr4.block _ (Array.getElem?_eq_some_iff.1 hg1_3).1 nb0).trans hg1_3
                  have nb1 : some g1 ≠ v1.ownBlock := by
                    rcases e4 with e | e
                    · rw [e]; exact nb0
                    · rw [e]; intro e2; have hlt := (Array.getElem?_eq_some_iff.1 hg1_3).1; simp at e2; omega
                  clear gr4 e4 d4
                  clear hgb_3 hg1_3 o3
                  refine hK.out _ _ (HS.out _ b4) (fun hHeld => ?_)
                  clear hK K
                  refine wpAnyH_ready (rs := [7]) (by kernel_rfl) (by simp) (AllReadyH.cons rfl (fun K hK => ?_) AllReadyH.nil)
                  refine step_app_bds (by rfl) _ _ (by rfl) X.heap.size v1 cs (by rfl) o4 _ [(.string ⟨#[122]⟩, .slice none 0 0, .string op, .int .i64 tn, .slice a k' cap)] (by rfl) (by first | exact (src_one5 hg1_4 HONE.out) | exact (src_one5 hg1_4 HONE.out)) (by have := HLEN.out; simp; omega) b4.size ?_
                  intro v2 x5 o5 gr5 e5 d5
                  have b5 := b4.trans d5
                  have hgb_5 := (gr5.block _ (Array.getElem?_eq_some_iff.1 hgb_4).1 (o4.ne hgb_4)).trans hgb_4
                  clear gr5 e5 d5
                  clear hgb_4 hg1_4 o4
                  obtain ⟨ra, rk, rc, hrf⟩ := o5.form
                  subst hrf
                  have HIB : Hid (IsBds x5 (.slice ra rk rc) (l ++ [bd1])) := o5.is (HARE.out.below b5)
                  clear o5
                  refine hK.out _ _ (HS.out _ b5) (fun hHeld => ?_)
                  clear hK K
                  refine wpAnyH_ready (rs := [9]) (by kernel_rfl) (by simp) (AllReadyH.cons rfl (fun K hK => ?_) AllReadyH.nil)
                  go_simp
                  go_at_call 9
                  obtain ⟨lo, hlo⟩ : ∃ lo, lo = x5.heap.size := ⟨_, rfl⟩
                  refine (sGeneral_any (l ++ [bd1]) _ T _ x5 HIB.out HOKL.out (isTy_below b5 _ _ HTX.out) HSZ.out).mono ?_
                  rintro e x6 ⟨va, vk, vc, s, n, ka, kl, kc, rfl, ho2, hi2, ht2, hc6⟩
                  rw [HGN.out] at ho2 hi2
                  have b6 := b5.trans (hc6.mono b5.size)
                  have lgb : gb < lo := by rw [hlo]; exact (Array.getElem?_eq_some_iff.1 hgb_5).1
                  obtain ⟨hi, hhi⟩ : ∃ hi, hi = x6.heap.size := ⟨_, rfl⟩
                  have HI2 : Hid (∀ y ∈ [], Em5.I64 y) := hi2
                  have O2 : Hid ((OwnInts x6 lo (.slice va vk vc) [] ∧ IsTyP (Btw lo hi) x6 T (.agg #[.string s, .int .i64 n, .slice ka kl kc])) ∧ hi ≤ x6.heap.size) := by rw [Hid, hlo, hhi]; exact ⟨⟨ho2, isTyP_btw ht2⟩, Nat.le_refl _⟩
                  clear ho2 hi2 ht2 hlo hhi
                  have hgb_6 := (hc6.block _ (Array.getElem?_eq_some_iff.1 hgb_5).1).trans hgb_5
                  clear hgb_5
                  clear hc6
                  (try dsimp only)
                  refine hK.out _ _ (HS.out _ b6) (fun hHeld => ?_)
                  clear hK K
                  have HFIN : Hid _ := sbox_set (c := #[]) hgb_6 O2.out.1.1 HI2.out O2.out.1.2 (.inl lgb)
                  have bE := below_set4 b6 mgb (.slice va vk vc) (.string s) (.int .i64 n) (.slice ka kl kc)
                  obtain ⟨q0, q1, q2, q3, qf⟩ := box4_cells hgb_6
                  refine wpAnyH_ready (rs := [11]) (by kernel_rfl) (by simp) (AllReadyH.cons rfl (fun K hK => ?_) AllReadyH.nil)
                  go_simp
                  refine hK.out _ _ (HS.out _ bE) (fun hHeld => ?_)
                  clear hK K q0 q1 q2 q3 qf
                  refine wpAnyH_done (by kernel_rfl) ?_ _
                  go_wp2_with fail
                  go_meet
                  exact ⟨_, rfl, HFIN, bE⟩
              ·
                go_simp
                obtain ⟨x2, hx2⟩ : ∃ x2, x2 = x1.alloc zeroS := ⟨_, rfl⟩
                have hc2 : Below x1.heap.size x1 x2 := by rw [hx2]; exact (Below.refl _ _).alloc (Nat.le_refl _) _
                have b2 := b1.trans (hc2.mono b1.size)
                obtain ⟨gb, hggb⟩ : ∃ gb, gb = x1.heap.size := ⟨_, rfl⟩
                have hgb_2 : x2.heap[gb]? = some zeroS := by rw [hx2, hggb]; exact World.alloc_heap_new x1 _
                have mgb : X.heap.size ≤ gb := by rw [hggb]; exact b1.size
                have o2 : OwnBds x2 X.heap.size v0 [] := o1.below hc2
                rw [← hx2, ← hggb]
                clear hx2 hggb hc2
                clear o1
                refine hK.out _ _ (HS.out _ b2) (fun hHeld => ?_)
                clear hK K
                refine wpAnyH_ready (rs := [2, 6]) (by kernel_rfl) (by simp) (AllReadyH.cons rfl (fun K hK => ?_) (AllReadyH.cons rfl (fun K hK => ?_) AllReadyH.nil))
                ·
                  refine step_app_bds (by rfl) _ _ (by rfl) X.heap.size v0 [] (by rfl) o2 _ cs (by rfl) (by first | exact (HSRC.out.below b2) | exact (HSRC.out.below b2)) (by have := HLEN.out; simp; omega) b2.size ?_
                  intro v1 x3 o3 gr3 e3 d3
                  have b3 := b2.trans d3
                  rw [List.nil_append] at o3
                  have hgb_3 := (gr3.block _ (Array.getElem?_eq_some_iff.1 hgb_2).1 (o2.ne hgb_2)).trans hgb_2
                  clear gr3 e3 d3
                  clear hgb_2 o2
                  refine hK.out _ _ (HS.out _ b3) (fun hHeld => ?_)
                  clear hK K
                  refine wpAnyH_ready (rs := [6]) (by kernel_rfl) (by simp) (AllReadyH.cons rfl (fun K hK => ?_) AllReadyH.nil)
                  go_simp
                  obtain ⟨x4, hx4⟩ : ∃ x4, x4 = x3.alloc (.cells #[.string ⟨#[122]⟩, .slice none 0 0, .string op, .int .i64 tn, .slice a k' cap] 41) := ⟨_, rfl⟩
                  have hc4 : Below x3.heap.size x3 x4 := by rw [hx4]; exact (Below.refl _ _).alloc (Nat.le_refl _) _
                  have b4 := b3.trans (hc4.mono b3.size)
                  obtain ⟨g1, hg1⟩ : ∃ g1, g1 = x3.heap.size := ⟨_, rfl⟩
                  have hg1_4 : x4.heap[g1]? = some (.cells #[.string ⟨#[122]⟩, .slice none 0 0, .string op, .int .i64 tn, .slice a k' cap] 41 (0, 0)) := by rw [hx4, hg1]; exact World.alloc_heap_new x3 _
                  have hgb_4 := (hc4.block _ (Array.getElem?_eq_some_iff.1 hgb_3).1).trans hgb_3
                  have o4 : OwnBds x4 X.heap.size v1 cs := o3.below hc4
                  have nb1 : some g1 ≠ v1.ownBlock := by
                    intro e
                    have := (World.ownsRow.lt (show x3.ownsRow X.heap.size 41 5 v1 _ (flat5 cs) from o3) g1 e.symm).2
                    omega
                  rw [← hx4, ← hg1]
                  clear hx4 hg1 hc4
                  clear hgb_3 o3
                  refine hK.out _ _ (HS.out _ b4) (fun hHeld => ?_)
                  clear hK K
                  refine wpAnyH_ready (rs := [7]) (by kernel_rfl) (by simp) (AllReadyH.cons rfl (fun K hK => ?_) AllReadyH.nil)
                  refine step_app_bds (by rfl) _ _ (by rfl) X.heap.size v1 cs (by rfl) o4 _ [(.string ⟨#[122]⟩, .slice none 0 0, .string op, .int .i64 tn, .slice a k' cap)] (by rfl) (by first | exact (src_one5 hg1_4 HONE.out) | exact (src_one5 hg1_4 HONE.out)) (by have := HLEN.out; simp; omega) b4.size ?_
                  intro v2 x5 o5 gr5 e5 d5
                  have b5 := b4.trans d5
                  have hgb_5 := (gr5.block _ (Array.getElem?_eq_some_iff.1 hgb_4).1 (o4.ne hgb_4)).trans hgb_4
                  clear gr5 e5 d5
                  clear hgb_4 hg1_4 o4
                  obtain ⟨ra, rk, rc, hrf⟩ := o5.form
                  subst hrf
                  have HIB : Hid (IsBds x5 (.slice ra rk rc) (l ++ [bd1])) := o5.is (HARE.out.below b5)
                  clear o5
                  refine hK.out _ _ (HS.out _ b5) (fun hHeld => ?_)
                  clear hK K
                  refine wpAnyH_ready (rs := [9]) (by kernel_rfl) (by simp) (AllReadyH.cons rfl (fun K hK => ?_) AllReadyH.nil)
                  go_simp
                  go_at_call 9
                  obtain ⟨lo, hlo⟩ : ∃ lo, lo = x5.heap.size := ⟨_, rfl⟩
                  refine (sGeneral_any (l ++ [bd1]) _ T _ x5 HIB.out HOKL.out (isTy_below b5 _ _ HTX.out) HSZ.out).mono ?_
                  rintro e x6 ⟨va, vk, vc, s, n, ka, kl, kc, rfl, ho2, hi2, ht2, hc6⟩
                  rw [HGN.out] at ho2 hi2
                  have b6 := b5.trans (hc6.mono b5.size)
                  have lgb : gb < lo := by rw [hlo]; exact (Array.getElem?_eq_some_iff.1 hgb_5).1
                  obtain ⟨hi, hhi⟩ : ∃ hi, hi = x6.heap.size := ⟨_, rfl⟩
                  have HI2 : Hid (∀ y ∈ [], Em5.I64 y) := hi2
                  have O2 : Hid ((OwnInts x6 lo (.slice va vk vc) [] ∧ IsTyP (Btw lo hi) x6 T (.agg #[.string s, .int .i64 n, .slice ka kl kc])) ∧ hi ≤ x6.heap.size) := by rw [Hid, hlo, hhi]; exact ⟨⟨ho2, isTyP_btw ht2⟩, Nat.le_refl _⟩
                  clear ho2 hi2 ht2 hlo hhi
                  have hgb_6 := (hc6.block _ (Array.getElem?_eq_some_iff.1 hgb_5).1).trans hgb_5
                  clear hgb_5
                  clear hc6
                  (try dsimp only)
                  refine hK.out _ _ (HS.out _ b6) (fun hHeld => ?_)
                  clear hK K
                  have HFIN : Hid _ := sbox_set (c := #[]) hgb_6 O2.out.1.1 HI2.out O2.out.1.2 (.inl lgb)
                  have bE := below_set4 b6 mgb (.slice va vk vc) (.string s) (.int .i64 n) (.slice ka kl kc)
                  obtain ⟨q0, q1, q2, q3, qf⟩ := box4_cells hgb_6
                  refine wpAnyH_ready (rs := [11]) (by kernel_rfl) (by simp) (AllReadyH.cons rfl (fun K hK => ?_) AllReadyH.nil)
                  go_simp
                  refine hK.out _ _ (HS.out _ bE) (fun hHeld => ?_)
                  clear hK K q0 q1 q2 q3 qf
                  refine wpAnyH_done (by kernel_rfl) ?_ _
                  go_wp2_with fail
                  go_meet
                  exact ⟨_, rfl, HFIN, bE⟩
                ·
                  go_simp
                  obtain ⟨x3, hx3⟩ : ∃ x3, x3 = x2.alloc (.cells #[.string ⟨#[122]⟩, .slice none 0 0, .string op, .int .i64 tn, .slice a k' cap] 41) := ⟨_, rfl⟩
                  have hc3 : Below x2.heap.size x2 x3 := by rw [hx3]; exact (Below.refl _ _).alloc (Nat.le_refl _) _
                  have b3 := b2.trans (hc3.mono b2.size)
                  obtain ⟨g1, hg1⟩ : ∃ g1, g1 = x2.heap.size := ⟨_, rfl⟩
                  have hg1_3 : x3.heap[g1]? = some (.cells #[.string ⟨#[122]⟩, .slice none 0 0, .string op, .int .i64 tn, .slice a k' cap] 41 (0, 0)) := by rw [hx3, hg1]; exact World.alloc_heap_new x2 _
                  have hgb_3 := (hc3.block _ (Array.getElem?_eq_some_iff.1 hgb_2).1).trans hgb_2
                  have o3 : OwnBds x3 X.heap.size v0 [] := o2.below hc3
                  have nb0 : some g1 ≠ v0.ownBlock := by
                    intro e
                    have := (World.ownsRow.lt (show x2.ownsRow X.heap.size 41 5 v0 _ (flat5 []) from o2) g1 e.symm).2
                    omega
                  rw [← hx3, ← hg1]
                  clear hx3 hg1 hc3
                  clear hgb_2 o2
                  refine hK.out _ _ (HS.out _ b3) (fun hHeld => ?_)
                  clear hK K
                  refine wpAnyH_ready (rs := [2]) (by kernel_rfl) (by simp) (AllReadyH.cons rfl (fun K hK => ?_) AllReadyH.nil)
                  refine step_app_bds (by rfl) _ _ (by rfl) X.heap.size v0 [] (by rfl) o3 _ cs (by rfl) (by first | exact (HSRC.out.below b3) | exact (HSRC.out.below b3)) (by have := HLEN.out; simp; omega) b3.size ?_
                  intro v1 x4 o4 gr4 e4 d4
                  have b4 := b3.trans d4
                  rw [List.nil_append] at o4
                  have hgb_4 := (gr4.block _ (Array.getElem?_eq_some_iff.1 hgb_3).1 (o3.ne hgb_3)).trans hgb_3
                  have hg1_4 := (gr4.block _ (Array.getElem?_eq_some_iff.1 hg1_3).1 nb0).trans hg1_3
                  have nb1 : some g1 ≠ v1.ownBlock := by
                    rcases e4 with e | e
                    · rw [e]; exact nb0
                    · rw [e]; intro e2; have hlt := (Array.getElem?_eq_some_iff.1 hg1_3).1; simp at e2; omega
                  clear gr4 e4 d4
                  clear hgb_3 hg1_3 o3
                  refine hK.out _ _ (HS.out _ b4) (fun hHeld => ?_)
                  clear hK K
                  refine wpAnyH_ready (rs := [7]) (by kernel_rfl) (by simp) (AllReadyH.cons rfl (fun K hK => ?_) AllReadyH.nil)
                  refine step_app_bds (by rfl) _ _ (by rfl) X.heap.size v1 cs (by rfl) o4 _ [(.string ⟨#[122]⟩, .slice none 0 0, .string op, .int .i64 tn, .slice a k' cap)] (by rfl) (by first | exact (src_one5 hg1_4 HONE.out) | exact (src_one5 hg1_4 HONE.out)) (by have := HLEN.out; simp; omega) b4.size ?_
                  intro v2 x5 o5 gr5 e5 d5
                  have b5 := b4.trans d5
                  have hgb_5 := (gr5.block _ (Array.getElem?_eq_some_iff.1 hgb_4).1 (o4.ne hgb_4)).trans hgb_4
                  clear gr5 e5 d5
                  clear hgb_4 hg1_4 o4
                  obtain ⟨ra, rk, rc, hrf⟩ := o5.form
                  subst hrf
                  have HIB : Hid (IsBds x5 (.slice ra rk rc) (l ++ [bd1])) := o5.is (HARE.out.below b5)
                  clear o5
                  refine hK.out _ _ (HS.out _ b5) (fun hHeld => ?_)
                  clear hK K
                  refine wpAnyH_ready (rs := [9]) (by kernel_rfl) (by simp) (AllReadyH.cons rfl (fun K hK => ?_) AllReadyH.nil)
                  go_simp
                  go_at_call 9
                  obtain ⟨lo, hlo⟩ : ∃ lo, lo = x5.heap.size := ⟨_, rfl⟩
                  refine (sGeneral_any (l ++ [bd1]) _ T _ x5 HIB.out HOKL.out (isTy_below b5 _ _ HTX.out) HSZ.out).mono ?_
                  rintro e x6 ⟨va, vk, vc, s, n, ka, kl, kc, rfl, ho2, hi2, ht2, hc6⟩
                  rw [HGN.out] at ho2 hi2
                  have b6 := b5.trans (hc6.mono b5.size)
                  have lgb : gb < lo := by rw [hlo]; exact (Array.getElem?_eq_some_iff.1 hgb_5).1
                  obtain ⟨hi, hhi⟩ : ∃ hi, hi = x6.heap.size := ⟨_, rfl⟩
                  have HI2 : Hid (∀ y ∈ [], Em5.I64 y) := hi2
                  have O2 : Hid ((OwnInts x6 lo (.slice va vk vc) [] ∧ IsTyP (Btw lo hi) x6 T (.agg #[.string s, .int .i64 n, .slice ka kl kc])) ∧ hi ≤ x6.heap.size) := by rw [Hid, hlo, hhi]; exact ⟨⟨ho2, isTyP_btw ht2⟩, Nat.le_refl _⟩
                  clear ho2 hi2 ht2 hlo hhi
                  have hgb_6 := (hc6.block _ (Array.getElem?_eq_some_iff.1 hgb_5).1).trans hgb_5
                  clear hgb_5
                  clear hc6
                  (try dsimp only)
                  refine hK.out _ _ (HS.out _ b6) (fun hHeld => ?_)
                  clear hK K
                  have HFIN : Hid _ := sbox_set (c := #[]) hgb_6 O2.out.1.1 HI2.out O2.out.1.2 (.inl lgb)
                  have bE := below_set4 b6 mgb (.slice va vk vc) (.string s) (.int .i64 n) (.slice ka kl kc)
                  obtain ⟨q0, q1, q2, q3, qf⟩ := box4_cells hgb_6
                  refine wpAnyH_ready (rs := [11]) (by kernel_rfl) (by simp) (AllReadyH.cons rfl (fun K hK => ?_) AllReadyH.nil)
                  go_simp
                  refine hK.out _ _ (HS.out _ bE) (fun hHeld => ?_)
                  clear hK K q0 q1 q2 q3 qf
                  refine wpAnyH_done (by kernel_rfl) ?_ _
                  go_wp2_with fail
                  go_meet
                  exact ⟨_, rfl, HFIN, bE⟩
            ·
              go_simp
              obtain ⟨x1, hx1⟩ : ∃ x1, x1 = x0.alloc (.cells #[.string ⟨#[122]⟩, .slice none 0 0, .string op, .int .i64 tn, .slice a k' cap] 41) := ⟨_, rfl⟩
              have hc1 : Below x0.heap.size x0 x1 := by rw [hx1]; exact (Below.refl _ _).alloc (Nat.le_refl _) _
              have b1 := b0.trans (hc1.mono b0.size)
              obtain ⟨g1, hg1⟩ : ∃ g1, g1 = x0.heap.size := ⟨_, rfl⟩
              have hg1_1 : x1.heap[g1]? = some (.cells #[.string ⟨#[122]⟩, .slice none 0 0, .string op, .int .i64 tn, .slice a k' cap] 41 (0, 0)) := by rw [hx1, hg1]; exact World.alloc_heap_new x0 _
              rw [← hx1, ← hg1]
              clear hx1 hg1 hc1
              refine hK.out _ _ (HS.out _ b1) (fun hHeld => ?_)
              clear hK K
              refine wpAnyH_ready (rs := [0, 10]) (by kernel_rfl) (by simp) (AllReadyH.cons rfl (fun K hK => ?_) (AllReadyH.cons rfl (fun K hK => ?_) AllReadyH.nil))
              ·
                go_simp
                obtain ⟨x2, hx2⟩ : ∃ x2, x2 = x1.alloc (.cells #[] 41) := ⟨_, rfl⟩
                have hc2 : Below x1.heap.size x1 x2 := by rw [hx2]; exact (Below.refl _ _).alloc (Nat.le_refl _) _
                have b2 := b1.trans (hc2.mono b1.size)
                have o2 : OwnBds x2 X.heap.size (.slice (some ⟨x1.heap.size, 0, none⟩) 0 0) [] := by rw [hx2]; exact own_empty5 x1 b1.size
                obtain ⟨v0, hv0⟩ : ∃ v0, v0 = (Value.slice (some ⟨x1.heap.size, 0, none⟩) 0 0) := ⟨_, rfl⟩
                have hg1_2 := (hc2.block _ (Array.getElem?_eq_some_iff.1 hg1_1).1).trans hg1_1
                have nb0 : some g1 ≠ v0.ownBlock := by rw [hv0]; intro e; have hlt := (Array.getElem?_eq_some_iff.1 hg1_1).1; simp [Value.ownBlock] at e; omega
                rw [← hx2, ← hv0]
                rw [← hv0] at o2
                clear hx2 hv0 hc2
                clear hg1_1
                refine hK.out _ _ (HS.out _ b2) (fun hHeld => ?_)
                clear hK K
                refine wpAnyH_ready (rs := [2, 10]) (by kernel_rfl) (by simp) (AllReadyH.cons rfl (fun K hK => ?_) (AllReadyH.cons rfl (fun K hK => ?_) AllReadyH.nil))
                ·
                  refine step_app_bds (by rfl) _ _ (by rfl) X.heap.size v0 [] (by rfl) o2 _ cs (by rfl) (by first | exact (HSRC.out.below b2) | exact (HSRC.out.below b2)) (by have := HLEN.out; simp; omega) b2.size ?_
                  intro v1 x3 o3 gr3 e3 d3
                  have b3 := b2.trans d3
                  rw [List.nil_append] at o3
                  have hg1_3 := (gr3.block _ (Array.getElem?_eq_some_iff.1 hg1_2).1 nb0).trans hg1_2
                  have nb1 : some g1 ≠ v1.ownBlock := by
                    rcases e3 with e | e
                    · rw [e]; exact nb0
                    · rw [e]; intro e2; have hlt := (Array.getElem?_eq_some_iff.1 hg1_2).1; simp at e2; omega
                  clear gr3 e3 d3
                  clear hg1_2 o2
                  refine hK.out _ _ (HS.out _ b3) (fun hHeld => ?_)
                  clear hK K
                  refine wpAnyH_ready (rs := [7, 10]) (by kernel_rfl) (by simp) (AllReadyH.cons rfl (fun K hK => ?_) (AllReadyH.cons rfl (fun K hK => ?_) AllReadyH.nil))
                  ·
                    refine step_app_bds (by rfl) _ _ (by rfl) X.heap.size v1 cs (by rfl) o3 _ [(.string ⟨#[122]⟩, .slice none 0 0, .string op, .int .i64 tn, .slice a k' cap)] (by rfl) (by first | exact (src_one5 hg1_3 HONE.out) | exact (src_one5 hg1_3 HONE.out)) (by have := HLEN.out; simp; omega) b3.size ?_
                    intro v2 x4 o4 gr4 e4 d4
                    have b4 := b3.trans d4
                    clear gr4 e4 d4
                    clear hg1_3 o3
                    obtain ⟨ra, rk, rc, hrf⟩ := o4.form
                    subst hrf
                    have HIB : Hid (IsBds x4 (.slice ra rk rc) (l ++ [bd1])) := o4.is (HARE.out.below b4)
                    clear o4
                    refine hK.out _ _ (HS.out _ b4) (fun hHeld => ?_)
                    clear hK K
                    refine wpAnyH_ready (rs := [9, 10]) (by kernel_rfl) (by simp) (AllReadyH.cons rfl (fun K hK => ?_) (AllReadyH.cons rfl (fun K hK => ?_) AllReadyH.nil))
                    ·
                      go_simp
                      go_at_call 9
                      obtain ⟨lo, hlo⟩ : ∃ lo, lo = x4.heap.size := ⟨_, rfl⟩
                      refine (sGeneral_any (l ++ [bd1]) _ T _ x4 HIB.out HOKL.out (isTy_below b4 _ _ HTX.out) HSZ.out).mono ?_
                      rintro e x5 ⟨va, vk, vc, s, n, ka, kl, kc, rfl, ho2, hi2, ht2, hc5⟩
                      rw [HGN.out] at ho2 hi2
                      have b5 := b4.trans (hc5.mono b4.size)
                      obtain ⟨hi, hhi⟩ : ∃ hi, hi = x5.heap.size := ⟨_, rfl⟩
                      have HI2 : Hid (∀ y ∈ [], Em5.I64 y) := hi2
                      have O2 : Hid ((OwnInts x5 lo (.slice va vk vc) [] ∧ IsTyP (Btw lo hi) x5 T (.agg #[.string s, .int .i64 n, .slice ka kl kc])) ∧ hi ≤ x5.heap.size) := by rw [Hid, hlo, hhi]; exact ⟨⟨ho2, isTyP_btw ht2⟩, Nat.le_refl _⟩
                      clear ho2 hi2 ht2 hlo hhi
                      clear hc5
                      (try dsimp only)
                      refine hK.out _ _ (HS.out _ b5) (fun hHeld => ?_)
                      clear hK K
                      refine wpAnyH_ready (rs := [10]) (by kernel_rfl) (by simp) (AllReadyH.cons rfl (fun K hK => ?_) AllReadyH.nil)
                      go_simp
                      obtain ⟨x6, hx6⟩ : ∃ x6, x6 = x5.alloc zeroS := ⟨_, rfl⟩
                      have hc6 : Below x5.heap.size x5 x6 := by rw [hx6]; exact (Below.refl _ _).alloc (Nat.le_refl _) _
                      have b6 := b5.trans (hc6.mono b5.size)
                      obtain ⟨gb, hggb⟩ : ∃ gb, gb = x5.heap.size := ⟨_, rfl⟩
                      have hgb_6 : x6.heap[gb]? = some zeroS := by rw [hx6, hggb]; exact World.alloc_heap_new x5 _
                      have mgb : X.heap.size ≤ gb := by rw [hggb]; exact b5.size
                      have rgb : hi ≤ gb := by rw [hggb]; exact O2.out.2
                      replace O2 : Hid ((OwnInts x6 lo (.slice va vk vc) [] ∧ IsTyP (Btw lo hi) x6 T (.agg #[.string s, .int .i64 n, .slice ka kl kc])) ∧ hi ≤ x6.heap.size) := ⟨⟨O2.out.1.1.below hc6, isTyP_below O2.out.1.2 hc6⟩, Nat.le_trans O2.out.2 hc6.size⟩
                      rw [← hx6, ← hggb]
                      clear hx6 hggb hc6
                      refine hK.out _ _ (HS.out _ b6) (fun hHeld => ?_)
                      clear hK K
                      have HFIN : Hid _ := sbox_set (c := #[]) hgb_6 O2.out.1.1 HI2.out O2.out.1.2 (.inr rgb)
                      have bE := below_set4 b6 mgb (.slice va vk vc) (.string s) (.int .i64 n) (.slice ka kl kc)
                      obtain ⟨q0, q1, q2, q3, qf⟩ := box4_cells hgb_6
                      refine wpAnyH_ready (rs := [11]) (by kernel_rfl) (by simp) (AllReadyH.cons rfl (fun K hK => ?_) AllReadyH.nil)
                      go_simp
                      refine hK.out _ _ (HS.out _ bE) (fun hHeld => ?_)
                      clear hK K q0 q1 q2 q3 qf
                      refine wpAnyH_done (by kernel_rfl) ?_ _
                      go_wp2_with fail
                      go_meet
                      exact ⟨_, rfl, HFIN, bE⟩
                    ·
                      go_simp
                      obtain ⟨x5, hx5⟩ : ∃ x5, x5 = x4.alloc zeroS := ⟨_, rfl⟩
                      have hc5 : Below x4.heap.size x4 x5 := by rw [hx5]; exact (Below.refl _ _).alloc (Nat.le_refl _) _
                      have b5 := b4.trans (hc5.mono b4.size)
                      obtain ⟨gb, hggb⟩ : ∃ gb, gb = x4.heap.size := ⟨_, rfl⟩
                      have hgb_5 : x5.heap[gb]? = some zeroS := by rw [hx5, hggb]; exact World.alloc_heap_new x4 _
                      have mgb : X.heap.size ≤ gb := by rw [hggb]; exact b4.size
                      replace HIB : Hid (IsBds x5 (.slice ra rk rc) (l ++ [bd1])) := HIB.out.below hc5
                      rw [← hx5, ← hggb]
                      clear hx5 hggb hc5
                      refine hK.out _ _ (HS.out _ b5) (fun hHeld => ?_)
                      clear hK K
                      refine wpAnyH_ready (rs := [9]) (by kernel_rfl) (by simp) (AllReadyH.cons rfl (fun K hK => ?_) AllReadyH.nil)
                      go_simp
                      go_at_call 9
                      obtain ⟨lo, hlo⟩ : ∃ lo, lo = x5.heap.size := ⟨_, rfl⟩
                      refine (sGeneral_any (l ++ [bd1]) _ T _ x5 HIB.out HOKL.out (isTy_below b5 _ _ HTX.out) HSZ.out).mono ?_
                      rintro e x6 ⟨va, vk, vc, s, n, ka, kl, kc, rfl, ho2, hi2, ht2, hc6⟩
                      rw [HGN.out] at ho2 hi2
                      have b6 := b5.trans (hc6.mono b5.size)
                      have lgb : gb < lo := by rw [hlo]; exact (Array.getElem?_eq_some_iff.1 hgb_5).1
                      obtain ⟨hi, hhi⟩ : ∃ hi, hi = x6.heap.size := ⟨_, rfl⟩
                      have HI2 : Hid (∀ y ∈ [], Em5.I64 y) := hi2
                      have O2 : Hid ((OwnInts x6 lo (.slice va vk vc) [] ∧ IsTyP (Btw lo hi) x6 T (.agg #[.string s, .int .i64 n, .slice ka kl kc])) ∧ hi ≤ x6.heap.size) := by rw [Hid, hlo, hhi]; exact ⟨⟨ho2, isTyP_btw ht2⟩, Nat.le_refl _⟩
                      clear ho2 hi2 ht2 hlo hhi
                      have hgb_6 := (hc6.block _ (Array.getElem?_eq_some_iff.1 hgb_5).1).trans hgb_5
                      clear hgb_5
                      clear hc6
                      (try dsimp only)
                      refine hK.out _ _ (HS.out _ b6) (fun hHeld => ?_)
                      clear hK K
                      have HFIN : Hid _ := sbox_set (c := #[]) hgb_6 O2.out.1.1 HI2.out O2.out.1.2 (.inl lgb)
                      have bE := below_set4 b6 mgb (.slice va vk vc) (.string s) (.int .i64 n) (.slice ka kl kc)
                      obtain ⟨q0, q1, q2, q3, qf⟩ := box4_cells hgb_6
                      refine wpAnyH_ready (rs := [11]) (by kernel_rfl) (by simp) (AllReadyH.cons rfl (fun K hK => ?_) AllReadyH.nil)
                      go_simp
                      refine hK.out _ _ (HS.out _ bE) (fun hHeld => ?_)
                      clear hK K q0 q1 q2 q3 qf
                      refine wpAnyH_done (by kernel_rfl) ?_ _
                      go_wp2_with fail
                      go_meet
                      exact ⟨_, rfl, HFIN, bE⟩
                  ·
                    go_simp
                    obtain ⟨x4, hx4⟩ : ∃ x4, x4 = x3.alloc zeroS := ⟨_, rfl⟩
                    have hc4 : Below x3.heap.size x3 x4 := by rw [hx4]; exact (Below.refl _ _).alloc (Nat.le_refl _) _
                    have b4 := b3.trans (hc4.mono b3.size)
                    obtain ⟨gb, hggb⟩ : ∃ gb, gb = x3.heap.size := ⟨_, rfl⟩
                    have hgb_4 : x4.heap[gb]? = some zeroS := by rw [hx4, hggb]; exact World.alloc_heap_new x3 _
                    have mgb : X.heap.size ≤ gb := by rw [hggb]; exact b3.size
                    have hg1_4 := (hc4.block _ (Array.getElem?_eq_some_iff.1 hg1_3).1).trans hg1_3
                    have o4 : OwnBds x4 X.heap.size v1 cs := o3.below hc4
                    rw [← hx4, ← hggb]
                    clear hx4 hggb hc4
                    clear hg1_3 o3
                    refine hK.out _ _ (HS.out _ b4) (fun hHeld => ?_)
                    clear hK K
                    refine wpAnyH_ready (rs := [7]) (by kernel_rfl) (by simp) (AllReadyH.cons rfl (fun K hK => ?_) AllReadyH.nil)
                    refine step_app_bds (by rfl) _ _ (by rfl) X.heap.size v1 cs (by rfl) o4 _ [(.string ⟨#[122]⟩, .slice none 0 0, .string op, .int .i64 tn, .slice a k' cap)] (by rfl) (by first | exact (src_one5 hg1_4 HONE.out) | exact (src_one5 hg1_4 HONE.out)) (by have := HLEN.out; simp; omega) b4.size ?_
                    intro v2 x5 o5 gr5 e5 d5
                    have b5 := b4.trans d5
                    have hgb_5 := (gr5.block _ (Array.getElem?_eq_some_iff.1 hgb_4).1 (o4.ne hgb_4)).trans hgb_4
                    clear gr5 e5 d5
                    clear hgb_4 hg1_4 o4
                    obtain ⟨ra, rk, rc, hrf⟩ := o5.form
                    subst hrf
                    have HIB : Hid (IsBds x5 (.slice ra rk rc) (l ++ [bd1])) := o5.is (HARE.out.below b5)
                    clear o5
                    refine hK.out _ _ (HS.out _ b5) (fun hHeld => ?_)
                    clear hK K
                    refine wpAnyH_ready (rs := [9]) (by kernel_rfl) (by simp) (AllReadyH.cons rfl (fun K hK => ?_) AllReadyH.nil)
                    go_simp
                    go_at_call 9
                    obtain ⟨lo, hlo⟩ : ∃ lo, lo = x5.heap.size := ⟨_, rfl⟩
                    refine (sGeneral_any (l ++ [bd1]) _ T _ x5 HIB.out HOKL.out (isTy_below b5 _ _ HTX.out) HSZ.out).mono ?_
                    rintro e x6 ⟨va, vk, vc, s, n, ka, kl, kc, rfl, ho2, hi2, ht2, hc6⟩
                    rw [HGN.out] at ho2 hi2
                    have b6 := b5.trans (hc6.mono b5.size)
                    have lgb : gb < lo := by rw [hlo]; exact (Array.getElem?_eq_some_iff.1 hgb_5).1
                    obtain ⟨hi, hhi⟩ : ∃ hi, hi = x6.heap.size := ⟨_, rfl⟩
                    have HI2 : Hid (∀ y ∈ [], Em5.I64 y) := hi2
                    have O2 : Hid ((OwnInts x6 lo (.slice va vk vc) [] ∧ IsTyP (Btw lo hi) x6 T (.agg #[.string s, .int .i64 n, .slice ka kl kc])) ∧ hi ≤ x6.heap.size) := by rw [Hid, hlo, hhi]; exact ⟨⟨ho2, isTyP_btw ht2⟩, Nat.le_refl _⟩
                    clear ho2 hi2 ht2 hlo hhi
                    have hgb_6 := (hc6.block _ (Array.getElem?_eq_some_iff.1 hgb_5).1).trans hgb_5
                    clear hgb_5
                    clear hc6
                    (try dsimp only)
                    refine hK.out _ _ (HS.out _ b6) (fun hHeld => ?_)
                    clear hK K
                    have HFIN : Hid _ := sbox_set (c := #[]) hgb_6 O2.out.1.1 HI2.out O2.out.1.2 (.inl lgb)
                    have bE := below_set4 b6 mgb (.slice va vk vc) (.string s) (.int .i64 n) (.slice ka kl kc)
                    obtain ⟨q0, q1, q2, q3, qf⟩ := box4_cells hgb_6
                    refine wpAnyH_ready (rs := [11]) (by kernel_rfl) (by simp) (AllReadyH.cons rfl (fun K hK => ?_) AllReadyH.nil)
                    go_simp
                    refine hK.out _ _ (HS.out _ bE) (fun hHeld => ?_)
                    clear hK K q0 q1 q2 q3 qf
                    refine wpAnyH_done (by kernel_rfl) ?_ _
                    go_wp2_with fail
                    go_meet
                    exact ⟨_, rfl, HFIN, bE⟩
                ·
                  go_simp
                  obtain ⟨x3, hx3⟩ : ∃ x3, x3 = x2.alloc zeroS := ⟨_, rfl⟩
                  have hc3 : Below x2.heap.size x2 x3 := by rw [hx3]; exact (Below.refl _ _).alloc (Nat.le_refl _) _
                  have b3 := b2.trans (hc3.mono b2.size)
                  obtain ⟨gb, hggb⟩ : ∃ gb, gb = x2.heap.size := ⟨_, rfl⟩
                  have hgb_3 : x3.heap[gb]? = some zeroS := by rw [hx3, hggb]; exact World.alloc_heap_new x2 _
                  have mgb : X.heap.size ≤ gb := by rw [hggb]; exact b2.size
                  have hg1_3 := (hc3.block _ (Array.getElem?_eq_some_iff.1 hg1_2).1).trans hg1_2
                  have o3 : OwnBds x3 X.heap.size v0 [] := o2.below hc3
                  rw [← hx3, ← hggb]
                  clear hx3 hggb hc3
                  clear hg1_2 o2
                  refine hK.out _ _ (HS.out _ b3) (fun hHeld => ?_)
                  clear hK K
                  refine wpAnyH_ready (rs := [2]) (by kernel_rfl) (by simp) (AllReadyH.cons rfl (fun K hK => ?_) AllReadyH.nil)
                  refine step_app_bds (by rfl) _ _ (by rfl) X.heap.size v0 [] (by rfl) o3 _ cs (by rfl) (by first | exact (HSRC.out.below b3) | exact (HSRC.out.below b3)) (by have := HLEN.out; simp; omega) b3.size ?_
                  intro v1 x4 o4 gr4 e4 d4
                  have b4 := b3.trans d4
                  rw [List.nil_append] at o4
                  have hgb_4 := (gr4.block _ (Array.getElem?_eq_some_iff.1 hgb_3).1 (o3.ne hgb_3)).trans hgb_3
                  have hg1_4 := (gr4.block _ (Array.getElem?_eq_some_iff.1 hg1_3).1 nb0).trans hg1_3
                  have nb1 : some g1 ≠ v1.ownBlock := by
                    rcases e4 with e | e
                    · rw [e]; exact nb0
                    · rw [e]; intro e2; have hlt := (Array.getElem?_eq_some_iff.1 hg1_3).1; simp at e2; omega
                  clear gr4 e4 d4
                  clear hgb_3 hg1_3 o3
                  refine hK.out _ _ (HS.out _ b4) (fun hHeld => ?_)
                  clear hK K
                  refine wpAnyH_ready (rs := [7]) (by kernel_rfl) (by simp) (AllReadyH.cons rfl (fun K hK => ?_) AllReadyH.nil)
                  refine step_app_bds (by rfl) _ _ (by rfl) X.heap.size v1 cs (by rfl) o4 _ [(.string ⟨#[122]⟩, .slice none 0 0, .string op, .int .i64 tn, .slice a k' cap)] (by rfl) (by first | exact (src_one5 hg1_4 HONE.out) | exact (src_one5 hg1_4 HONE.out)) (by have := HLEN.out; simp; omega) b4.size ?_
                  intro v2 x5 o5 gr5 e5 d5
                  have b5 := b4.trans d5
                  have hgb_5 := (gr5.block _ (Array.getElem?_eq_some_iff.1 hgb_4).1 (o4.ne hgb_4)).trans hgb_4
                  clear gr5 e5 d5
                  clear hgb_4 hg1_4 o4
                  obtain ⟨ra, rk, rc, hrf⟩ := o5.form
                  subst hrf
                  have HIB : Hid (IsBds x5 (.slice ra rk rc) (l ++ [bd1])) := o5.is (HARE.out.below b5)
                  clear o5
                  refine hK.out _ _ (HS.out _ b5) (fun hHeld => ?_)
                  clear hK K
                  refine wpAnyH_ready (rs := [9]) (by kernel_rfl) (by simp) (AllReadyH.cons rfl (fun K hK => ?_) AllReadyH.nil)
                  go_simp
                  go_at_call 9
                  obtain ⟨lo, hlo⟩ : ∃ lo, lo = x5.heap.size := ⟨_, rfl⟩
                  refine (sGeneral_any (l ++ [bd1]) _ T _ x5 HIB.out HOKL.out (isTy_below b5 _ _ HTX.out) HSZ.out).mono ?_
                  rintro e x6 ⟨va, vk, vc, s, n, ka, kl, kc, rfl, ho2, hi2, ht2, hc6⟩
                  rw [HGN.out] at ho2 hi2
                  have b6 := b5.trans (hc6.mono b5.size)
                  have lgb : gb < lo := by rw [hlo]; exact (Array.getElem?_eq_some_iff.1 hgb_5).1
                  obtain ⟨hi, hhi⟩ : ∃ hi, hi = x6.heap.size := ⟨_, rfl⟩
                  have HI2 : Hid (∀ y ∈ [], Em5.I64 y) := hi2
                  have O2 : Hid ((OwnInts x6 lo (.slice va vk vc) [] ∧ IsTyP (Btw lo hi) x6 T (.agg #[.string s, .int .i64 n, .slice ka kl kc])) ∧ hi ≤ x6.heap.size) := by rw [Hid, hlo, hhi]; exact ⟨⟨ho2, isTyP_btw ht2⟩, Nat.le_refl _⟩
                  clear ho2 hi2 ht2 hlo hhi
                  have hgb_6 := (hc6.block _ (Array.getElem?_eq_some_iff.1 hgb_5).1).trans hgb_5
                  clear hgb_5
                  clear hc6
                  (try dsimp only)
                  refine hK.out _ _ (HS.out _ b6) (fun hHeld => ?_)
                  clear hK K
                  have HFIN : Hid _ := sbox_set (c := #[]) hgb_6 O2.out.1.1 HI2.out O2.out.1.2 (.inl lgb)
                  have bE := below_set4 b6 mgb (.slice va vk vc) (.string s) (.int .i64 n) (.slice ka kl kc)
                  obtain ⟨q0, q1, q2, q3, qf⟩ := box4_cells hgb_6
                  refine wpAnyH_ready (rs := [11]) (by kernel_rfl) (by simp) (AllReadyH.cons rfl (fun K hK => ?_) AllReadyH.nil)
                  go_simp
                  refine hK.out _ _ (HS.out _ bE) (fun hHeld => ?_)
                  clear hK K q0 q1 q2 q3 qf
                  refine wpAnyH_done (by kernel_rfl) ?_ _
                  go_wp2_with fail
                  go_meet
                  exact ⟨_, rfl, HFIN, bE⟩
              ·
                go_simp
                obtain ⟨x2, hx2⟩ : ∃ x2, x2 = x1.alloc zeroS := ⟨_, rfl⟩
                have hc2 : Below x1.heap.size x1 x2 := by rw [hx2]; exact (Below.refl _ _).alloc (Nat.le_refl _) _
                have b2 := b1.trans (hc2.mono b1.size)
                obtain ⟨gb, hggb⟩ : ∃ gb, gb = x1.heap.size := ⟨_, rfl⟩
                have hgb_2 : x2.heap[gb]? = some zeroS := by rw [hx2, hggb]; exact World.alloc_heap_new x1 _
                have mgb : X.heap.size ≤ gb := by rw [hggb]; exact b1.size
                have hg1_2 := (hc2.block _ (Array.getElem?_eq_some_iff.1 hg1_1).1).trans hg1_1
                rw [← hx2, ← hggb]
                clear hx2 hggb hc2
                clear hg1_1
                refine hK.out _ _ (HS.out _ b2) (fun hHeld => ?_)
                clear hK K
                refine wpAnyH_ready (rs := [0]) (by kernel_rfl) (by simp) (AllReadyH.cons rfl (fun K hK => ?_) AllReadyH.nil)
                go_simp
                obtain ⟨x3, hx3⟩ : ∃ x3, x3 = x2.alloc (.cells #[] 41) := ⟨_, rfl⟩
                have hc3 : Below x2.heap.size x2 x3 := by rw [hx3]; exact (Below.refl _ _).alloc (Nat.le_refl _) _
                have b3 := b2.trans (hc3.mono b2.size)
                have o3 : OwnBds x3 X.heap.size (.slice (some ⟨x2.heap.size, 0, none⟩) 0 0) [] := by rw [hx3]; exact own_empty5 x2 b2.size
                obtain ⟨v0, hv0⟩ : ∃ v0, v0 = (Value.slice (some ⟨x2.heap.size, 0, none⟩) 0 0) := ⟨_, rfl⟩
                have hgb_3 := (hc3.block _ (Array.getElem?_eq_some_iff.1 hgb_2).1).trans hgb_2
                have hg1_3 := (hc3.block _ (Array.getElem?_eq_some_iff.1 hg1_2).1).trans hg1_2
                have nb0 : some g1 ≠ v0.ownBlock := by rw [hv0]; intro e; have hlt := (Array.getElem?_eq_some_iff.1 hg1_2).1; simp [Value.ownBlock] at e; omega
                rw [← hx3, ← hv0]
                rw [← hv0] at o3
                clear hx3 hv0 hc3
                clear hgb_2 hg1_2
                refine hK.out _ _ (HS.out _ b3) (fun hHeld => ?_)
                clear hK K
                refine wpAnyH_ready (rs := [2]) (by kernel_rfl) (by simp) (AllReadyH.cons rfl (fun K hK => ?_) AllReadyH.nil)
                refine step_app_bds (by rfl) _ _ (by rfl) X.heap.size v0 [] (by rfl) o3 _ cs (by rfl) (by first | exact (HSRC.out.below b3) | exact (HSRC.out.below b3)) (by have := HLEN.out; simp; omega) b3.size ?_
                intro v1 x4 o4 gr4 e4 d4
                have b4 := b3.trans d4
                rw [List.nil_append] at o4
                have hgb_4 := (gr4.block _ (Array.getElem?_eq_some_iff.1 hgb_3).1 (o3.ne hgb_3)).trans hgb_3
                have hg1_4 := (gr4.block _ (Array.getElem?_eq_some_iff.1 hg1_3).1 nb0).trans hg1_3
                have nb1 : some g1 ≠ v1.ownBlock := by
                  rcases e4 with e | e
                  · rw [e]; exact nb0
                  · rw [e]; intro e2; have hlt := (Array.getElem?_eq_some_iff.1 hg1_3).1; simp at e2; omega
                clear gr4 e4 d4
                clear hgb_3 hg1_3 o3
                refine hK.out _ _ (HS.out _ b4) (fun hHeld => ?_)
                clear hK K
                refine wpAnyH_ready (rs := [7]) (by kernel_rfl) (by simp) (AllReadyH.cons rfl (fun K hK => ?_) AllReadyH.nil)
                refine step_app_bds (by rfl) _ _ (by rfl) X.heap.size v1 cs (by rfl) o4 _ [(.string ⟨#[122]⟩, .slice none 0 0, .string op, .int .i64 tn, .slice a k' cap)] (by rfl) (by first | exact (src_one5 hg1_4 HONE.out) | exact (src_one5 hg1_4 HONE.out)) (by have := HLEN.out; simp; omega) b4.size ?_
                intro v2 x5 o5 gr5 e5 d5
                have b5 := b4.trans d5
                have hgb_5 := (gr5.block _ (Array.getElem?_eq_some_iff.1 hgb_4).1 (o4.ne hgb_4)).trans hgb_4
                clear gr5 e5 d5
                clear hgb_4 hg1_4 o4
                obtain ⟨ra, rk, rc, hrf⟩ := o5.form
                subst hrf
                have HIB : Hid (IsBds x5 (.slice ra rk rc) (l ++ [bd1])) := o5.is (HARE.out.below b5)
                clear o5
                refine hK.out _ _ (HS.out _ b5) (fun hHeld => ?_)
                clear hK K
                refine wpAnyH_ready (rs := [9]) (by kernel_rfl) (by simp) (AllReadyH.cons rfl (fun K hK => ?_) AllReadyH.nil)
                go_simp
                go_at_call 9
                obtain ⟨lo, hlo⟩ : ∃ lo, lo = x5.heap.size := ⟨_, rfl⟩
                refine (sGeneral_any (l ++ [bd1]) _ T _ x5 HIB.out HOKL.out (isTy_below b5 _ _ HTX.out) HSZ.out).mono ?_
                rintro e x6 ⟨va, vk, vc, s, n, ka, kl, kc, rfl, ho2, hi2, ht2, hc6⟩
                rw [HGN.out] at ho2 hi2
                have b6 := b5.trans (hc6.mono b5.size)
                have lgb : gb < lo := by rw [hlo]; exact (Array.getElem?_eq_some_iff.1 hgb_5).1
                obtain ⟨hi, hhi⟩ : ∃ hi, hi = x6.heap.size := ⟨_, rfl⟩
                have HI2 : Hid (∀ y ∈ [], Em5.I64 y) := hi2
                have O2 : Hid ((OwnInts x6 lo (.slice va vk vc) [] ∧ IsTyP (Btw lo hi) x6 T (.agg #[.string s, .int .i64 n, .slice ka kl kc])) ∧ hi ≤ x6.heap.size) := by rw [Hid, hlo, hhi]; exact ⟨⟨ho2, isTyP_btw ht2⟩, Nat.le_refl _⟩
                clear ho2 hi2 ht2 hlo hhi
                have hgb_6 := (hc6.block _ (Array.getElem?_eq_some_iff.1 hgb_5).1).trans hgb_5
                clear hgb_5
                clear hc6
                (try dsimp only)
                refine hK.out _ _ (HS.out _ b6) (fun hHeld => ?_)
                clear hK K
                have HFIN : Hid _ := sbox_set (c := #[]) hgb_6 O2.out.1.1 HI2.out O2.out.1.2 (.inl lgb)
                have bE := below_set4 b6 mgb (.slice va vk vc) (.string s) (.int .i64 n) (.slice ka kl kc)
                obtain ⟨q0, q1, q2, q3, qf⟩ := box4_cells hgb_6
                refine wpAnyH_ready (rs := [11]) (by kernel_rfl) (by simp) (AllReadyH.cons rfl (fun K hK => ?_) AllReadyH.nil)
                go_simp
                refine hK.out _ _ (HS.out _ bE) (fun hHeld => ?_)
                clear hK K q0 q1 q2 q3 qf
                refine wpAnyH_done (by kernel_rfl) ?_ _
                go_wp2_with fail
                go_meet
                exact ⟨_, rfl, HFIN, bE⟩
            ·
              go_simp
              obtain ⟨x1, hx1⟩ : ∃ x1, x1 = x0.alloc zeroS := ⟨_, rfl⟩
              have hc1 : Below x0.heap.size x0 x1 := by rw [hx1]; exact (Below.refl _ _).alloc (Nat.le_refl _) _
              have b1 := b0.trans (hc1.mono b0.size)
              obtain ⟨gb, hggb⟩ : ∃ gb, gb = x0.heap.size := ⟨_, rfl⟩
              have hgb_1 : x1.heap[gb]? = some zeroS := by rw [hx1, hggb]; exact World.alloc_heap_new x0 _
              have mgb : X.heap.size ≤ gb := by rw [hggb]; exact b0.size
              rw [← hx1, ← hggb]
              clear hx1 hggb hc1
              refine hK.out _ _ (HS.out _ b1) (fun hHeld => ?_)
              clear hK K
              refine wpAnyH_ready (rs := [0, 6]) (by kernel_rfl) (by simp) (AllReadyH.cons rfl (fun K hK => ?_) (AllReadyH.cons rfl (fun K hK => ?_) AllReadyH.nil))
              ·
                go_simp
                obtain ⟨x2, hx2⟩ : ∃ x2, x2 = x1.alloc (.cells #[] 41) := ⟨_, rfl⟩
                have hc2 : Below x1.heap.size x1 x2 := by rw [hx2]; exact (Below.refl _ _).alloc (Nat.le_refl _) _
                have b2 := b1.trans (hc2.mono b1.size)
                have o2 : OwnBds x2 X.heap.size (.slice (some ⟨x1.heap.size, 0, none⟩) 0 0) [] := by rw [hx2]; exact own_empty5 x1 b1.size
                obtain ⟨v0, hv0⟩ : ∃ v0, v0 = (Value.slice (some ⟨x1.heap.size, 0, none⟩) 0 0) := ⟨_, rfl⟩
                have hgb_2 := (hc2.block _ (Array.getElem?_eq_some_iff.1 hgb_1).1).trans hgb_1
                rw [← hx2, ← hv0]
                rw [← hv0] at o2
                clear hx2 hv0 hc2
                clear hgb_1
                refine hK.out _ _ (HS.out _ b2) (fun hHeld => ?_)
                clear hK K
                refine wpAnyH_ready (rs := [2, 6]) (by kernel_rfl) (by simp) (AllReadyH.cons rfl (fun K hK => ?_) (AllReadyH.cons rfl (fun K hK => ?_) AllReadyH.nil))
                ·
                  refine step_app_bds (by rfl) _ _ (by rfl) X.heap.size v0 [] (by rfl) o2 _ cs (by rfl) (by first | exact (HSRC.out.below b2) | exact (HSRC.out.below b2)) (by have := HLEN.out; simp; omega) b2.size ?_
                  intro v1 x3 o3 gr3 e3 d3
                  have b3 := b2.trans d3
                  rw [List.nil_append] at o3
                  have hgb_3 := (gr3.block _ (Array.getElem?_eq_some_iff.1 hgb_2).1 (o2.ne hgb_2)).trans hgb_2
                  clear gr3 e3 d3
                  clear hgb_2 o2
                  refine hK.out _ _ (HS.out _ b3) (fun hHeld => ?_)
                  clear hK K
                  refine wpAnyH_ready (rs := [6]) (by kernel_rfl) (by simp) (AllReadyH.cons rfl (fun K hK => ?_) AllReadyH.nil)
                  go_simp
                  obtain ⟨x4, hx4⟩ : ∃ x4, x4 = x3.alloc (.cells #[.string ⟨#[122]⟩, .slice none 0 0, .string op, .int .i64 tn, .slice a k' cap] 41) := ⟨_, rfl⟩
                  have hc4 : Below x3.heap.size x3 x4 := by rw [hx4]; exact (Below.refl _ _).alloc (Nat.le_refl _) _
                  have b4 := b3.trans (hc4.mono b3.size)
                  obtain ⟨g1, hg1⟩ : ∃ g1, g1 = x3.heap.size := ⟨_, rfl⟩
                  have hg1_4 : x4.heap[g1]? = some (.cells #[.string ⟨#[122]⟩, .slice none 0 0, .string op, .int .i64 tn, .slice a k' cap] 41 (0, 0)) := by rw [hx4, hg1]; exact World.alloc_heap_new x3 _
                  have hgb_4 := (hc4.block _ (Array.getElem?_eq_some_iff.1 hgb_3).1).trans hgb_3
                  have o4 : OwnBds x4 X.heap.size v1 cs := o3.below hc4
                  have nb1 : some g1 ≠ v1.ownBlock := by
                    intro e
                    have := (World.ownsRow.lt (show x3.ownsRow X.heap.size 41 5 v1 _ (flat5 cs) from o3) g1 e.symm).2
                    omega
                  rw [← hx4, ← hg1]
                  clear hx4 hg1 hc4
                  clear hgb_3 o3
                  refine hK.out _ _ (HS.out _ b4) (fun hHeld => ?_)
                  clear hK K
                  refine wpAnyH_ready (rs := [7]) (by kernel_rfl) (by simp) (AllReadyH.cons rfl (fun K hK => ?_) AllReadyH.nil)
                  refine step_app_bds (by rfl) _ _ (by rfl) X.heap.size v1 cs (by rfl) o4 _ [(.string ⟨#[122]⟩, .slice none 0 0, .string op, .int .i64 tn, .slice a k' cap)] (by rfl) (by first | exact (src_one5 hg1_4 HONE.out) | exact (src_one5 hg1_4 HONE.out)) (by have := HLEN.out; simp; omega) b4.size ?_
                  intro v2 x5 o5 gr5 e5 d5
                  have b5 := b4.trans d5
                  have hgb_5 := (gr5.block _ (Array.getElem?_eq_some_iff.1 hgb_4).1 (o4.ne hgb_4)).trans hgb_4
                  clear gr5 e5 d5
                  clear hgb_4 hg1_4 o4
                  obtain ⟨ra, rk, rc, hrf⟩ := o5.form
                  subst hrf
                  have HIB : Hid (IsBds x5 (.slice ra rk rc) (l ++ [bd1])) := o5.is (HARE.out.below b5)
                  clear o5
                  refine hK.out _ _ (HS.out _ b5) (fun hHeld => ?_)
                  clear hK K
                  refine wpAnyH_ready (rs := [9]) (by kernel_rfl) (by simp) (AllReadyH.cons rfl (fun K hK => ?_) AllReadyH.nil)
                  go_simp
                  go_at_call 9
                  obtain ⟨lo, hlo⟩ : ∃ lo, lo = x5.heap.size := ⟨_, rfl⟩
                  refine (sGeneral_any (l ++ [bd1]) _ T _ x5 HIB.out HOKL.out (isTy_below b5 _ _ HTX.out) HSZ.out).mono ?_
                  rintro e x6 ⟨va, vk, vc, s, n, ka, kl, kc, rfl, ho2, hi2, ht2, hc6⟩
                  rw [HGN.out] at ho2 hi2
                  have b6 := b5.trans (hc6.mono b5.size)
                  have lgb : gb < lo := by rw [hlo]; exact (Array.getElem?_eq_some_iff.1 hgb_5).1
                  obtain ⟨hi, hhi⟩ : ∃ hi, hi = x6.heap.size := ⟨_, rfl⟩
                  have HI2 : Hid (∀ y ∈ [], Em5.I64 y) := hi2
                  have O2 : Hid ((OwnInts x6 lo (.slice va vk vc) [] ∧ IsTyP (Btw lo hi) x6 T (.agg #[.string s, .int .i64 n, .slice ka kl kc])) ∧ hi ≤ x6.heap.size) := by rw [Hid, hlo, hhi]; exact ⟨⟨ho2, isTyP_btw ht2⟩, Nat.le_refl _⟩
                  clear ho2 hi2 ht2 hlo hhi
                  have hgb_6 := (hc6.block _ (Array.getElem?_eq_some_iff.1 hgb_5).1).trans hgb_5
                  clear hgb_5
                  clear hc6
                  (try dsimp only)
                  refine hK.out _ _ (HS.out _ b6) (fun hHeld => ?_)
                  clear hK K
                  have HFIN : Hid _ := sbox_set (c := #[]) hgb_6 O2.out.1.1 HI2.out O2.out.1.2 (.inl lgb)
                  have bE := below_set4 b6 mgb (.slice va vk vc) (.string s) (.int .i64 n) (.slice ka kl kc)
                  obtain ⟨q0, q1, q2, q3, qf⟩ := box4_cells hgb_6
                  refine wpAnyH_ready (rs := [11]) (by kernel_rfl) (by simp) (AllReadyH.cons rfl (fun K hK => ?_) AllReadyH.nil)
                  go_simp
                  refine hK.out _ _ (HS.out _ bE) (fun hHeld => ?_)
                  clear hK K q0 q1 q2 q3 qf
                  refine wpAnyH_done (by kernel_rfl) ?_ _
                  go_wp2_with fail
                  go_meet
                  exact ⟨_, rfl, HFIN, bE⟩
                ·
                  go_simp
                  obtain ⟨x3, hx3⟩ : ∃ x3, x3 = x2.alloc (.cells #[.string ⟨#[122]⟩, .slice none 0 0, .string op, .int .i64 tn, .slice a k' cap] 41) := ⟨_, rfl⟩
                  have hc3 : Below x2.heap.size x2 x3 := by rw [hx3]; exact (Below.refl _ _).alloc (Nat.le_refl _) _
                  have b3 := b2.trans (hc3.mono b2.size)
                  obtain ⟨g1, hg1⟩ : ∃ g1, g1 = x2.heap.size := ⟨_, rfl⟩
                  have hg1_3 : x3.heap[g1]? = some (.cells #[.string ⟨#[122]⟩, .slice none 0 0, .string op, .int .i64 tn, .slice a k' cap] 41 (0, 0)) := by rw [hx3, hg1]; exact World.alloc_heap_new x2 _
                  have hgb_3 := (hc3.block _ (Array.getElem?_eq_some_iff.1 hgb_2).1).trans hgb_2
                  have o3 : OwnBds x3 X.heap.size v0 [] := o2.below hc3
                  have nb0 : some g1 ≠ v0.ownBlock := by
                    intro e
                    have := (World.ownsRow.lt (show x2.ownsRow X.heap.size 41 5 v0 _ (flat5 []) from o2) g1 e.symm).2
                    omega
                  rw [← hx3, ← hg1]
                  clear hx3 hg1 hc3
                  clear hgb_2 o2
                  refine hK.out _ _ (HS.out _ b3) (fun hHeld => ?_)
                  clear hK K
                  refine wpAnyH_ready (rs := [2]) (by kernel_rfl) (by simp) (AllReadyH.cons rfl (fun K hK => ?_) AllReadyH.nil)
                  refine step_app_bds (by rfl) _ _ (by rfl) X.heap.size v0 [] (by rfl) o3 _ cs (by rfl) (by first | exact (HSRC.out.below b3) | exact (HSRC.out.below b3)) (by have := HLEN.out; simp; omega) b3.size ?_
                  intro v1 x4 o4 gr4 e4 d4
                  have b4 := b3.trans d4
                  rw [List.nil_append] at o4
                  have hgb_4 := (gr4.block _ (Array.getElem?_eq_some_iff.1 hgb_3).1 (o3.ne hgb_3)).trans hgb_3
                  have hg1_4 := (gr4.block _ (Array.getElem?_eq_some_iff.1 hg1_3).1 nb0).trans hg1_3
                  have nb1 : some g1 ≠ v1.ownBlock := by
                    rcases e4 with e | e
                    · rw [e]; exact nb0
                    · rw [e]; intro e2; have hlt := (Array.getElem?_eq_some_iff.1 hg1_3).1; simp at e2; omega
                  clear gr4 e4 d4
                  clear hgb_3 hg1_3 o3
                  refine hK.out _ _ (HS.out _ b4) (fun hHeld => ?_)
                  clear hK K
                  refine wpAnyH_ready (rs := [7]) (by kernel_rfl) (by simp) (AllReadyH.cons rfl (fun K hK => ?_) AllReadyH.nil)
                  refine step_app_bds (by rfl) _ _ (by rfl) X.heap.size v1 cs (by rfl) o4 _ [(.string ⟨#[122]⟩, .slice none 0 0, .string op, .int .i64 tn, .slice a k' cap)] (by rfl) (by first | exact (src_one5 hg1_4 HONE.out) | exact (src_one5 hg1_4 HONE.out)) (by have := HLEN.out; simp; omega) b4.size ?_
                  intro v2 x5 o5 gr5 e5 d5
                  have b5 := b4.trans d5
                  have hgb_5 := (gr5.block _ (Array.getElem?_eq_some_iff.1 hgb_4).1 (o4.ne hgb_4)).trans hgb_4
                  clear gr5 e5 d5
                  clear hgb_4 hg1_4 o4
                  obtain ⟨ra, rk, rc, hrf⟩ := o5.form
                  subst hrf
                  have HIB : Hid (IsBds x5 (.slice ra rk rc) (l ++ [bd1])) := o5.is (HARE.out.below b5)
                  clear o5
                  refine hK.out _ _ (HS.out _ b5) (fun hHeld => ?_)
                  clear hK K
                  refine wpAnyH_ready (rs := [9]) (by kernel_rfl) (by simp) (AllReadyH.cons rfl (fun K hK => ?_) AllReadyH.nil)
                  go_simp
                  go_at_call 9
                  obtain ⟨lo, hlo⟩ : ∃ lo, lo = x5.heap.size := ⟨_, rfl⟩
                  refine (sGeneral_any (l ++ [bd1]) _ T _ x5 HIB.out HOKL.out (isTy_below b5 _ _ HTX.out) HSZ.out).mono ?_
                  rintro e x6 ⟨va, vk, vc, s, n, ka, kl, kc, rfl, ho2, hi2, ht2, hc6⟩
                  rw [HGN.out] at ho2 hi2
                  have b6 := b5.trans (hc6.mono b5.size)
                  have lgb : gb < lo := by rw [hlo]; exact (Array.getElem?_eq_some_iff.1 hgb_5).1
                  obtain ⟨hi, hhi⟩ : ∃ hi, hi = x6.heap.size := ⟨_, rfl⟩
                  have HI2 : Hid (∀ y ∈ [], Em5.I64 y) := hi2
                  have O2 : Hid ((OwnInts x6 lo (.slice va vk vc) [] ∧ IsTyP (Btw lo hi) x6 T (.agg #[.string s, .int .i64 n, .slice ka kl kc])) ∧ hi ≤ x6.heap.size) := by rw [Hid, hlo, hhi]; exact ⟨⟨ho2, isTyP_btw ht2⟩, Nat.le_refl _⟩
                  clear ho2 hi2 ht2 hlo hhi
                  have hgb_6 := (hc6.block _ (Array.getElem?_eq_some_iff.1 hgb_5).1).trans hgb_5
                  clear hgb_5
                  clear hc6
                  (try dsimp only)
                  refine hK.out _ _ (HS.out _ b6) (fun hHeld => ?_)
                  clear hK K
                  have HFIN : Hid _ := sbox_set (c := #[]) hgb_6 O2.out.1.1 HI2.out O2.out.1.2 (.inl lgb)
                  have bE := below_set4 b6 mgb (.slice va vk vc) (.string s) (.int .i64 n) (.slice ka kl kc)
                  obtain ⟨q0, q1, q2, q3, qf⟩ := box4_cells hgb_6
                  refine wpAnyH_ready (rs := [11]) (by kernel_rfl) (by simp) (AllReadyH.cons rfl (fun K hK => ?_) AllReadyH.nil)
                  go_simp
                  refine hK.out _ _ (HS.out _ bE) (fun hHeld => ?_)
                  clear hK K q0 q1 q2 q3 qf
                  refine wpAnyH_done (by kernel_rfl) ?_ _
                  go_wp2_with fail
                  go_meet
                  exact ⟨_, rfl, HFIN, bE⟩
              ·
                go_simp
                obtain ⟨x2, hx2⟩ : ∃ x2, x2 = x1.alloc (.cells #[.string ⟨#[122]⟩, .slice none 0 0, .string op, .int .i64 tn, .slice a k' cap] 41) := ⟨_, rfl⟩
                have hc2 : Below x1.heap.size x1 x2 := by rw [hx2]; exact (Below.refl _ _).alloc (Nat.le_refl _) _
                have b2 := b1.trans (hc2.mono b1.size)
                obtain ⟨g1, hg1⟩ : ∃ g1, g1 = x1.heap.size := ⟨_, rfl⟩
                have hg1_2 : x2.heap[g1]? = some (.cells #[.string ⟨#[122]⟩, .slice none 0 0, .string op, .int .i64 tn, .slice a k' cap] 41 (0, 0)) := by rw [hx2, hg1]; exact World.alloc_heap_new x1 _
                have hgb_2 := (hc2.block _ (Array.getElem?_eq_some_iff.1 hgb_1).1).trans hgb_1
                rw [← hx2, ← hg1]
                clear hx2 hg1 hc2
                clear hgb_1
                refine hK.out _ _ (HS.out _ b2) (fun hHeld => ?_)
                clear hK K
                refine wpAnyH_ready (rs := [0]) (by kernel_rfl) (by simp) (AllReadyH.cons rfl (fun K hK => ?_) AllReadyH.nil)
                go_simp
                obtain ⟨x3, hx3⟩ : ∃ x3, x3 = x2.alloc (.cells #[] 41) := ⟨_, rfl⟩
                have hc3 : Below x2.heap.size x2 x3 := by rw [hx3]; exact (Below.refl _ _).alloc (Nat.le_refl _) _
                have b3 := b2.trans (hc3.mono b2.size)
                have o3 : OwnBds x3 X.heap.size (.slice (some ⟨x2.heap.size, 0, none⟩) 0 0) [] := by rw [hx3]; exact own_empty5 x2 b2.size
                obtain ⟨v0, hv0⟩ : ∃ v0, v0 = (Value.slice (some ⟨x2.heap.size, 0, none⟩) 0 0) := ⟨_, rfl⟩
                have hgb_3 := (hc3.block _ (Array.getElem?_eq_some_iff.1 hgb_2).1).trans hgb_2
                have hg1_3 := (hc3.block _ (Array.getElem?_eq_some_iff.1 hg1_2).1).trans hg1_2
                have nb0 : some g1 ≠ v0.ownBlock := by rw [hv0]; intro e; have hlt := (Array.getElem?_eq_some_iff.1 hg1_2).1; simp [Value.ownBlock] at e; omega
                rw [← hx3, ← hv0]
                rw [← hv0] at o3
                clear hx3 hv0 hc3
                clear hgb_2 hg1_2
                refine hK.out _ _ (HS.out _ b3) (fun hHeld => ?_)
                clear hK K
                refine wpAnyH_ready (rs := [2]) (by kernel_rfl) (by simp) (AllReadyH.cons rfl (fun K hK => ?_) AllReadyH.nil)
                refine step_app_bds (by rfl) _ _ (by rfl) X.heap.size v0 [] (by rfl) o3 _ cs (by rfl) (by first | exact (HSRC.out.below b3) | exact (HSRC.out.below b3)) (by have := HLEN.out; simp; omega) b3.size ?_
                intro v1 x4 o4 gr4 e4 d4
                have b4 := b3.trans d4
                rw [List.nil_append] at o4
                have hgb_4 := (gr4.block _ (Array.getElem?_eq_some_iff.1 hgb_3).1 (o3.ne hgb_3)).trans hgb_3
                have hg1_4 := (gr4.block _ (Array.getElem?_eq_some_iff.1 hg1_3).1 nb0).trans hg1_3
                have nb1 : some g1 ≠ v1.ownBlock := by
                  rcases e4 with e | e
                  · rw [e]; exact nb0
                  · rw [e]; intro e2; have hlt := (Array.getElem?_eq_some_iff.1 hg1_3).1; simp at e2; omega
                clear gr4 e4 d4
                clear hgb_3 hg1_3 o3
                refine hK.out _ _ (HS.out _ b4) (fun hHeld => ?_)
                clear hK K
                refine wpAnyH_ready (rs := [7]) (by kernel_rfl) (by simp) (AllReadyH.cons rfl (fun K hK => ?_) AllReadyH.nil)
                refine step_app_bds (by rfl) _ _ (by rfl) X.heap.size v1 cs (by rfl) o4 _ [(.string ⟨#[122]⟩, .slice none 0 0, .string op, .int .i64 tn, .slice a k' cap)] (by rfl) (by first | exact (src_one5 hg1_4 HONE.out) | exact (src_one5 hg1_4 HONE.out)) (by have := HLEN.out; simp; omega) b4.size ?_
                intro v2 x5 o5 gr5 e5 d5
                have b5 := b4.trans d5
                have hgb_5 := (gr5.block _ (Array.getElem?_eq_some_iff.1 hgb_4).1 (o4.ne hgb_4)).trans hgb_4
                clear gr5 e5 d5
                clear hgb_4 hg1_4 o4
                obtain ⟨ra, rk, rc, hrf⟩ := o5.form
                subst hrf
                have HIB : Hid (IsBds x5 (.slice ra rk rc) (l ++ [bd1])) := o5.is (HARE.out.below b5)
                clear o5
                refine hK.out _ _ (HS.out _ b5) (fun hHeld => ?_)
                clear hK K
                refine wpAnyH_ready (rs := [9]) (by kernel_rfl) (by simp) (AllReadyH.cons rfl (fun K hK => ?_) AllReadyH.nil)
                go_simp
                go_at_call 9
                obtain ⟨lo, hlo⟩ : ∃ lo, lo = x5.heap.size := ⟨_, rfl⟩
                refine (sGeneral_any (l ++ [bd1]) _ T _ x5 HIB.out HOKL.out (isTy_below b5 _ _ HTX.out) HSZ.out).mono ?_
                rintro e x6 ⟨va, vk, vc, s, n, ka, kl, kc, rfl, ho2, hi2, ht2, hc6⟩
                rw [HGN.out] at ho2 hi2
                have b6 := b5.trans (hc6.mono b5.size)
                have lgb : gb < lo := by rw [hlo]; exact (Array.getElem?_eq_some_iff.1 hgb_5).1
                obtain ⟨hi, hhi⟩ : ∃ hi, hi = x6.heap.size := ⟨_, rfl⟩
                have HI2 : Hid (∀ y ∈ [], Em5.I64 y) := hi2
                have O2 : Hid ((OwnInts x6 lo (.slice va vk vc) [] ∧ IsTyP (Btw lo hi) x6 T (.agg #[.string s, .int .i64 n, .slice ka kl kc])) ∧ hi ≤ x6.heap.size) := by rw [Hid, hlo, hhi]; exact ⟨⟨ho2, isTyP_btw ht2⟩, Nat.le_refl _⟩
                clear ho2 hi2 ht2 hlo hhi
                have hgb_6 := (hc6.block _ (Array.getElem?_eq_some_iff.1 hgb_5).1).trans hgb_5
                clear hgb_5
                clear hc6
                (try dsimp only)
                refine hK.out _ _ (HS.out _ b6) (fun hHeld => ?_)
                clear hK K
                have HFIN : Hid _ := sbox_set (c := #[]) hgb_6 O2.out.1.1 HI2.out O2.out.1.2 (.inl lgb)
                have bE := below_set4 b6 mgb (.slice va vk vc) (.string s) (.int .i64 n) (.slice ka kl kc)
                obtain ⟨q0, q1, q2, q3, qf⟩ := box4_cells hgb_6
                refine wpAnyH_ready (rs := [11]) (by kernel_rfl) (by simp) (AllReadyH.cons rfl (fun K hK => ?_) AllReadyH.nil)
                go_simp
                refine hK.out _ _ (HS.out _ bE) (fun hHeld => ?_)
                clear hK K q0 q1 q2 q3 qf
                refine wpAnyH_done (by kernel_rfl) ?_ _
                go_wp2_with fail
                go_meet
                exact ⟨_, rfl, HFIN, bE⟩
    · have h50I : (50 : Int) < (z : Int) := by omega
      go_wp2_with fail
      go_ret
      exact ⟨rfl, HW.out.trans (HB2.out.mono HW.out.size)⟩

theorem schemeOwn_own : ownKnob Try.prog.godebug = none := by kernel_rfl
theorem schemeOwn_laidOut : laidOutB Try.prog = true := by kernel_rfl
set_option maxRecDepth 100000 in
theorem schemeOwn_lifted (os : Os) (started : os.Started) (H : Type) (enc : TypeId × Value → H) :
    ReturnsInHanded {} Try.checked os 5 .any (Rows.schemeOwnSpec.pre6 enc Try.prog Try.f5 Rows.schemeOwnRow.domain false) (Rows.schemeOwnSpec.post enc Try.prog Try.f5 false true false false) := by
  refine returnsInHanded_of_change_sized (C := Try.checked) schemeOwn_own started (by kernel_rfl) Try.func5
    (ChangeSpec.witness6 (enc := enc) (C := Try.checked) false ⟨#[], #[.slice none 0 0, .agg #[.string ByteArray.empty, .int .i64 0, .slice none 0 0]], []⟩ 8 (by kernel_rfl) (by kernel_rfl) (by kernel_rfl) (by kernel_rfl)) ?_
  intro W base args ds gs before hval0 hW hcnd hsz0 _
  have hval : ∀ (j : Nat) t v, Try.f5.params[j]? = some t → args[j]? = some v → Value.okWide Try.prog W .any base t v := hval0
  have hW' := hW
  obtain ⟨p, q, hA0, hV, rfl, hfz, hnd⟩ := hW
  have hA : DataW.TrodAll enc Try.prog W 0 (fun _ => true) true Try.f5.params.toList args.toList ds p := hA0
  have hsz : (DataW.weightsEach Try.prog (Try.f5.params.toList ++ Rows.schemeOwnSpec.plain.varTypes Try.prog) (ds ++ gs)).all (· ≤ reachBytes) = true := hsz0
  rw [Try.params5] at hA hval hsz
  obtain ⟨v0, vs0, d0, ds0, p0, q0, hargs, rfl, rfl, h0, r0⟩ := trodAll_cons hA
  obtain ⟨v1, vs1, d1, ds1, p1, q1, rfl, rfl, rfl, h1, r1⟩ := trodAll_cons r0
  obtain ⟨rfl, rfl, rfl⟩ := trodAll_nil r1
  obtain rfl : args = #[v0, v1] := by cases args; simp_all
  obtain ⟨rfl, rfl⟩ := trodVars_none hV
  have lt0 : ∀ x ∈ p0, x.block < W.heap.size := by obtain ⟨m, hm⟩ := h0; exact DataW.trod_lt m _ _ _ hm
  have o0 := open_bds (hval 0 22 v0 rfl rfl) h0 (Em.sized_arg hsz 0 rfl rfl)
  have lt1 : ∀ x ∈ p1, x.block < W.heap.size := by obtain ⟨m, hm⟩ := h1; exact DataW.trod_lt m _ _ _ hm
  have o1 := open_ty (hval 1 25 v1 rfl rfl) h1 (Em.sized_arg hsz 1 rfl rfl)
  clear hsz0 hsz
  clear hA0 hval0
  refine (walk_schemeOwn W v0 v1 o0 o1).mono fun e W' ⟨he, bel⟩ => ?_
  subst he
  exact ⟨_, rfl, _, _, _, [], _, [], hW', trodAll_mk1 (shut_bool Try.underlying4 _), (trodAll_cons_mk (Below.trod schemeOwn_laidOut (by kernel_rfl) (of_decide_eq_true (by kernel_rfl)) h0 bel lt0) (trodAll_cons_mk (Below.trod schemeOwn_laidOut (by kernel_rfl) (of_decide_eq_true (by kernel_rfl)) h1 bel lt1) trodAll_mk0)), rfl, bel.frame _, fun h => by cases h⟩
theorem schemeOwn_holds : Rows.SchemeOwnSaid :=
  OpenClaim.holds_of_wide 5 Try.f5 rfl rfl rfl rfl rfl rfl rfl ⟨rfl, rfl, rfl, rfl, rfl⟩ rfl rfl rfl rfl rfl (by kernel_rfl) Try.func5 (by kernel_rfl)
    (of_decide_eq_true (by kernel_rfl)) (by unfold Func.isWrapper; first | (rw [if_pos (by decide +kernel)]; kernel_rfl) | (rw [if_neg (by decide +kernel)]; exact ⟨rfl, rfl⟩))
    (fun os started H enc _ => schemeOwn_lifted os started H enc)
#print axioms schemeOwn_holds
end Go.Proofs.Ytbiihiibebdjgaa

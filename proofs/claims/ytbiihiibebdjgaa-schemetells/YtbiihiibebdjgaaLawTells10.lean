/- SchemeTells: of any env that may be, and any type, scheme.Free, General and Look answer what the document says. No condition. -/
import Derived.Test.YtbiihiibebdjgaaRows
import Derived.Test.YtbiihiibebdjgaaSBox
import Derived.Test.YtbiihiibebdjgaaFrame
import Derived.Test.YtbiihiibebdjgaaFrame2
namespace Go.Proofs.Ytbiihiibebdjgaa
open Go.ChangeShapes Go.WideShapes Go.ChangeAt Go.RowKit Go.Em8
set_option linter.unusedSimpArgs false
set_option linter.unusedVariables false

set_option maxRecDepth 100000 in
set_option maxHeartbeats 8000000 in
theorem walk_schemeTells (w : World) (v u y : Value) (h0 : ∃ l, IsBds w v l) (hu : ∃ T, IsTy w T u) (hn : ∃ nm, y = .string (Em.str nm) ∧ Em5.Txt nm) :
    Calls Try.prog 3 #[v, u, y] w fun e w' => e = .returned (.bool true) ∧ Below w.heap.size w w' := by
  obtain ⟨l, hv⟩ := h0
  obtain ⟨T, ht⟩ := hu
  obtain ⟨nm, rfl, hnm⟩ := hn
  obtain ⟨op, tn, a, k, cap, rfl⟩ := isTyP_form (isTy_isP _ _ ht)
  obtain ⟨pa, pk, pc, rfl⟩ : ∃ pa pk pc, v = .slice pa pk pc := by obtain ⟨pa, pc, e, -⟩ := hv; exact ⟨_, _, _, e⟩
  obtain ⟨W, hW⟩ : ∃ W, W = w.alloc (.cells #[.string op, .int .i64 tn, .slice a k cap] 25) := ⟨_, rfl⟩
  have hbW : Below w.heap.size w W := by rw [hW]; exact (Below.refl _ _).alloc (Nat.le_refl _) _
  have hT3 : Tri W w.heap.size (.string op) (.int .i64 tn) (.slice a k cap) := by rw [hW]; exact Tri.made _ _ _ _ _
  have HK : Hid (∀ w', Below W.heap.size W w' → w'.cell? ⟨w.heap.size, 0, none⟩ = some (.string op) ∧ w'.cell? ⟨w.heap.size, 1, none⟩ = some (.int .i64 tn) ∧ w'.cell? ⟨w.heap.size, 2, none⟩ = some (.slice a k cap)) := fun w' h => ⟨(hT3.below h).c0, (hT3.below h).c1, (hT3.below h).c2⟩
  have HV0 : Hid (∀ w', Below W.heap.size W w' → IsBds w' (.slice pa pk pc) l) := fun w' h => hv.below (hbW.trans (h.mono hbW.size))
  have HT0 : Hid (∀ w', Below W.heap.size W w' → IsTy w' T (.agg #[.string op, .int .i64 tn, .slice a k cap])) := fun w' h => isTy_below (hbW.trans (h.mono hbW.size)) _ _ ht
  have HW : Hid (Below w.heap.size w W) := hbW
  have HN : Hid (Em5.Txt nm) := hnm
  have HWE : Hid (w.alloc (.cells #[.string op, .int .i64 tn, .slice a k cap] 25) = W) := hW.symm
  clear hv ht hbW hT3 hW hnm
  go_enter Try.func3, Try.ntmps3
  go_upto_region 1 with fail
  rw [HWE.out]
  clear HWE
  go_wp2_with fail
  refine (ymay_any l _ W (HV0.out _ (Below.refl _ _))).mono ?_
  rintro e w1 ⟨bm, rfl, hm, b1⟩
  cases bm with
  | false =>
    go_wp2_with fail
    go_ret
    exact ⟨rfl, HW.out.trans (b1.mono HW.out.size)⟩
  | true =>
    have HM : Hid (l.length < 20 ∧ ∀ x ∈ l, MayBd x) := hm rfl
    have HB1 : Hid (Below W.heap.size W w1) := b1
    obtain ⟨k0, k1, k2⟩ := HK.out w1 b1
    clear hm b1
    go_wp2_with fail
    refine (rtsize_any T _ w1 100 (HT0.out _ HB1.out) (by omega) (by omega)).mono ?_
    rintro e w2 ⟨rfl, b2⟩
    obtain ⟨z, hz⟩ : ∃ z, z = min T.size 100 := ⟨_, rfl⟩
    rw [← hz]
    have HZ : Hid (z = min T.size 100) := hz
    have HB2 : Hid (Below W.heap.size W w2) := HB1.out.trans (b2.mono HB1.out.size)
    clear hz b2 k0 k1 k2
    obtain ⟨k0, k1, k2⟩ := HK.out w2 HB2.out
    by_cases h50 : z ≤ 50
    · have h50I : ¬ (50 : Int) < (z : Int) := by omega
      have HSZ : Hid (T.size ≤ 1000) := by have := HZ.out; rw [Hid]; omega
      go_wp2_with fail
      refine (rtIs_any T _ w2 (HT0.out _ HB2.out)).mono ?_
      rintro e w3 ⟨rfl, b3⟩
      obtain ⟨q, hq⟩ : ∃ q, q = isTy T := ⟨_, rfl⟩
      rw [← hq]
      have HB3 : Hid (Below W.heap.size W w3) := HB2.out.trans (b3.mono HB2.out.size)
      clear hq b3 k0 k1 k2 h50
      cases q with
      | false =>
        go_wp2_with fail
        go_ret
        exact ⟨rfl, HW.out.trans (HB3.out.mono HW.out.size)⟩
      | true =>
        go_upto_region 3 with fail
        obtain ⟨X, hX⟩ : ∃ X, X = w3 := ⟨_, rfl⟩
        have HBX : Hid (Below W.heap.size W X) := by rw [hX]; exact HB3.out
        have HV : Hid (IsBds X (.slice pa pk pc) l ∧ BdsOk l) := ⟨HV0.out _ HBX.out, BdsOk.of HM.out⟩
        have HTX : Hid (IsTy X T (.agg #[.string op, .int .i64 tn, .slice a k cap])) := HT0.out _ HBX.out
        have HS : Hid (∀ w', Below X.heap.size X w' → w'.cell? ⟨w.heap.size, 0, none⟩ = some (.string op) ∧ w'.cell? ⟨w.heap.size, 1, none⟩ = some (.int .i64 tn) ∧ w'.cell? ⟨w.heap.size, 2, none⟩ = some (.slice a k cap)) := fun w' h => HK.out w' (HBX.out.trans (h.mono HBX.out.size))
        rw [← hX]
        clear hX HB3 HB2 HB1 HZ
        go_cut [7, 8] from 13 (fun s7 s8 wx => ∃ (g7 g8 : Nat), s7 = .pointer (some ⟨g7, 0, none⟩) ∧ s8 = .pointer (some ⟨g8, 0, none⟩) ∧ Hid (SBox wx g7 (genV l T) T ∧ SBox wx g8 (genV l T) T ∧ Below X.heap.size X wx))
        case rest =>
          obtain ⟨g7, g8, rfl, rfl, HF⟩ := hcut
          go_wp2_with fail
          obtain ⟨r, hr⟩ : ∃ r, r = lookR l nm := ⟨_, rfl⟩
          have HR : Hid (r = lookR l nm) := hr
          clear hr
          refine (sLook_any l pa pk pc nm HN.out wc (HV.out.1.below HF.out.2.2) HV.out.2).mono ?_
          rintro e w4 hl4
          obtain ⟨va, vk, vc, s, n, ka, kl, kc, rfl, g1, g2, b4⟩ := hl4.ok.uni
          rw [← HR.out] at g1 g2 ⊢
          obtain ⟨X4, hX4⟩ : ∃ X4, X4 = w4.alloc (.cells #[.slice va vk vc, .string s, .int .i64 n, .slice ka kl kc] 31) := ⟨_, rfl⟩
          have HB4 : Hid (Below wc.heap.size wc X4 ∧ SBox X4 w4.heap.size r.2.1 r.2.2) := by
            rw [Hid, hX4]; exact ⟨b4.alloc b4.size _, SBox.made g1 g2⟩
          have HX4 : Hid (w4.alloc (.cells #[.slice va vk vc, .string s, .int .i64 n, .slice ka kl kc] 31) = X4) := hX4.symm
          obtain ⟨g9, hg9⟩ : ∃ g9, g9 = w4.heap.size := ⟨_, rfl⟩
          have HG9 : Hid (w4.heap.size = g9) := hg9.symm
          clear hl4 g1 g2 b4 hX4 hg9
          go_upto_region 5 with fail
          rw [HX4.out, HG9.out]
          rw [HG9.out] at HB4
          clear HX4 HG9
          go_wp2_with fail
          refine (rlook_any l pa pk pc nm HN.out X4 (HV.out.1.below (HF.out.2.2.trans (HB4.out.1.mono HF.out.2.2.size)))).mono ?_
          rintro e w5 hl5
          obtain ⟨va5, vk5, vc5, s5, n5, ka5, kl5, kc5, rfl, g1, g2, b5⟩ := hl5.uni
          rw [← HR.out] at g1 g2 ⊢
          obtain ⟨X5, hX5⟩ : ∃ X5, X5 = w5.alloc (.cells #[.slice va5 vk5 vc5, .string s5, .int .i64 n5, .slice ka5 kl5 kc5] 31) := ⟨_, rfl⟩
          have HB5 : Hid (Below X4.heap.size X4 X5 ∧ SBox X5 w5.heap.size r.2.1 r.2.2) := by
            rw [Hid, hX5]; exact ⟨b5.alloc b5.size _, SBox.made g1 g2⟩
          have HX5 : Hid (w5.alloc (.cells #[.slice va5 vk5 vc5, .string s5, .int .i64 n5, .slice ka5 kl5 kc5] 31) = X5) := hX5.symm
          obtain ⟨g11, hg11⟩ : ∃ g11, g11 = w5.heap.size := ⟨_, rfl⟩
          have HG11 : Hid (w5.heap.size = g11) := hg11.symm
          clear hl5 g1 g2 b5 hX5 hg11
          go_upto_region 6 with fail
          rw [HX5.out, HG11.out]
          rw [HG11.out] at HB5
          clear HX5 HG11
          have bc5 : Below wc.heap.size wc X5 := HB4.out.1.trans (HB5.out.1.mono HB4.out.1.size)
          obtain ⟨a7, a7k, a7c, s7, n7, t7, t7l, t7c, H7⟩ := (HF.out.1.below bc5).all
          obtain ⟨a8, a8k, a8c, s8, n8, t8, t8l, t8c, H8⟩ := (HF.out.2.1.below bc5).all
          obtain ⟨a9, a9k, a9c, s9, n9, t9, t9l, t9c, H9⟩ := (HB4.out.2.below HB5.out.1).all
          obtain ⟨a11, a11k, a11c, s11, n11, t11, t11l, t11c, H11⟩ := HB5.out.2.all
          have HBX5 : Hid (Below X.heap.size X X5) := HF.out.2.2.trans (bc5.mono HF.out.2.2.size)
          have HQ : Hid (IsBds X5 (.slice pa pk pc) l) := HV.out.1.below HBX5.out
          have HWX : Hid (Below w.heap.size w X5) := HW.out.trans ((HBX.out.trans (HBX5.out.mono HBX.out.size)).mono HW.out.size)
          have HK5 : Hid (∀ w', Below X5.heap.size X5 w' → w'.cell? ⟨w.heap.size, 0, none⟩ = some (.string op) ∧ w'.cell? ⟨w.heap.size, 1, none⟩ = some (.int .i64 tn) ∧ w'.cell? ⟨w.heap.size, 2, none⟩ = some (.slice a k cap)) := fun w' h => HS.out w' (HBX5.out.trans (h.mono HBX5.out.size))
          have HT5 : Hid (∀ w', Below X5.heap.size X5 w' → IsTy w' T (.agg #[.string op, .int .i64 tn, .slice a k cap])) := fun w' h => HT0.out w' (HBX.out.trans ((HBX5.out.trans (h.mono HBX5.out.size)).mono HBX.out.size))
          have HSM : Hid (tsame T T = true) := (tsame_iff _ _).2 rfl
          have HSM2 : Hid (tsame r.2.2 r.2.2 = true) := (tsame_iff _ _).2 rfl
          obtain ⟨rb, hrb⟩ : ∃ rb, rb = r.1 := ⟨_, rfl⟩
          rw [← hrb]
          have hbb : (rb == rb) = true := by simp
          clear bc5 HF HB4 HB5 hrb
          go_wp2_with fail
          refine (sFree_any l _ X5 HQ.out HV.out.2).mono ?_
          rintro e y1 ⟨u1, rfl, o1, i1, c1⟩
          have J1 : Hid (IsInts y1 u1 (freeP l) ∧ Below X5.heap.size X5 y1) := ⟨o1.is i1, c1⟩
          clear o1 i1 c1
          go_wp2_with fail
          refine (rFree_any l _ y1 (HQ.out.below J1.out.2) HV.out.2).mono ?_
          rintro e y2 ⟨u2, rfl, o2, i2, c2⟩
          have J2 : Hid (IsInts y2 u1 (freeP l) ∧ IsInts y2 u2 (freeP l) ∧ Below X5.heap.size X5 y2) := ⟨J1.out.1.below c2, o2.is i2, J1.out.2.trans (c2.mono J1.out.2.size)⟩
          clear o2 i2 c2
          go_wp2_with fail
          refine (yints_any (freeP l) u1 u2 y2 J2.out.1 J2.out.2.1).mono ?_
          rintro e y3 ⟨rfl, c3⟩
          have b3 : Below X5.heap.size X5 y3 := J2.out.2.2.trans (c3.mono J2.out.2.2.size)
          have HB3' : Hid (Below X5.heap.size X5 y3) := b3
          obtain ⟨d70, -, -, -, -, -⟩ := H7.out y3 b3
          obtain ⟨d80, -, -, -, -, -⟩ := H8.out y3 b3
          clear c3 b3
          go_wp2_with fail
          refine (yints_any (genV l T) _ _ y3 (H7.out y3 HB3'.out).2.2.2.2.1 (H8.out y3 HB3'.out).2.2.2.2.1).mono ?_
          rintro e y4 ⟨rfl, c4⟩
          have HB4' : Hid (Below X5.heap.size X5 y4) := HB3'.out.trans (c4.mono HB3'.out.size)
          clear c4 d70 d80
          obtain ⟨-, d71, d72, d73, -, -⟩ := H7.out y4 HB4'.out
          obtain ⟨k0, k1, k2⟩ := HK5.out y4 HB4'.out
          go_wp2_with fail
          refine (rtSame_any T T _ _ y4 (H7.out y4 HB4'.out).2.2.2.2.2 (HT5.out y4 HB4'.out)).mono ?_
          rintro e y5 ⟨rfl, c5⟩
          rw [HSM.out]
          have HB5' : Hid (Below X5.heap.size X5 y5) := HB4'.out.trans (c5.mono HB4'.out.size)
          clear c5 d71 d72 d73 k0 k1 k2
          obtain ⟨d90, -, -, -, -, -⟩ := H9.out y5 HB5'.out
          obtain ⟨d110, -, -, -, -, -⟩ := H11.out y5 HB5'.out
          go_wp2_with fail
          refine (yints_any r.2.1 _ _ y5 (H9.out y5 HB5'.out).2.2.2.2.1 (H11.out y5 HB5'.out).2.2.2.2.1).mono ?_
          rintro e y6 ⟨rfl, c6⟩
          have HB6' : Hid (Below X5.heap.size X5 y6) := HB5'.out.trans (c6.mono HB5'.out.size)
          clear c6 d90 d110
          obtain ⟨-, d91, d92, d93, -, -⟩ := H9.out y6 HB6'.out
          obtain ⟨-, d111, d112, d113, -, -⟩ := H11.out y6 HB6'.out
          go_wp2_with fail
          refine (rtSame_any r.2.2 r.2.2 _ _ y6 (H9.out y6 HB6'.out).2.2.2.2.2 (H11.out y6 HB6'.out).2.2.2.2.2).mono ?_
          rintro e y7 ⟨rfl, c7⟩
          rw [HSM2.out]
          have HB7' : Hid (Below X5.heap.size X5 y7) := HB6'.out.trans (c7.mono HB6'.out.size)
          clear c7 d91 d92 d93 d111 d112 d113
          go_wp2_with fail
          refine (known10_any y7).mono ?_
          rintro e y8 ⟨rfl, c8⟩
          have HB8 : Hid (Below w.heap.size w y8) := HWX.out.trans ((HB7'.out.trans (c8.mono HB7'.out.size)).mono HWX.out.size)
          clear c8
          go_wp2_with fail
          go_ret
          exact ⟨rfl, HB8.out⟩
        go_wp2_with fail
        refine wp_region_held_drew (S := fun w' => w'.cell? ⟨w.heap.size, 0, none⟩ = some (.string op) ∧ w'.cell? ⟨w.heap.size, 1, none⟩ = some (.int .i64 tn) ∧ w'.cell? ⟨w.heap.size, 2, none⟩ = some (.slice a k cap)) (by kernel_rfl) (HS.out _ (Below.refl _ _).drew) (fun hHeld => ?_)
        obtain ⟨x0, hx0⟩ : ∃ x0, x0 = X.drew := ⟨_, rfl⟩
        have b0 : Below X.heap.size X x0 := by rw [hx0]; exact (Below.refl _ _).drew
        rw [← hx0]
        rw [← hx0] at hHeld
        clear hx0
        refine wpAnyH_take (i := 0) (v := ?_) rfl (by kernel_rfl) (by kernel_rfl) (by kernel_rfl) (fun _ _ _ h => h) (Or.inl ⟨by rfl, ?_⟩) (by assumption) ?_
        rotate_left
        · (intro w hSw; (try dsimp only at hSw); go_simp); all_goals (with_reducible rfl)
        simp only [List.getElem_toArray, List.getElem_cons_succ, List.getElem_cons_zero, Act.put, List.setIfInBounds_toArray, List.set_cons_zero, List.set_cons_succ]
        refine wpAnyH_take (i := 1) (v := ?_) rfl (by kernel_rfl) (by kernel_rfl) (by kernel_rfl) (fun _ _ _ h => h) (Or.inl ⟨by rfl, ?_⟩) (by assumption) ?_
        rotate_left
        · (intro w hSw; (try dsimp only at hSw); go_simp); all_goals (with_reducible rfl)
        simp only [List.getElem_toArray, List.getElem_cons_succ, List.getElem_cons_zero, Act.put, List.setIfInBounds_toArray, List.set_cons_zero, List.set_cons_succ]
        refine wpAnyH_take (i := 3) (v := ?_) rfl (by kernel_rfl) (by kernel_rfl) (by kernel_rfl) (fun _ _ _ h => h) (Or.inl ⟨by rfl, ?_⟩) (by assumption) ?_
        rotate_left
        · (intro w hSw; (try dsimp only at hSw); go_simp); all_goals (with_reducible rfl)
        simp only [List.getElem_toArray, List.getElem_cons_succ, List.getElem_cons_zero, Act.put, List.setIfInBounds_toArray, List.set_cons_zero, List.set_cons_succ]
        refine wpAnyH_take (i := 4) (v := ?_) rfl (by kernel_rfl) (by kernel_rfl) (by kernel_rfl) (fun _ _ _ h => h) (Or.inl ⟨by rfl, ?_⟩) (by assumption) ?_
        rotate_left
        · (intro w hSw; (try dsimp only at hSw); go_simp); all_goals (with_reducible rfl)
        simp only [List.getElem_toArray, List.getElem_cons_succ, List.getElem_cons_zero, Act.put, List.setIfInBounds_toArray, List.set_cons_zero, List.set_cons_succ]
        refine wpAnyH_ready (rs := [2, 6, 7]) (by kernel_rfl) (by simp) (AllReadyH.cons rfl (fun K hK => ?_) (AllReadyH.cons rfl (fun K hK => ?_) (AllReadyH.cons rfl (fun K hK => ?_) AllReadyH.nil)))
        ·
          go_simp
          go_at_call 9
          obtain ⟨lo, hlo⟩ : ∃ lo, lo = x0.heap.size := ⟨_, rfl⟩
          refine (sGeneral_any l _ T _ _ (HV.out.1.below b0) HV.out.2 (isTy_below b0 _ _ HTX.out) HSZ.out).mono ?_
          rintro e x1 ⟨va, vk, vc, s, n, ka, kl, kc, rfl, ho2, hi2, ht2, hc1⟩
          have b1 := b0.trans (hc1.mono b0.size)
          obtain ⟨hi, hhi⟩ : ∃ hi, hi = x1.heap.size := ⟨_, rfl⟩
          have HI2 : Hid (∀ y ∈ genV l T, Em5.I64 y) := hi2
          have O2_1 : Hid (OwnInts x1 lo (.slice va vk vc) (genV l T) ∧ IsTyP (Btw lo hi) x1 T (.agg #[.string s, .int .i64 n, .slice ka kl kc]) ∧ hi ≤ x1.heap.size) := by rw [Hid, hlo, hhi]; exact ⟨ho2, isTyP_btw ht2, Nat.le_refl _⟩
          clear ho2 hi2 ht2 hlo hhi hc1
          (try dsimp only)
          refine hK.out _ _ (HS.out _ b1) (fun hHeld => ?_)
          clear hK K
          refine wpAnyH_ready (rs := [5, 6, 7]) (by kernel_rfl) (by simp) (AllReadyH.cons rfl (fun K hK => ?_) (AllReadyH.cons rfl (fun K hK => ?_) (AllReadyH.cons rfl (fun K hK => ?_) AllReadyH.nil)))
          ·
            go_simp
            go_at_call 10
            obtain ⟨lo5, hlo5⟩ : ∃ lo5, lo5 = x1.heap.size := ⟨_, rfl⟩
            refine (rGeneral_any l _ T _ _ (HV.out.1.below b1) HV.out.2 (isTy_below b1 _ _ HTX.out) HSZ.out).mono ?_
            rintro e x2 ⟨va', vk', vc', s', n', ka', kl', kc', hte, rfl, ho5, hi5, hc2⟩
            cases hte
            have b2 := b1.trans (hc2.mono b1.size)
            have O2_2 : Hid (OwnInts x2 lo (.slice va vk vc) (genV l T) ∧ IsTyP (Btw lo hi) x2 T (.agg #[.string s, .int .i64 n, .slice ka kl kc]) ∧ hi ≤ x2.heap.size) := ⟨O2_1.out.1.below hc2, isTyP_below O2_1.out.2.1 hc2, Nat.le_trans O2_1.out.2.2 hc2.size⟩
            have HI5 : Hid (∀ y ∈ genV l T, Em5.I64 y) := hi5
            have O5_2 : Hid (OwnInts x2 lo5 (.slice va' vk' vc') (genV l T)) := by rw [Hid, hlo5]; exact ho5
            clear ho5 hi5 hlo5 hc2
            (try dsimp only)
            refine hK.out _ _ (HS.out _ b2) (fun hHeld => ?_)
            clear hK K
            refine wpAnyH_ready (rs := [6, 7]) (by kernel_rfl) (by simp) (AllReadyH.cons rfl (fun K hK => ?_) (AllReadyH.cons rfl (fun K hK => ?_) AllReadyH.nil))
            ·
              go_simp
              obtain ⟨x3, hx3⟩ : ∃ x3, x3 = x2.alloc zeroS := ⟨_, rfl⟩
              have hc3 : Below x2.heap.size x2 x3 := by rw [hx3]; exact (Below.refl _ _).alloc (Nat.le_refl _) _
              have b3 := b2.trans (hc3.mono b2.size)
              obtain ⟨g7, hgg7⟩ : ∃ g7, g7 = x2.heap.size := ⟨_, rfl⟩
              have hg7_3 : x3.heap[g7]? = some zeroS := by rw [hx3, hgg7]; exact World.alloc_heap_new x2 _
              have mg7 : X.heap.size ≤ g7 := by rw [hgg7]; exact b2.size
              have O2_3 : Hid (OwnInts x3 lo (.slice va vk vc) (genV l T) ∧ IsTyP (Btw lo hi) x3 T (.agg #[.string s, .int .i64 n, .slice ka kl kc]) ∧ hi ≤ x3.heap.size) := ⟨O2_2.out.1.below hc3, isTyP_below O2_2.out.2.1 hc3, Nat.le_trans O2_2.out.2.2 hc3.size⟩
              have O5_3 : Hid (OwnInts x3 lo5 (.slice va' vk' vc') (genV l T)) := O5_2.out.below hc3
              have rg7 : hi ≤ g7 := by rw [hgg7]; exact O2_2.out.2.2
              rw [← hx3, ← hgg7]
              clear hx3 hgg7 hc3
              refine hK.out _ _ (HS.out _ b3) (fun hHeld => ?_)
              clear hK K
              refine wpAnyH_ready (rs := [7]) (by kernel_rfl) (by simp) (AllReadyH.cons rfl (fun K hK => ?_) AllReadyH.nil)
              go_simp
              obtain ⟨x4, hx4⟩ : ∃ x4, x4 = x3.alloc zeroS := ⟨_, rfl⟩
              have hc4 : Below x3.heap.size x3 x4 := by rw [hx4]; exact (Below.refl _ _).alloc (Nat.le_refl _) _
              have b4 := b3.trans (hc4.mono b3.size)
              obtain ⟨g8, hgg8⟩ : ∃ g8, g8 = x3.heap.size := ⟨_, rfl⟩
              have hg8_4 : x4.heap[g8]? = some zeroS := by rw [hx4, hgg8]; exact World.alloc_heap_new x3 _
              have mg8 : X.heap.size ≤ g8 := by rw [hgg8]; exact b3.size
              have hg7_4 := (hc4.block _ (Array.getElem?_eq_some_iff.1 hg7_3).1).trans hg7_3
              have O2_4 : Hid (OwnInts x4 lo (.slice va vk vc) (genV l T) ∧ IsTyP (Btw lo hi) x4 T (.agg #[.string s, .int .i64 n, .slice ka kl kc]) ∧ hi ≤ x4.heap.size) := ⟨O2_3.out.1.below hc4, isTyP_below O2_3.out.2.1 hc4, Nat.le_trans O2_3.out.2.2 hc4.size⟩
              have O5_4 : Hid (OwnInts x4 lo5 (.slice va' vk' vc') (genV l T)) := O5_3.out.below hc4
              have kg7g8 : g7 < g8 := by rw [hgg8]; exact (Array.getElem?_eq_some_iff.1 hg7_3).1
              have rg8 : hi ≤ g8 := by rw [hgg8]; exact O2_3.out.2.2
              rw [← hx4, ← hgg8]
              clear hx4 hgg8 hc4
              clear hg7_3
              refine hK.out _ _ (HS.out _ b4) (fun hHeld => ?_)
              clear hK K
              have hne : g7 ≠ g8 := by omega
              have HFIN : Hid _ := sbox_two hg7_4 hg8_4 hne mg7 mg8 b4 O2_4.out.1 HI2.out O2_4.out.2.1 (.inr rg7) (.inr rg8) O5_4.out HI5.out HTX.out
              obtain ⟨c70, c71, c72, c73, f7⟩ := box4_cells hg7_4
              refine wpAnyH_ready (rs := [8]) (by kernel_rfl) (by simp) (AllReadyH.cons rfl (fun K hK => ?_) AllReadyH.nil)
              go_simp
              refine hK.out _ _ (HS.out _ (below_set4 b4 mg7 _ _ _ _)) (fun hHeld => ?_)
              clear hK K
              obtain ⟨c80, c81, c82, c83, f8⟩ := box4_cells ((set4_other (x := x4) (g := g7) (a := .slice va vk vc) (b := .string s) (c := .int .i64 n) (d := .slice ka kl kc) (fun e => hne e.symm)).trans hg8_4)
              clear c70 c71 c72 c73 f7
              refine wpAnyH_ready (rs := [9]) (by kernel_rfl) (by simp) (AllReadyH.cons rfl (fun K hK => ?_) AllReadyH.nil)
              go_simp
              refine hK.out _ _ (HS.out _ HFIN.out.2.2) (fun hHeld => ?_)
              clear hK K c80 c81 c82 c83 f8 hne
              refine wpAnyH_done (by kernel_rfl) ?_ _
              go_wp2_with fail
              go_meet
              exact ⟨_, _, rfl, rfl, HFIN.out⟩
            ·
              go_simp
              obtain ⟨x3, hx3⟩ : ∃ x3, x3 = x2.alloc zeroS := ⟨_, rfl⟩
              have hc3 : Below x2.heap.size x2 x3 := by rw [hx3]; exact (Below.refl _ _).alloc (Nat.le_refl _) _
              have b3 := b2.trans (hc3.mono b2.size)
              obtain ⟨g8, hgg8⟩ : ∃ g8, g8 = x2.heap.size := ⟨_, rfl⟩
              have hg8_3 : x3.heap[g8]? = some zeroS := by rw [hx3, hgg8]; exact World.alloc_heap_new x2 _
              have mg8 : X.heap.size ≤ g8 := by rw [hgg8]; exact b2.size
              have O2_3 : Hid (OwnInts x3 lo (.slice va vk vc) (genV l T) ∧ IsTyP (Btw lo hi) x3 T (.agg #[.string s, .int .i64 n, .slice ka kl kc]) ∧ hi ≤ x3.heap.size) := ⟨O2_2.out.1.below hc3, isTyP_below O2_2.out.2.1 hc3, Nat.le_trans O2_2.out.2.2 hc3.size⟩
              have O5_3 : Hid (OwnInts x3 lo5 (.slice va' vk' vc') (genV l T)) := O5_2.out.below hc3
              have rg8 : hi ≤ g8 := by rw [hgg8]; exact O2_2.out.2.2
              rw [← hx3, ← hgg8]
              clear hx3 hgg8 hc3
              refine hK.out _ _ (HS.out _ b3) (fun hHeld => ?_)
              clear hK K
              refine wpAnyH_ready (rs := [6]) (by kernel_rfl) (by simp) (AllReadyH.cons rfl (fun K hK => ?_) AllReadyH.nil)
              go_simp
              obtain ⟨x4, hx4⟩ : ∃ x4, x4 = x3.alloc zeroS := ⟨_, rfl⟩
              have hc4 : Below x3.heap.size x3 x4 := by rw [hx4]; exact (Below.refl _ _).alloc (Nat.le_refl _) _
              have b4 := b3.trans (hc4.mono b3.size)
              obtain ⟨g7, hgg7⟩ : ∃ g7, g7 = x3.heap.size := ⟨_, rfl⟩
              have hg7_4 : x4.heap[g7]? = some zeroS := by rw [hx4, hgg7]; exact World.alloc_heap_new x3 _
              have mg7 : X.heap.size ≤ g7 := by rw [hgg7]; exact b3.size
              have hg8_4 := (hc4.block _ (Array.getElem?_eq_some_iff.1 hg8_3).1).trans hg8_3
              have O2_4 : Hid (OwnInts x4 lo (.slice va vk vc) (genV l T) ∧ IsTyP (Btw lo hi) x4 T (.agg #[.string s, .int .i64 n, .slice ka kl kc]) ∧ hi ≤ x4.heap.size) := ⟨O2_3.out.1.below hc4, isTyP_below O2_3.out.2.1 hc4, Nat.le_trans O2_3.out.2.2 hc4.size⟩
              have O5_4 : Hid (OwnInts x4 lo5 (.slice va' vk' vc') (genV l T)) := O5_3.out.below hc4
              have kg8g7 : g8 < g7 := by rw [hgg7]; exact (Array.getElem?_eq_some_iff.1 hg8_3).1
              have rg7 : hi ≤ g7 := by rw [hgg7]; exact O2_3.out.2.2
              rw [← hx4, ← hgg7]
              clear hx4 hgg7 hc4
              clear hg8_3
              refine hK.out _ _ (HS.out _ b4) (fun hHeld => ?_)
              clear hK K
              have hne : g7 ≠ g8 := by omega
              have HFIN : Hid _ := sbox_two hg7_4 hg8_4 hne mg7 mg8 b4 O2_4.out.1 HI2.out O2_4.out.2.1 (.inr rg7) (.inr rg8) O5_4.out HI5.out HTX.out
              obtain ⟨c70, c71, c72, c73, f7⟩ := box4_cells hg7_4
              refine wpAnyH_ready (rs := [8]) (by kernel_rfl) (by simp) (AllReadyH.cons rfl (fun K hK => ?_) AllReadyH.nil)
              go_simp
              refine hK.out _ _ (HS.out _ (below_set4 b4 mg7 _ _ _ _)) (fun hHeld => ?_)
              clear hK K
              obtain ⟨c80, c81, c82, c83, f8⟩ := box4_cells ((set4_other (x := x4) (g := g7) (a := .slice va vk vc) (b := .string s) (c := .int .i64 n) (d := .slice ka kl kc) (fun e => hne e.symm)).trans hg8_4)
              clear c70 c71 c72 c73 f7
              refine wpAnyH_ready (rs := [9]) (by kernel_rfl) (by simp) (AllReadyH.cons rfl (fun K hK => ?_) AllReadyH.nil)
              go_simp
              refine hK.out _ _ (HS.out _ HFIN.out.2.2) (fun hHeld => ?_)
              clear hK K c80 c81 c82 c83 f8 hne
              refine wpAnyH_done (by kernel_rfl) ?_ _
              go_wp2_with fail
              go_meet
              exact ⟨_, _, rfl, rfl, HFIN.out⟩
          ·
            go_simp
            obtain ⟨x2, hx2⟩ : ∃ x2, x2 = x1.alloc zeroS := ⟨_, rfl⟩
            have hc2 : Below x1.heap.size x1 x2 := by rw [hx2]; exact (Below.refl _ _).alloc (Nat.le_refl _) _
            have b2 := b1.trans (hc2.mono b1.size)
            obtain ⟨g7, hgg7⟩ : ∃ g7, g7 = x1.heap.size := ⟨_, rfl⟩
            have hg7_2 : x2.heap[g7]? = some zeroS := by rw [hx2, hgg7]; exact World.alloc_heap_new x1 _
            have mg7 : X.heap.size ≤ g7 := by rw [hgg7]; exact b1.size
            have O2_2 : Hid (OwnInts x2 lo (.slice va vk vc) (genV l T) ∧ IsTyP (Btw lo hi) x2 T (.agg #[.string s, .int .i64 n, .slice ka kl kc]) ∧ hi ≤ x2.heap.size) := ⟨O2_1.out.1.below hc2, isTyP_below O2_1.out.2.1 hc2, Nat.le_trans O2_1.out.2.2 hc2.size⟩
            have rg7 : hi ≤ g7 := by rw [hgg7]; exact O2_1.out.2.2
            rw [← hx2, ← hgg7]
            clear hx2 hgg7 hc2
            refine hK.out _ _ (HS.out _ b2) (fun hHeld => ?_)
            clear hK K
            refine wpAnyH_ready (rs := [5, 7]) (by kernel_rfl) (by simp) (AllReadyH.cons rfl (fun K hK => ?_) (AllReadyH.cons rfl (fun K hK => ?_) AllReadyH.nil))
            ·
              go_simp
              go_at_call 10
              obtain ⟨lo5, hlo5⟩ : ∃ lo5, lo5 = x2.heap.size := ⟨_, rfl⟩
              refine (rGeneral_any l _ T _ _ (HV.out.1.below b2) HV.out.2 (isTy_below b2 _ _ HTX.out) HSZ.out).mono ?_
              rintro e x3 ⟨va', vk', vc', s', n', ka', kl', kc', hte, rfl, ho5, hi5, hc3⟩
              cases hte
              have b3 := b2.trans (hc3.mono b2.size)
              have hg7_3 := (hc3.block _ (Array.getElem?_eq_some_iff.1 hg7_2).1).trans hg7_2
              have O2_3 : Hid (OwnInts x3 lo (.slice va vk vc) (genV l T) ∧ IsTyP (Btw lo hi) x3 T (.agg #[.string s, .int .i64 n, .slice ka kl kc]) ∧ hi ≤ x3.heap.size) := ⟨O2_2.out.1.below hc3, isTyP_below O2_2.out.2.1 hc3, Nat.le_trans O2_2.out.2.2 hc3.size⟩
              have HI5 : Hid (∀ y ∈ genV l T, Em5.I64 y) := hi5
              have O5_3 : Hid (OwnInts x3 lo5 (.slice va' vk' vc') (genV l T)) := by rw [Hid, hlo5]; exact ho5
              clear ho5 hi5 hlo5 hc3
              clear hg7_2
              (try dsimp only)
              refine hK.out _ _ (HS.out _ b3) (fun hHeld => ?_)
              clear hK K
              refine wpAnyH_ready (rs := [7]) (by kernel_rfl) (by simp) (AllReadyH.cons rfl (fun K hK => ?_) AllReadyH.nil)
              go_simp
              obtain ⟨x4, hx4⟩ : ∃ x4, x4 = x3.alloc zeroS := ⟨_, rfl⟩
              have hc4 : Below x3.heap.size x3 x4 := by rw [hx4]; exact (Below.refl _ _).alloc (Nat.le_refl _) _
              have b4 := b3.trans (hc4.mono b3.size)
              obtain ⟨g8, hgg8⟩ : ∃ g8, g8 = x3.heap.size := ⟨_, rfl⟩
              have hg8_4 : x4.heap[g8]? = some zeroS := by rw [hx4, hgg8]; exact World.alloc_heap_new x3 _
              have mg8 : X.heap.size ≤ g8 := by rw [hgg8]; exact b3.size
              have hg7_4 := (hc4.block _ (Array.getElem?_eq_some_iff.1 hg7_3).1).trans hg7_3
              have O2_4 : Hid (OwnInts x4 lo (.slice va vk vc) (genV l T) ∧ IsTyP (Btw lo hi) x4 T (.agg #[.string s, .int .i64 n, .slice ka kl kc]) ∧ hi ≤ x4.heap.size) := ⟨O2_3.out.1.below hc4, isTyP_below O2_3.out.2.1 hc4, Nat.le_trans O2_3.out.2.2 hc4.size⟩
              have O5_4 : Hid (OwnInts x4 lo5 (.slice va' vk' vc') (genV l T)) := O5_3.out.below hc4
              have kg7g8 : g7 < g8 := by rw [hgg8]; exact (Array.getElem?_eq_some_iff.1 hg7_3).1
              have rg8 : hi ≤ g8 := by rw [hgg8]; exact O2_3.out.2.2
              rw [← hx4, ← hgg8]
              clear hx4 hgg8 hc4
              clear hg7_3
              refine hK.out _ _ (HS.out _ b4) (fun hHeld => ?_)
              clear hK K
              have hne : g7 ≠ g8 := by omega
              have HFIN : Hid _ := sbox_two hg7_4 hg8_4 hne mg7 mg8 b4 O2_4.out.1 HI2.out O2_4.out.2.1 (.inr rg7) (.inr rg8) O5_4.out HI5.out HTX.out
              obtain ⟨c70, c71, c72, c73, f7⟩ := box4_cells hg7_4
              refine wpAnyH_ready (rs := [8]) (by kernel_rfl) (by simp) (AllReadyH.cons rfl (fun K hK => ?_) AllReadyH.nil)
              go_simp
              refine hK.out _ _ (HS.out _ (below_set4 b4 mg7 _ _ _ _)) (fun hHeld => ?_)
              clear hK K
              obtain ⟨c80, c81, c82, c83, f8⟩ := box4_cells ((set4_other (x := x4) (g := g7) (a := .slice va vk vc) (b := .string s) (c := .int .i64 n) (d := .slice ka kl kc) (fun e => hne e.symm)).trans hg8_4)
              clear c70 c71 c72 c73 f7
              refine wpAnyH_ready (rs := [9]) (by kernel_rfl) (by simp) (AllReadyH.cons rfl (fun K hK => ?_) AllReadyH.nil)
              go_simp
              refine hK.out _ _ (HS.out _ HFIN.out.2.2) (fun hHeld => ?_)
              clear hK K c80 c81 c82 c83 f8 hne
              refine wpAnyH_done (by kernel_rfl) ?_ _
              go_wp2_with fail
              go_meet
              exact ⟨_, _, rfl, rfl, HFIN.out⟩
            ·
              go_simp
              obtain ⟨x3, hx3⟩ : ∃ x3, x3 = x2.alloc zeroS := ⟨_, rfl⟩
              have hc3 : Below x2.heap.size x2 x3 := by rw [hx3]; exact (Below.refl _ _).alloc (Nat.le_refl _) _
              have b3 := b2.trans (hc3.mono b2.size)
              obtain ⟨g8, hgg8⟩ : ∃ g8, g8 = x2.heap.size := ⟨_, rfl⟩
              have hg8_3 : x3.heap[g8]? = some zeroS := by rw [hx3, hgg8]; exact World.alloc_heap_new x2 _
              have mg8 : X.heap.size ≤ g8 := by rw [hgg8]; exact b2.size
              have hg7_3 := (hc3.block _ (Array.getElem?_eq_some_iff.1 hg7_2).1).trans hg7_2
              have O2_3 : Hid (OwnInts x3 lo (.slice va vk vc) (genV l T) ∧ IsTyP (Btw lo hi) x3 T (.agg #[.string s, .int .i64 n, .slice ka kl kc]) ∧ hi ≤ x3.heap.size) := ⟨O2_2.out.1.below hc3, isTyP_below O2_2.out.2.1 hc3, Nat.le_trans O2_2.out.2.2 hc3.size⟩
              have kg7g8 : g7 < g8 := by rw [hgg8]; exact (Array.getElem?_eq_some_iff.1 hg7_2).1
              have rg8 : hi ≤ g8 := by rw [hgg8]; exact O2_2.out.2.2
              rw [← hx3, ← hgg8]
              clear hx3 hgg8 hc3
              clear hg7_2
              refine hK.out _ _ (HS.out _ b3) (fun hHeld => ?_)
              clear hK K
              refine wpAnyH_ready (rs := [5]) (by kernel_rfl) (by simp) (AllReadyH.cons rfl (fun K hK => ?_) AllReadyH.nil)
              go_simp
              go_at_call 10
              obtain ⟨lo5, hlo5⟩ : ∃ lo5, lo5 = x3.heap.size := ⟨_, rfl⟩
              refine (rGeneral_any l _ T _ _ (HV.out.1.below b3) HV.out.2 (isTy_below b3 _ _ HTX.out) HSZ.out).mono ?_
              rintro e x4 ⟨va', vk', vc', s', n', ka', kl', kc', hte, rfl, ho5, hi5, hc4⟩
              cases hte
              have b4 := b3.trans (hc4.mono b3.size)
              have hg7_4 := (hc4.block _ (Array.getElem?_eq_some_iff.1 hg7_3).1).trans hg7_3
              have hg8_4 := (hc4.block _ (Array.getElem?_eq_some_iff.1 hg8_3).1).trans hg8_3
              have O2_4 : Hid (OwnInts x4 lo (.slice va vk vc) (genV l T) ∧ IsTyP (Btw lo hi) x4 T (.agg #[.string s, .int .i64 n, .slice ka kl kc]) ∧ hi ≤ x4.heap.size) := ⟨O2_3.out.1.below hc4, isTyP_below O2_3.out.2.1 hc4, Nat.le_trans O2_3.out.2.2 hc4.size⟩
              have HI5 : Hid (∀ y ∈ genV l T, Em5.I64 y) := hi5
              have O5_4 : Hid (OwnInts x4 lo5 (.slice va' vk' vc') (genV l T)) := by rw [Hid, hlo5]; exact ho5
              clear ho5 hi5 hlo5 hc4
              clear hg7_3 hg8_3
              (try dsimp only)
              refine hK.out _ _ (HS.out _ b4) (fun hHeld => ?_)
              clear hK K
              have hne : g7 ≠ g8 := by omega
              have HFIN : Hid _ := sbox_two hg7_4 hg8_4 hne mg7 mg8 b4 O2_4.out.1 HI2.out O2_4.out.2.1 (.inr rg7) (.inr rg8) O5_4.out HI5.out HTX.out
              obtain ⟨c70, c71, c72, c73, f7⟩ := box4_cells hg7_4
              refine wpAnyH_ready (rs := [8]) (by kernel_rfl) (by simp) (AllReadyH.cons rfl (fun K hK => ?_) AllReadyH.nil)
              go_simp
              refine hK.out _ _ (HS.out _ (below_set4 b4 mg7 _ _ _ _)) (fun hHeld => ?_)
              clear hK K
              obtain ⟨c80, c81, c82, c83, f8⟩ := box4_cells ((set4_other (x := x4) (g := g7) (a := .slice va vk vc) (b := .string s) (c := .int .i64 n) (d := .slice ka kl kc) (fun e => hne e.symm)).trans hg8_4)
              clear c70 c71 c72 c73 f7
              refine wpAnyH_ready (rs := [9]) (by kernel_rfl) (by simp) (AllReadyH.cons rfl (fun K hK => ?_) AllReadyH.nil)
              go_simp
              refine hK.out _ _ (HS.out _ HFIN.out.2.2) (fun hHeld => ?_)
              clear hK K c80 c81 c82 c83 f8 hne
              refine wpAnyH_done (by kernel_rfl) ?_ _
              go_wp2_with fail
              go_meet
              exact ⟨_, _, rfl, rfl, HFIN.out⟩
          ·
            go_simp
            obtain ⟨x2, hx2⟩ : ∃ x2, x2 = x1.alloc zeroS := ⟨_, rfl⟩
            have hc2 : Below x1.heap.size x1 x2 := by rw [hx2]; exact (Below.refl _ _).alloc (Nat.le_refl _) _
            have b2 := b1.trans (hc2.mono b1.size)
            obtain ⟨g8, hgg8⟩ : ∃ g8, g8 = x1.heap.size := ⟨_, rfl⟩
            have hg8_2 : x2.heap[g8]? = some zeroS := by rw [hx2, hgg8]; exact World.alloc_heap_new x1 _
            have mg8 : X.heap.size ≤ g8 := by rw [hgg8]; exact b1.size
            have O2_2 : Hid (OwnInts x2 lo (.slice va vk vc) (genV l T) ∧ IsTyP (Btw lo hi) x2 T (.agg #[.string s, .int .i64 n, .slice ka kl kc]) ∧ hi ≤ x2.heap.size) := ⟨O2_1.out.1.below hc2, isTyP_below O2_1.out.2.1 hc2, Nat.le_trans O2_1.out.2.2 hc2.size⟩
            have rg8 : hi ≤ g8 := by rw [hgg8]; exact O2_1.out.2.2
            rw [← hx2, ← hgg8]
            clear hx2 hgg8 hc2
            refine hK.out _ _ (HS.out _ b2) (fun hHeld => ?_)
            clear hK K
            refine wpAnyH_ready (rs := [5, 6]) (by kernel_rfl) (by simp) (AllReadyH.cons rfl (fun K hK => ?_) (AllReadyH.cons rfl (fun K hK => ?_) AllReadyH.nil))
            ·
              go_simp
              go_at_call 10
              obtain ⟨lo5, hlo5⟩ : ∃ lo5, lo5 = x2.heap.size := ⟨_, rfl⟩
              refine (rGeneral_any l _ T _ _ (HV.out.1.below b2) HV.out.2 (isTy_below b2 _ _ HTX.out) HSZ.out).mono ?_
              rintro e x3 ⟨va', vk', vc', s', n', ka', kl', kc', hte, rfl, ho5, hi5, hc3⟩
              cases hte
              have b3 := b2.trans (hc3.mono b2.size)
              have hg8_3 := (hc3.block _ (Array.getElem?_eq_some_iff.1 hg8_2).1).trans hg8_2
              have O2_3 : Hid (OwnInts x3 lo (.slice va vk vc) (genV l T) ∧ IsTyP (Btw lo hi) x3 T (.agg #[.string s, .int .i64 n, .slice ka kl kc]) ∧ hi ≤ x3.heap.size) := ⟨O2_2.out.1.below hc3, isTyP_below O2_2.out.2.1 hc3, Nat.le_trans O2_2.out.2.2 hc3.size⟩
              have HI5 : Hid (∀ y ∈ genV l T, Em5.I64 y) := hi5
              have O5_3 : Hid (OwnInts x3 lo5 (.slice va' vk' vc') (genV l T)) := by rw [Hid, hlo5]; exact ho5
              clear ho5 hi5 hlo5 hc3
              clear hg8_2
              (try dsimp only)
              refine hK.out _ _ (HS.out _ b3) (fun hHeld => ?_)
              clear hK K
              refine wpAnyH_ready (rs := [6]) (by kernel_rfl) (by simp) (AllReadyH.cons rfl (fun K hK => ?_) AllReadyH.nil)
              go_simp
              obtain ⟨x4, hx4⟩ : ∃ x4, x4 = x3.alloc zeroS := ⟨_, rfl⟩
              have hc4 : Below x3.heap.size x3 x4 := by rw [hx4]; exact (Below.refl _ _).alloc (Nat.le_refl _) _
              have b4 := b3.trans (hc4.mono b3.size)
              obtain ⟨g7, hgg7⟩ : ∃ g7, g7 = x3.heap.size := ⟨_, rfl⟩
              have hg7_4 : x4.heap[g7]? = some zeroS := by rw [hx4, hgg7]; exact World.alloc_heap_new x3 _
              have mg7 : X.heap.size ≤ g7 := by rw [hgg7]; exact b3.size
              have hg8_4 := (hc4.block _ (Array.getElem?_eq_some_iff.1 hg8_3).1).trans hg8_3
              have O2_4 : Hid (OwnInts x4 lo (.slice va vk vc) (genV l T) ∧ IsTyP (Btw lo hi) x4 T (.agg #[.string s, .int .i64 n, .slice ka kl kc]) ∧ hi ≤ x4.heap.size) := ⟨O2_3.out.1.below hc4, isTyP_below O2_3.out.2.1 hc4, Nat.le_trans O2_3.out.2.2 hc4.size⟩
              have O5_4 : Hid (OwnInts x4 lo5 (.slice va' vk' vc') (genV l T)) := O5_3.out.below hc4
              have kg8g7 : g8 < g7 := by rw [hgg7]; exact (Array.getElem?_eq_some_iff.1 hg8_3).1
              have rg7 : hi ≤ g7 := by rw [hgg7]; exact O2_3.out.2.2
              rw [← hx4, ← hgg7]
              clear hx4 hgg7 hc4
              clear hg8_3
              refine hK.out _ _ (HS.out _ b4) (fun hHeld => ?_)
              clear hK K
              have hne : g7 ≠ g8 := by omega
              have HFIN : Hid _ := sbox_two hg7_4 hg8_4 hne mg7 mg8 b4 O2_4.out.1 HI2.out O2_4.out.2.1 (.inr rg7) (.inr rg8) O5_4.out HI5.out HTX.out
              obtain ⟨c70, c71, c72, c73, f7⟩ := box4_cells hg7_4
              refine wpAnyH_ready (rs := [8]) (by kernel_rfl) (by simp) (AllReadyH.cons rfl (fun K hK => ?_) AllReadyH.nil)
              go_simp
              refine hK.out _ _ (HS.out _ (below_set4 b4 mg7 _ _ _ _)) (fun hHeld => ?_)
              clear hK K
              obtain ⟨c80, c81, c82, c83, f8⟩ := box4_cells ((set4_other (x := x4) (g := g7) (a := .slice va vk vc) (b := .string s) (c := .int .i64 n) (d := .slice ka kl kc) (fun e => hne e.symm)).trans hg8_4)
              clear c70 c71 c72 c73 f7
              refine wpAnyH_ready (rs := [9]) (by kernel_rfl) (by simp) (AllReadyH.cons rfl (fun K hK => ?_) AllReadyH.nil)
              go_simp
              refine hK.out _ _ (HS.out _ HFIN.out.2.2) (fun hHeld => ?_)
              clear hK K c80 c81 c82 c83 f8 hne
              refine wpAnyH_done (by kernel_rfl) ?_ _
              go_wp2_with fail
              go_meet
              exact ⟨_, _, rfl, rfl, HFIN.out⟩
            ·
              go_simp
              obtain ⟨x3, hx3⟩ : ∃ x3, x3 = x2.alloc zeroS := ⟨_, rfl⟩
              have hc3 : Below x2.heap.size x2 x3 := by rw [hx3]; exact (Below.refl _ _).alloc (Nat.le_refl _) _
              have b3 := b2.trans (hc3.mono b2.size)
              obtain ⟨g7, hgg7⟩ : ∃ g7, g7 = x2.heap.size := ⟨_, rfl⟩
              have hg7_3 : x3.heap[g7]? = some zeroS := by rw [hx3, hgg7]; exact World.alloc_heap_new x2 _
              have mg7 : X.heap.size ≤ g7 := by rw [hgg7]; exact b2.size
              have hg8_3 := (hc3.block _ (Array.getElem?_eq_some_iff.1 hg8_2).1).trans hg8_2
              have O2_3 : Hid (OwnInts x3 lo (.slice va vk vc) (genV l T) ∧ IsTyP (Btw lo hi) x3 T (.agg #[.string s, .int .i64 n, .slice ka kl kc]) ∧ hi ≤ x3.heap.size) := ⟨O2_2.out.1.below hc3, isTyP_below O2_2.out.2.1 hc3, Nat.le_trans O2_2.out.2.2 hc3.size⟩
              have kg8g7 : g8 < g7 := by rw [hgg7]; exact (Array.getElem?_eq_some_iff.1 hg8_2).1
              have rg7 : hi ≤ g7 := by rw [hgg7]; exact O2_2.out.2.2
              rw [← hx3, ← hgg7]
              clear hx3 hgg7 hc3
              clear hg8_2
              refine hK.out _ _ (HS.out _ b3) (fun hHeld => ?_)
              clear hK K
              refine wpAnyH_ready (rs := [5]) (by kernel_rfl) (by simp) (AllReadyH.cons rfl (fun K hK => ?_) AllReadyH.nil)
              go_simp
              go_at_call 10
              obtain ⟨lo5, hlo5⟩ : ∃ lo5, lo5 = x3.heap.size := ⟨_, rfl⟩
              refine (rGeneral_any l _ T _ _ (HV.out.1.below b3) HV.out.2 (isTy_below b3 _ _ HTX.out) HSZ.out).mono ?_
              rintro e x4 ⟨va', vk', vc', s', n', ka', kl', kc', hte, rfl, ho5, hi5, hc4⟩
              cases hte
              have b4 := b3.trans (hc4.mono b3.size)
              have hg8_4 := (hc4.block _ (Array.getElem?_eq_some_iff.1 hg8_3).1).trans hg8_3
              have hg7_4 := (hc4.block _ (Array.getElem?_eq_some_iff.1 hg7_3).1).trans hg7_3
              have O2_4 : Hid (OwnInts x4 lo (.slice va vk vc) (genV l T) ∧ IsTyP (Btw lo hi) x4 T (.agg #[.string s, .int .i64 n, .slice ka kl kc]) ∧ hi ≤ x4.heap.size) := ⟨O2_3.out.1.below hc4, isTyP_below O2_3.out.2.1 hc4, Nat.le_trans O2_3.out.2.2 hc4.size⟩
              have HI5 : Hid (∀ y ∈ genV l T, Em5.I64 y) := hi5
              have O5_4 : Hid (OwnInts x4 lo5 (.slice va' vk' vc') (genV l T)) := by rw [Hid, hlo5]; exact ho5
              clear ho5 hi5 hlo5 hc4
              clear hg8_3 hg7_3
              (try dsimp only)
              refine hK.out _ _ (HS.out _ b4) (fun hHeld => ?_)
              clear hK K
              have hne : g7 ≠ g8 := by omega
              have HFIN : Hid _ := sbox_two hg7_4 hg8_4 hne mg7 mg8 b4 O2_4.out.1 HI2.out O2_4.out.2.1 (.inr rg7) (.inr rg8) O5_4.out HI5.out HTX.out
              obtain ⟨c70, c71, c72, c73, f7⟩ := box4_cells hg7_4
              refine wpAnyH_ready (rs := [8]) (by kernel_rfl) (by simp) (AllReadyH.cons rfl (fun K hK => ?_) AllReadyH.nil)
              go_simp
              refine hK.out _ _ (HS.out _ (below_set4 b4 mg7 _ _ _ _)) (fun hHeld => ?_)
              clear hK K
              obtain ⟨c80, c81, c82, c83, f8⟩ := box4_cells ((set4_other (x := x4) (g := g7) (a := .slice va vk vc) (b := .string s) (c := .int .i64 n) (d := .slice ka kl kc) (fun e => hne e.symm)).trans hg8_4)
              clear c70 c71 c72 c73 f7
              refine wpAnyH_ready (rs := [9]) (by kernel_rfl) (by simp) (AllReadyH.cons rfl (fun K hK => ?_) AllReadyH.nil)
              go_simp
              refine hK.out _ _ (HS.out _ HFIN.out.2.2) (fun hHeld => ?_)
              clear hK K c80 c81 c82 c83 f8 hne
              refine wpAnyH_done (by kernel_rfl) ?_ _
              go_wp2_with fail
              go_meet
              exact ⟨_, _, rfl, rfl, HFIN.out⟩
        ·
          go_simp
          obtain ⟨x1, hx1⟩ : ∃ x1, x1 = x0.alloc zeroS := ⟨_, rfl⟩
          have hc1 : Below x0.heap.size x0 x1 := by rw [hx1]; exact (Below.refl _ _).alloc (Nat.le_refl _) _
          have b1 := b0.trans (hc1.mono b0.size)
          obtain ⟨g7, hgg7⟩ : ∃ g7, g7 = x0.heap.size := ⟨_, rfl⟩
          have hg7_1 : x1.heap[g7]? = some zeroS := by rw [hx1, hgg7]; exact World.alloc_heap_new x0 _
          have mg7 : X.heap.size ≤ g7 := by rw [hgg7]; exact b0.size
          rw [← hx1, ← hgg7]
          clear hx1 hgg7 hc1
          refine hK.out _ _ (HS.out _ b1) (fun hHeld => ?_)
          clear hK K
          refine wpAnyH_ready (rs := [2, 7]) (by kernel_rfl) (by simp) (AllReadyH.cons rfl (fun K hK => ?_) (AllReadyH.cons rfl (fun K hK => ?_) AllReadyH.nil))
          ·
            go_simp
            go_at_call 9
            obtain ⟨lo, hlo⟩ : ∃ lo, lo = x1.heap.size := ⟨_, rfl⟩
            refine (sGeneral_any l _ T _ _ (HV.out.1.below b1) HV.out.2 (isTy_below b1 _ _ HTX.out) HSZ.out).mono ?_
            rintro e x2 ⟨va, vk, vc, s, n, ka, kl, kc, rfl, ho2, hi2, ht2, hc2⟩
            have b2 := b1.trans (hc2.mono b1.size)
            have hg7_2 := (hc2.block _ (Array.getElem?_eq_some_iff.1 hg7_1).1).trans hg7_1
            have lg7 : g7 < lo := by rw [hlo]; exact (Array.getElem?_eq_some_iff.1 hg7_1).1
            obtain ⟨hi, hhi⟩ : ∃ hi, hi = x2.heap.size := ⟨_, rfl⟩
            have HI2 : Hid (∀ y ∈ genV l T, Em5.I64 y) := hi2
            have O2_2 : Hid (OwnInts x2 lo (.slice va vk vc) (genV l T) ∧ IsTyP (Btw lo hi) x2 T (.agg #[.string s, .int .i64 n, .slice ka kl kc]) ∧ hi ≤ x2.heap.size) := by rw [Hid, hlo, hhi]; exact ⟨ho2, isTyP_btw ht2, Nat.le_refl _⟩
            clear ho2 hi2 ht2 hlo hhi hc2
            clear hg7_1
            (try dsimp only)
            refine hK.out _ _ (HS.out _ b2) (fun hHeld => ?_)
            clear hK K
            refine wpAnyH_ready (rs := [5, 7]) (by kernel_rfl) (by simp) (AllReadyH.cons rfl (fun K hK => ?_) (AllReadyH.cons rfl (fun K hK => ?_) AllReadyH.nil))
            ·
              go_simp
              go_at_call 10
              obtain ⟨lo5, hlo5⟩ : ∃ lo5, lo5 = x2.heap.size := ⟨_, rfl⟩
              refine (rGeneral_any l _ T _ _ (HV.out.1.below b2) HV.out.2 (isTy_below b2 _ _ HTX.out) HSZ.out).mono ?_
              rintro e x3 ⟨va', vk', vc', s', n', ka', kl', kc', hte, rfl, ho5, hi5, hc3⟩
              cases hte
              have b3 := b2.trans (hc3.mono b2.size)
              have hg7_3 := (hc3.block _ (Array.getElem?_eq_some_iff.1 hg7_2).1).trans hg7_2
              have O2_3 : Hid (OwnInts x3 lo (.slice va vk vc) (genV l T) ∧ IsTyP (Btw lo hi) x3 T (.agg #[.string s, .int .i64 n, .slice ka kl kc]) ∧ hi ≤ x3.heap.size) := ⟨O2_2.out.1.below hc3, isTyP_below O2_2.out.2.1 hc3, Nat.le_trans O2_2.out.2.2 hc3.size⟩
              have HI5 : Hid (∀ y ∈ genV l T, Em5.I64 y) := hi5
              have O5_3 : Hid (OwnInts x3 lo5 (.slice va' vk' vc') (genV l T)) := by rw [Hid, hlo5]; exact ho5
              clear ho5 hi5 hlo5 hc3
              clear hg7_2
              (try dsimp only)
              refine hK.out _ _ (HS.out _ b3) (fun hHeld => ?_)
              clear hK K
              refine wpAnyH_ready (rs := [7]) (by kernel_rfl) (by simp) (AllReadyH.cons rfl (fun K hK => ?_) AllReadyH.nil)
              go_simp
              obtain ⟨x4, hx4⟩ : ∃ x4, x4 = x3.alloc zeroS := ⟨_, rfl⟩
              have hc4 : Below x3.heap.size x3 x4 := by rw [hx4]; exact (Below.refl _ _).alloc (Nat.le_refl _) _
              have b4 := b3.trans (hc4.mono b3.size)
              obtain ⟨g8, hgg8⟩ : ∃ g8, g8 = x3.heap.size := ⟨_, rfl⟩
              have hg8_4 : x4.heap[g8]? = some zeroS := by rw [hx4, hgg8]; exact World.alloc_heap_new x3 _
              have mg8 : X.heap.size ≤ g8 := by rw [hgg8]; exact b3.size
              have hg7_4 := (hc4.block _ (Array.getElem?_eq_some_iff.1 hg7_3).1).trans hg7_3
              have O2_4 : Hid (OwnInts x4 lo (.slice va vk vc) (genV l T) ∧ IsTyP (Btw lo hi) x4 T (.agg #[.string s, .int .i64 n, .slice ka kl kc]) ∧ hi ≤ x4.heap.size) := ⟨O2_3.out.1.below hc4, isTyP_below O2_3.out.2.1 hc4, Nat.le_trans O2_3.out.2.2 hc4.size⟩
              have O5_4 : Hid (OwnInts x4 lo5 (.slice va' vk' vc') (genV l T)) := O5_3.out.below hc4
              have kg7g8 : g7 < g8 := by rw [hgg8]; exact (Array.getElem?_eq_some_iff.1 hg7_3).1
              have rg8 : hi ≤ g8 := by rw [hgg8]; exact O2_3.out.2.2
              rw [← hx4, ← hgg8]
              clear hx4 hgg8 hc4
              clear hg7_3
              refine hK.out _ _ (HS.out _ b4) (fun hHeld => ?_)
              clear hK K
              have hne : g7 ≠ g8 := by omega
              have HFIN : Hid _ := sbox_two hg7_4 hg8_4 hne mg7 mg8 b4 O2_4.out.1 HI2.out O2_4.out.2.1 (.inl lg7) (.inr rg8) O5_4.out HI5.out HTX.out
              obtain ⟨c70, c71, c72, c73, f7⟩ := box4_cells hg7_4
              refine wpAnyH_ready (rs := [8]) (by kernel_rfl) (by simp) (AllReadyH.cons rfl (fun K hK => ?_) AllReadyH.nil)
              go_simp
              refine hK.out _ _ (HS.out _ (below_set4 b4 mg7 _ _ _ _)) (fun hHeld => ?_)
              clear hK K
              obtain ⟨c80, c81, c82, c83, f8⟩ := box4_cells ((set4_other (x := x4) (g := g7) (a := .slice va vk vc) (b := .string s) (c := .int .i64 n) (d := .slice ka kl kc) (fun e => hne e.symm)).trans hg8_4)
              clear c70 c71 c72 c73 f7
              refine wpAnyH_ready (rs := [9]) (by kernel_rfl) (by simp) (AllReadyH.cons rfl (fun K hK => ?_) AllReadyH.nil)
              go_simp
              refine hK.out _ _ (HS.out _ HFIN.out.2.2) (fun hHeld => ?_)
              clear hK K c80 c81 c82 c83 f8 hne
              refine wpAnyH_done (by kernel_rfl) ?_ _
              go_wp2_with fail
              go_meet
              exact ⟨_, _, rfl, rfl, HFIN.out⟩
            ·
              go_simp
              obtain ⟨x3, hx3⟩ : ∃ x3, x3 = x2.alloc zeroS := ⟨_, rfl⟩
              have hc3 : Below x2.heap.size x2 x3 := by rw [hx3]; exact (Below.refl _ _).alloc (Nat.le_refl _) _
              have b3 := b2.trans (hc3.mono b2.size)
              obtain ⟨g8, hgg8⟩ : ∃ g8, g8 = x2.heap.size := ⟨_, rfl⟩
              have hg8_3 : x3.heap[g8]? = some zeroS := by rw [hx3, hgg8]; exact World.alloc_heap_new x2 _
              have mg8 : X.heap.size ≤ g8 := by rw [hgg8]; exact b2.size
              have hg7_3 := (hc3.block _ (Array.getElem?_eq_some_iff.1 hg7_2).1).trans hg7_2
              have O2_3 : Hid (OwnInts x3 lo (.slice va vk vc) (genV l T) ∧ IsTyP (Btw lo hi) x3 T (.agg #[.string s, .int .i64 n, .slice ka kl kc]) ∧ hi ≤ x3.heap.size) := ⟨O2_2.out.1.below hc3, isTyP_below O2_2.out.2.1 hc3, Nat.le_trans O2_2.out.2.2 hc3.size⟩
              have kg7g8 : g7 < g8 := by rw [hgg8]; exact (Array.getElem?_eq_some_iff.1 hg7_2).1
              have rg8 : hi ≤ g8 := by rw [hgg8]; exact O2_2.out.2.2
              rw [← hx3, ← hgg8]
              clear hx3 hgg8 hc3
              clear hg7_2
              refine hK.out _ _ (HS.out _ b3) (fun hHeld => ?_)
              clear hK K
              refine wpAnyH_ready (rs := [5]) (by kernel_rfl) (by simp) (AllReadyH.cons rfl (fun K hK => ?_) AllReadyH.nil)
              go_simp
              go_at_call 10
              obtain ⟨lo5, hlo5⟩ : ∃ lo5, lo5 = x3.heap.size := ⟨_, rfl⟩
              refine (rGeneral_any l _ T _ _ (HV.out.1.below b3) HV.out.2 (isTy_below b3 _ _ HTX.out) HSZ.out).mono ?_
              rintro e x4 ⟨va', vk', vc', s', n', ka', kl', kc', hte, rfl, ho5, hi5, hc4⟩
              cases hte
              have b4 := b3.trans (hc4.mono b3.size)
              have hg7_4 := (hc4.block _ (Array.getElem?_eq_some_iff.1 hg7_3).1).trans hg7_3
              have hg8_4 := (hc4.block _ (Array.getElem?_eq_some_iff.1 hg8_3).1).trans hg8_3
              have O2_4 : Hid (OwnInts x4 lo (.slice va vk vc) (genV l T) ∧ IsTyP (Btw lo hi) x4 T (.agg #[.string s, .int .i64 n, .slice ka kl kc]) ∧ hi ≤ x4.heap.size) := ⟨O2_3.out.1.below hc4, isTyP_below O2_3.out.2.1 hc4, Nat.le_trans O2_3.out.2.2 hc4.size⟩
              have HI5 : Hid (∀ y ∈ genV l T, Em5.I64 y) := hi5
              have O5_4 : Hid (OwnInts x4 lo5 (.slice va' vk' vc') (genV l T)) := by rw [Hid, hlo5]; exact ho5
              clear ho5 hi5 hlo5 hc4
              clear hg7_3 hg8_3
              (try dsimp only)
              refine hK.out _ _ (HS.out _ b4) (fun hHeld => ?_)
              clear hK K
              have hne : g7 ≠ g8 := by omega
              have HFIN : Hid _ := sbox_two hg7_4 hg8_4 hne mg7 mg8 b4 O2_4.out.1 HI2.out O2_4.out.2.1 (.inl lg7) (.inr rg8) O5_4.out HI5.out HTX.out
              obtain ⟨c70, c71, c72, c73, f7⟩ := box4_cells hg7_4
              refine wpAnyH_ready (rs := [8]) (by kernel_rfl) (by simp) (AllReadyH.cons rfl (fun K hK => ?_) AllReadyH.nil)
              go_simp
              refine hK.out _ _ (HS.out _ (below_set4 b4 mg7 _ _ _ _)) (fun hHeld => ?_)
              clear hK K
              obtain ⟨c80, c81, c82, c83, f8⟩ := box4_cells ((set4_other (x := x4) (g := g7) (a := .slice va vk vc) (b := .string s) (c := .int .i64 n) (d := .slice ka kl kc) (fun e => hne e.symm)).trans hg8_4)
              clear c70 c71 c72 c73 f7
              refine wpAnyH_ready (rs := [9]) (by kernel_rfl) (by simp) (AllReadyH.cons rfl (fun K hK => ?_) AllReadyH.nil)
              go_simp
              refine hK.out _ _ (HS.out _ HFIN.out.2.2) (fun hHeld => ?_)
              clear hK K c80 c81 c82 c83 f8 hne
              refine wpAnyH_done (by kernel_rfl) ?_ _
              go_wp2_with fail
              go_meet
              exact ⟨_, _, rfl, rfl, HFIN.out⟩
          ·
            go_simp
            obtain ⟨x2, hx2⟩ : ∃ x2, x2 = x1.alloc zeroS := ⟨_, rfl⟩
            have hc2 : Below x1.heap.size x1 x2 := by rw [hx2]; exact (Below.refl _ _).alloc (Nat.le_refl _) _
            have b2 := b1.trans (hc2.mono b1.size)
            obtain ⟨g8, hgg8⟩ : ∃ g8, g8 = x1.heap.size := ⟨_, rfl⟩
            have hg8_2 : x2.heap[g8]? = some zeroS := by rw [hx2, hgg8]; exact World.alloc_heap_new x1 _
            have mg8 : X.heap.size ≤ g8 := by rw [hgg8]; exact b1.size
            have hg7_2 := (hc2.block _ (Array.getElem?_eq_some_iff.1 hg7_1).1).trans hg7_1
            have kg7g8 : g7 < g8 := by rw [hgg8]; exact (Array.getElem?_eq_some_iff.1 hg7_1).1
            rw [← hx2, ← hgg8]
            clear hx2 hgg8 hc2
            clear hg7_1
            refine hK.out _ _ (HS.out _ b2) (fun hHeld => ?_)
            clear hK K
            refine wpAnyH_ready (rs := [2]) (by kernel_rfl) (by simp) (AllReadyH.cons rfl (fun K hK => ?_) AllReadyH.nil)
            go_simp
            go_at_call 9
            obtain ⟨lo, hlo⟩ : ∃ lo, lo = x2.heap.size := ⟨_, rfl⟩
            refine (sGeneral_any l _ T _ _ (HV.out.1.below b2) HV.out.2 (isTy_below b2 _ _ HTX.out) HSZ.out).mono ?_
            rintro e x3 ⟨va, vk, vc, s, n, ka, kl, kc, rfl, ho2, hi2, ht2, hc3⟩
            have b3 := b2.trans (hc3.mono b2.size)
            have hg7_3 := (hc3.block _ (Array.getElem?_eq_some_iff.1 hg7_2).1).trans hg7_2
            have hg8_3 := (hc3.block _ (Array.getElem?_eq_some_iff.1 hg8_2).1).trans hg8_2
            have lg7 : g7 < lo := by rw [hlo]; exact (Array.getElem?_eq_some_iff.1 hg7_2).1
            have lg8 : g8 < lo := by rw [hlo]; exact (Array.getElem?_eq_some_iff.1 hg8_2).1
            obtain ⟨hi, hhi⟩ : ∃ hi, hi = x3.heap.size := ⟨_, rfl⟩
            have HI2 : Hid (∀ y ∈ genV l T, Em5.I64 y) := hi2
            have O2_3 : Hid (OwnInts x3 lo (.slice va vk vc) (genV l T) ∧ IsTyP (Btw lo hi) x3 T (.agg #[.string s, .int .i64 n, .slice ka kl kc]) ∧ hi ≤ x3.heap.size) := by rw [Hid, hlo, hhi]; exact ⟨ho2, isTyP_btw ht2, Nat.le_refl _⟩
            clear ho2 hi2 ht2 hlo hhi hc3
            clear hg7_2 hg8_2
            (try dsimp only)
            refine hK.out _ _ (HS.out _ b3) (fun hHeld => ?_)
            clear hK K
            refine wpAnyH_ready (rs := [5]) (by kernel_rfl) (by simp) (AllReadyH.cons rfl (fun K hK => ?_) AllReadyH.nil)
            go_simp
            go_at_call 10
            obtain ⟨lo5, hlo5⟩ : ∃ lo5, lo5 = x3.heap.size := ⟨_, rfl⟩
            refine (rGeneral_any l _ T _ _ (HV.out.1.below b3) HV.out.2 (isTy_below b3 _ _ HTX.out) HSZ.out).mono ?_
            rintro e x4 ⟨va', vk', vc', s', n', ka', kl', kc', hte, rfl, ho5, hi5, hc4⟩
            cases hte
            have b4 := b3.trans (hc4.mono b3.size)
            have hg7_4 := (hc4.block _ (Array.getElem?_eq_some_iff.1 hg7_3).1).trans hg7_3
            have hg8_4 := (hc4.block _ (Array.getElem?_eq_some_iff.1 hg8_3).1).trans hg8_3
            have O2_4 : Hid (OwnInts x4 lo (.slice va vk vc) (genV l T) ∧ IsTyP (Btw lo hi) x4 T (.agg #[.string s, .int .i64 n, .slice ka kl kc]) ∧ hi ≤ x4.heap.size) := ⟨O2_3.out.1.below hc4, isTyP_below O2_3.out.2.1 hc4, Nat.le_trans O2_3.out.2.2 hc4.size⟩
            have HI5 : Hid (∀ y ∈ genV l T, Em5.I64 y) := hi5
            have O5_4 : Hid (OwnInts x4 lo5 (.slice va' vk' vc') (genV l T)) := by rw [Hid, hlo5]; exact ho5
            clear ho5 hi5 hlo5 hc4
            clear hg7_3 hg8_3
            (try dsimp only)
            refine hK.out _ _ (HS.out _ b4) (fun hHeld => ?_)
            clear hK K
            have hne : g7 ≠ g8 := by omega
            have HFIN : Hid _ := sbox_two hg7_4 hg8_4 hne mg7 mg8 b4 O2_4.out.1 HI2.out O2_4.out.2.1 (.inl lg7) (.inl lg8) O5_4.out HI5.out HTX.out
            obtain ⟨c70, c71, c72, c73, f7⟩ := box4_cells hg7_4
            refine wpAnyH_ready (rs := [8]) (by kernel_rfl) (by simp) (AllReadyH.cons rfl (fun K hK => ?_) AllReadyH.nil)
            go_simp
            refine hK.out _ _ (HS.out _ (below_set4 b4 mg7 _ _ _ _)) (fun hHeld => ?_)
            clear hK K
            obtain ⟨c80, c81, c82, c83, f8⟩ := box4_cells ((set4_other (x := x4) (g := g7) (a := .slice va vk vc) (b := .string s) (c := .int .i64 n) (d := .slice ka kl kc) (fun e => hne e.symm)).trans hg8_4)
            clear c70 c71 c72 c73 f7
            refine wpAnyH_ready (rs := [9]) (by kernel_rfl) (by simp) (AllReadyH.cons rfl (fun K hK => ?_) AllReadyH.nil)
            go_simp
            refine hK.out _ _ (HS.out _ HFIN.out.2.2) (fun hHeld => ?_)
            clear hK K c80 c81 c82 c83 f8 hne
            refine wpAnyH_done (by kernel_rfl) ?_ _
            go_wp2_with fail
            go_meet
            exact ⟨_, _, rfl, rfl, HFIN.out⟩
        ·
          go_simp
          obtain ⟨x1, hx1⟩ : ∃ x1, x1 = x0.alloc zeroS := ⟨_, rfl⟩
          have hc1 : Below x0.heap.size x0 x1 := by rw [hx1]; exact (Below.refl _ _).alloc (Nat.le_refl _) _
          have b1 := b0.trans (hc1.mono b0.size)
          obtain ⟨g8, hgg8⟩ : ∃ g8, g8 = x0.heap.size := ⟨_, rfl⟩
          have hg8_1 : x1.heap[g8]? = some zeroS := by rw [hx1, hgg8]; exact World.alloc_heap_new x0 _
          have mg8 : X.heap.size ≤ g8 := by rw [hgg8]; exact b0.size
          rw [← hx1, ← hgg8]
          clear hx1 hgg8 hc1
          refine hK.out _ _ (HS.out _ b1) (fun hHeld => ?_)
          clear hK K
          refine wpAnyH_ready (rs := [2, 6]) (by kernel_rfl) (by simp) (AllReadyH.cons rfl (fun K hK => ?_) (AllReadyH.cons rfl (fun K hK => ?_) AllReadyH.nil))
          ·
            go_simp
            go_at_call 9
            obtain ⟨lo, hlo⟩ : ∃ lo, lo = x1.heap.size := ⟨_, rfl⟩
            refine (sGeneral_any l _ T _ _ (HV.out.1.below b1) HV.out.2 (isTy_below b1 _ _ HTX.out) HSZ.out).mono ?_
            rintro e x2 ⟨va, vk, vc, s, n, ka, kl, kc, rfl, ho2, hi2, ht2, hc2⟩
            have b2 := b1.trans (hc2.mono b1.size)
            have hg8_2 := (hc2.block _ (Array.getElem?_eq_some_iff.1 hg8_1).1).trans hg8_1
            have lg8 : g8 < lo := by rw [hlo]; exact (Array.getElem?_eq_some_iff.1 hg8_1).1
            obtain ⟨hi, hhi⟩ : ∃ hi, hi = x2.heap.size := ⟨_, rfl⟩
            have HI2 : Hid (∀ y ∈ genV l T, Em5.I64 y) := hi2
            have O2_2 : Hid (OwnInts x2 lo (.slice va vk vc) (genV l T) ∧ IsTyP (Btw lo hi) x2 T (.agg #[.string s, .int .i64 n, .slice ka kl kc]) ∧ hi ≤ x2.heap.size) := by rw [Hid, hlo, hhi]; exact ⟨ho2, isTyP_btw ht2, Nat.le_refl _⟩
            clear ho2 hi2 ht2 hlo hhi hc2
            clear hg8_1
            (try dsimp only)
            refine hK.out _ _ (HS.out _ b2) (fun hHeld => ?_)
            clear hK K
            refine wpAnyH_ready (rs := [5, 6]) (by kernel_rfl) (by simp) (AllReadyH.cons rfl (fun K hK => ?_) (AllReadyH.cons rfl (fun K hK => ?_) AllReadyH.nil))
            ·
              go_simp
              go_at_call 10
              obtain ⟨lo5, hlo5⟩ : ∃ lo5, lo5 = x2.heap.size := ⟨_, rfl⟩
              refine (rGeneral_any l _ T _ _ (HV.out.1.below b2) HV.out.2 (isTy_below b2 _ _ HTX.out) HSZ.out).mono ?_
              rintro e x3 ⟨va', vk', vc', s', n', ka', kl', kc', hte, rfl, ho5, hi5, hc3⟩
              cases hte
              have b3 := b2.trans (hc3.mono b2.size)
              have hg8_3 := (hc3.block _ (Array.getElem?_eq_some_iff.1 hg8_2).1).trans hg8_2
              have O2_3 : Hid (OwnInts x3 lo (.slice va vk vc) (genV l T) ∧ IsTyP (Btw lo hi) x3 T (.agg #[.string s, .int .i64 n, .slice ka kl kc]) ∧ hi ≤ x3.heap.size) := ⟨O2_2.out.1.below hc3, isTyP_below O2_2.out.2.1 hc3, Nat.le_trans O2_2.out.2.2 hc3.size⟩
              have HI5 : Hid (∀ y ∈ genV l T, Em5.I64 y) := hi5
              have O5_3 : Hid (OwnInts x3 lo5 (.slice va' vk' vc') (genV l T)) := by rw [Hid, hlo5]; exact ho5
              clear ho5 hi5 hlo5 hc3
              clear hg8_2
              (try dsimp only)
              refine hK.out _ _ (HS.out _ b3) (fun hHeld => ?_)
              clear hK K
              refine wpAnyH_ready (rs := [6]) (by kernel_rfl) (by simp) (AllReadyH.cons rfl (fun K hK => ?_) AllReadyH.nil)
              go_simp
              obtain ⟨x4, hx4⟩ : ∃ x4, x4 = x3.alloc zeroS := ⟨_, rfl⟩
              have hc4 : Below x3.heap.size x3 x4 := by rw [hx4]; exact (Below.refl _ _).alloc (Nat.le_refl _) _
              have b4 := b3.trans (hc4.mono b3.size)
              obtain ⟨g7, hgg7⟩ : ∃ g7, g7 = x3.heap.size := ⟨_, rfl⟩
              have hg7_4 : x4.heap[g7]? = some zeroS := by rw [hx4, hgg7]; exact World.alloc_heap_new x3 _
              have mg7 : X.heap.size ≤ g7 := by rw [hgg7]; exact b3.size
              have hg8_4 := (hc4.block _ (Array.getElem?_eq_some_iff.1 hg8_3).1).trans hg8_3
              have O2_4 : Hid (OwnInts x4 lo (.slice va vk vc) (genV l T) ∧ IsTyP (Btw lo hi) x4 T (.agg #[.string s, .int .i64 n, .slice ka kl kc]) ∧ hi ≤ x4.heap.size) := ⟨O2_3.out.1.below hc4, isTyP_below O2_3.out.2.1 hc4, Nat.le_trans O2_3.out.2.2 hc4.size⟩
              have O5_4 : Hid (OwnInts x4 lo5 (.slice va' vk' vc') (genV l T)) := O5_3.out.below hc4
              have kg8g7 : g8 < g7 := by rw [hgg7]; exact (Array.getElem?_eq_some_iff.1 hg8_3).1
              have rg7 : hi ≤ g7 := by rw [hgg7]; exact O2_3.out.2.2
              rw [← hx4, ← hgg7]
              clear hx4 hgg7 hc4
              clear hg8_3
              refine hK.out _ _ (HS.out _ b4) (fun hHeld => ?_)
              clear hK K
              have hne : g7 ≠ g8 := by omega
              have HFIN : Hid _ := sbox_two hg7_4 hg8_4 hne mg7 mg8 b4 O2_4.out.1 HI2.out O2_4.out.2.1 (.inr rg7) (.inl lg8) O5_4.out HI5.out HTX.out
              obtain ⟨c70, c71, c72, c73, f7⟩ := box4_cells hg7_4
              refine wpAnyH_ready (rs := [8]) (by kernel_rfl) (by simp) (AllReadyH.cons rfl (fun K hK => ?_) AllReadyH.nil)
              go_simp
              refine hK.out _ _ (HS.out _ (below_set4 b4 mg7 _ _ _ _)) (fun hHeld => ?_)
              clear hK K
              obtain ⟨c80, c81, c82, c83, f8⟩ := box4_cells ((set4_other (x := x4) (g := g7) (a := .slice va vk vc) (b := .string s) (c := .int .i64 n) (d := .slice ka kl kc) (fun e => hne e.symm)).trans hg8_4)
              clear c70 c71 c72 c73 f7
              refine wpAnyH_ready (rs := [9]) (by kernel_rfl) (by simp) (AllReadyH.cons rfl (fun K hK => ?_) AllReadyH.nil)
              go_simp
              refine hK.out _ _ (HS.out _ HFIN.out.2.2) (fun hHeld => ?_)
              clear hK K c80 c81 c82 c83 f8 hne
              refine wpAnyH_done (by kernel_rfl) ?_ _
              go_wp2_with fail
              go_meet
              exact ⟨_, _, rfl, rfl, HFIN.out⟩
            ·
              go_simp
              obtain ⟨x3, hx3⟩ : ∃ x3, x3 = x2.alloc zeroS := ⟨_, rfl⟩
              have hc3 : Below x2.heap.size x2 x3 := by rw [hx3]; exact (Below.refl _ _).alloc (Nat.le_refl _) _
              have b3 := b2.trans (hc3.mono b2.size)
              obtain ⟨g7, hgg7⟩ : ∃ g7, g7 = x2.heap.size := ⟨_, rfl⟩
              have hg7_3 : x3.heap[g7]? = some zeroS := by rw [hx3, hgg7]; exact World.alloc_heap_new x2 _
              have mg7 : X.heap.size ≤ g7 := by rw [hgg7]; exact b2.size
              have hg8_3 := (hc3.block _ (Array.getElem?_eq_some_iff.1 hg8_2).1).trans hg8_2
              have O2_3 : Hid (OwnInts x3 lo (.slice va vk vc) (genV l T) ∧ IsTyP (Btw lo hi) x3 T (.agg #[.string s, .int .i64 n, .slice ka kl kc]) ∧ hi ≤ x3.heap.size) := ⟨O2_2.out.1.below hc3, isTyP_below O2_2.out.2.1 hc3, Nat.le_trans O2_2.out.2.2 hc3.size⟩
              have kg8g7 : g8 < g7 := by rw [hgg7]; exact (Array.getElem?_eq_some_iff.1 hg8_2).1
              have rg7 : hi ≤ g7 := by rw [hgg7]; exact O2_2.out.2.2
              rw [← hx3, ← hgg7]
              clear hx3 hgg7 hc3
              clear hg8_2
              refine hK.out _ _ (HS.out _ b3) (fun hHeld => ?_)
              clear hK K
              refine wpAnyH_ready (rs := [5]) (by kernel_rfl) (by simp) (AllReadyH.cons rfl (fun K hK => ?_) AllReadyH.nil)
              go_simp
              go_at_call 10
              obtain ⟨lo5, hlo5⟩ : ∃ lo5, lo5 = x3.heap.size := ⟨_, rfl⟩
              refine (rGeneral_any l _ T _ _ (HV.out.1.below b3) HV.out.2 (isTy_below b3 _ _ HTX.out) HSZ.out).mono ?_
              rintro e x4 ⟨va', vk', vc', s', n', ka', kl', kc', hte, rfl, ho5, hi5, hc4⟩
              cases hte
              have b4 := b3.trans (hc4.mono b3.size)
              have hg8_4 := (hc4.block _ (Array.getElem?_eq_some_iff.1 hg8_3).1).trans hg8_3
              have hg7_4 := (hc4.block _ (Array.getElem?_eq_some_iff.1 hg7_3).1).trans hg7_3
              have O2_4 : Hid (OwnInts x4 lo (.slice va vk vc) (genV l T) ∧ IsTyP (Btw lo hi) x4 T (.agg #[.string s, .int .i64 n, .slice ka kl kc]) ∧ hi ≤ x4.heap.size) := ⟨O2_3.out.1.below hc4, isTyP_below O2_3.out.2.1 hc4, Nat.le_trans O2_3.out.2.2 hc4.size⟩
              have HI5 : Hid (∀ y ∈ genV l T, Em5.I64 y) := hi5
              have O5_4 : Hid (OwnInts x4 lo5 (.slice va' vk' vc') (genV l T)) := by rw [Hid, hlo5]; exact ho5
              clear ho5 hi5 hlo5 hc4
              clear hg8_3 hg7_3
              (try dsimp only)
              refine hK.out _ _ (HS.out _ b4) (fun hHeld => ?_)
              clear hK K
              have hne : g7 ≠ g8 := by omega
              have HFIN : Hid _ := sbox_two hg7_4 hg8_4 hne mg7 mg8 b4 O2_4.out.1 HI2.out O2_4.out.2.1 (.inr rg7) (.inl lg8) O5_4.out HI5.out HTX.out
              obtain ⟨c70, c71, c72, c73, f7⟩ := box4_cells hg7_4
              refine wpAnyH_ready (rs := [8]) (by kernel_rfl) (by simp) (AllReadyH.cons rfl (fun K hK => ?_) AllReadyH.nil)
              go_simp
              refine hK.out _ _ (HS.out _ (below_set4 b4 mg7 _ _ _ _)) (fun hHeld => ?_)
              clear hK K
              obtain ⟨c80, c81, c82, c83, f8⟩ := box4_cells ((set4_other (x := x4) (g := g7) (a := .slice va vk vc) (b := .string s) (c := .int .i64 n) (d := .slice ka kl kc) (fun e => hne e.symm)).trans hg8_4)
              clear c70 c71 c72 c73 f7
              refine wpAnyH_ready (rs := [9]) (by kernel_rfl) (by simp) (AllReadyH.cons rfl (fun K hK => ?_) AllReadyH.nil)
              go_simp
              refine hK.out _ _ (HS.out _ HFIN.out.2.2) (fun hHeld => ?_)
              clear hK K c80 c81 c82 c83 f8 hne
              refine wpAnyH_done (by kernel_rfl) ?_ _
              go_wp2_with fail
              go_meet
              exact ⟨_, _, rfl, rfl, HFIN.out⟩
          ·
            go_simp
            obtain ⟨x2, hx2⟩ : ∃ x2, x2 = x1.alloc zeroS := ⟨_, rfl⟩
            have hc2 : Below x1.heap.size x1 x2 := by rw [hx2]; exact (Below.refl _ _).alloc (Nat.le_refl _) _
            have b2 := b1.trans (hc2.mono b1.size)
            obtain ⟨g7, hgg7⟩ : ∃ g7, g7 = x1.heap.size := ⟨_, rfl⟩
            have hg7_2 : x2.heap[g7]? = some zeroS := by rw [hx2, hgg7]; exact World.alloc_heap_new x1 _
            have mg7 : X.heap.size ≤ g7 := by rw [hgg7]; exact b1.size
            have hg8_2 := (hc2.block _ (Array.getElem?_eq_some_iff.1 hg8_1).1).trans hg8_1
            have kg8g7 : g8 < g7 := by rw [hgg7]; exact (Array.getElem?_eq_some_iff.1 hg8_1).1
            rw [← hx2, ← hgg7]
            clear hx2 hgg7 hc2
            clear hg8_1
            refine hK.out _ _ (HS.out _ b2) (fun hHeld => ?_)
            clear hK K
            refine wpAnyH_ready (rs := [2]) (by kernel_rfl) (by simp) (AllReadyH.cons rfl (fun K hK => ?_) AllReadyH.nil)
            go_simp
            go_at_call 9
            obtain ⟨lo, hlo⟩ : ∃ lo, lo = x2.heap.size := ⟨_, rfl⟩
            refine (sGeneral_any l _ T _ _ (HV.out.1.below b2) HV.out.2 (isTy_below b2 _ _ HTX.out) HSZ.out).mono ?_
            rintro e x3 ⟨va, vk, vc, s, n, ka, kl, kc, rfl, ho2, hi2, ht2, hc3⟩
            have b3 := b2.trans (hc3.mono b2.size)
            have hg8_3 := (hc3.block _ (Array.getElem?_eq_some_iff.1 hg8_2).1).trans hg8_2
            have hg7_3 := (hc3.block _ (Array.getElem?_eq_some_iff.1 hg7_2).1).trans hg7_2
            have lg8 : g8 < lo := by rw [hlo]; exact (Array.getElem?_eq_some_iff.1 hg8_2).1
            have lg7 : g7 < lo := by rw [hlo]; exact (Array.getElem?_eq_some_iff.1 hg7_2).1
            obtain ⟨hi, hhi⟩ : ∃ hi, hi = x3.heap.size := ⟨_, rfl⟩
            have HI2 : Hid (∀ y ∈ genV l T, Em5.I64 y) := hi2
            have O2_3 : Hid (OwnInts x3 lo (.slice va vk vc) (genV l T) ∧ IsTyP (Btw lo hi) x3 T (.agg #[.string s, .int .i64 n, .slice ka kl kc]) ∧ hi ≤ x3.heap.size) := by rw [Hid, hlo, hhi]; exact ⟨ho2, isTyP_btw ht2, Nat.le_refl _⟩
            clear ho2 hi2 ht2 hlo hhi hc3
            clear hg8_2 hg7_2
            (try dsimp only)
            refine hK.out _ _ (HS.out _ b3) (fun hHeld => ?_)
            clear hK K
            refine wpAnyH_ready (rs := [5]) (by kernel_rfl) (by simp) (AllReadyH.cons rfl (fun K hK => ?_) AllReadyH.nil)
            go_simp
            go_at_call 10
            obtain ⟨lo5, hlo5⟩ : ∃ lo5, lo5 = x3.heap.size := ⟨_, rfl⟩
            refine (rGeneral_any l _ T _ _ (HV.out.1.below b3) HV.out.2 (isTy_below b3 _ _ HTX.out) HSZ.out).mono ?_
            rintro e x4 ⟨va', vk', vc', s', n', ka', kl', kc', hte, rfl, ho5, hi5, hc4⟩
            cases hte
            have b4 := b3.trans (hc4.mono b3.size)
            have hg8_4 := (hc4.block _ (Array.getElem?_eq_some_iff.1 hg8_3).1).trans hg8_3
            have hg7_4 := (hc4.block _ (Array.getElem?_eq_some_iff.1 hg7_3).1).trans hg7_3
            have O2_4 : Hid (OwnInts x4 lo (.slice va vk vc) (genV l T) ∧ IsTyP (Btw lo hi) x4 T (.agg #[.string s, .int .i64 n, .slice ka kl kc]) ∧ hi ≤ x4.heap.size) := ⟨O2_3.out.1.below hc4, isTyP_below O2_3.out.2.1 hc4, Nat.le_trans O2_3.out.2.2 hc4.size⟩
            have HI5 : Hid (∀ y ∈ genV l T, Em5.I64 y) := hi5
            have O5_4 : Hid (OwnInts x4 lo5 (.slice va' vk' vc') (genV l T)) := by rw [Hid, hlo5]; exact ho5
            clear ho5 hi5 hlo5 hc4
            clear hg8_3 hg7_3
            (try dsimp only)
            refine hK.out _ _ (HS.out _ b4) (fun hHeld => ?_)
            clear hK K
            have hne : g7 ≠ g8 := by omega
            have HFIN : Hid _ := sbox_two hg7_4 hg8_4 hne mg7 mg8 b4 O2_4.out.1 HI2.out O2_4.out.2.1 (.inl lg7) (.inl lg8) O5_4.out HI5.out HTX.out
            obtain ⟨c70, c71, c72, c73, f7⟩ := box4_cells hg7_4
            refine wpAnyH_ready (rs := [8]) (by kernel_rfl) (by simp) (AllReadyH.cons rfl (fun K hK => ?_) AllReadyH.nil)
            go_simp
            refine hK.out _ _ (HS.out _ (below_set4 b4 mg7 _ _ _ _)) (fun hHeld => ?_)
            clear hK K
            obtain ⟨c80, c81, c82, c83, f8⟩ := box4_cells ((set4_other (x := x4) (g := g7) (a := .slice va vk vc) (b := .string s) (c := .int .i64 n) (d := .slice ka kl kc) (fun e => hne e.symm)).trans hg8_4)
            clear c70 c71 c72 c73 f7
            refine wpAnyH_ready (rs := [9]) (by kernel_rfl) (by simp) (AllReadyH.cons rfl (fun K hK => ?_) AllReadyH.nil)
            go_simp
            refine hK.out _ _ (HS.out _ HFIN.out.2.2) (fun hHeld => ?_)
            clear hK K c80 c81 c82 c83 f8 hne
            refine wpAnyH_done (by kernel_rfl) ?_ _
            go_wp2_with fail
            go_meet
            exact ⟨_, _, rfl, rfl, HFIN.out⟩
    · have h50I : (50 : Int) < (z : Int) := by omega
      go_wp2_with fail
      go_ret
      exact ⟨rfl, HW.out.trans (HB2.out.mono HW.out.size)⟩

theorem schemeTells_own : ownKnob Try.prog.godebug = none := by kernel_rfl
theorem schemeTells_laidOut : laidOutB Try.prog = true := by kernel_rfl
set_option maxRecDepth 100000 in
theorem schemeTells_lifted (os : Os) (started : os.Started) (H : Type) (enc : TypeId × Value → H) :
    ReturnsInHanded {} Try.checked os 3 .any (Rows.schemeTellsSpec.pre6 enc Try.prog Try.f3 Rows.schemeTellsRow.domain false) (Rows.schemeTellsSpec.post enc Try.prog Try.f3 false true false false) := by
  refine returnsInHanded_of_change_sized (C := Try.checked) schemeTells_own started (by kernel_rfl) Try.func3
    (ChangeSpec.witness6 (enc := enc) (C := Try.checked) false ⟨#[], #[.slice none 0 0, .agg #[.string ByteArray.empty, .int .i64 0, .slice none 0 0], .string ByteArray.empty], []⟩ 8 (by kernel_rfl) (by kernel_rfl) (by kernel_rfl) (by kernel_rfl)) ?_
  intro W base args ds gs before hval0 hW hcnd hsz0 _
  have hval : ∀ (j : Nat) t v, Try.f3.params[j]? = some t → args[j]? = some v → Value.okWide Try.prog W .any base t v := hval0
  have hW' := hW
  obtain ⟨p, q, hA0, hV, rfl, hfz, hnd⟩ := hW
  have hA : DataW.TrodAll enc Try.prog W 0 (fun _ => true) true Try.f3.params.toList args.toList ds p := hA0
  have hsz : (DataW.weightsEach Try.prog (Try.f3.params.toList ++ Rows.schemeTellsSpec.plain.varTypes Try.prog) (ds ++ gs)).all (· ≤ reachBytes) = true := hsz0
  rw [Try.params3] at hA hval hsz
  obtain ⟨v0, vs0, d0, ds0, p0, q0, hargs, rfl, rfl, h0, r0⟩ := trodAll_cons hA
  obtain ⟨v1, vs1, d1, ds1, p1, q1, rfl, rfl, rfl, h1, r1⟩ := trodAll_cons r0
  obtain ⟨v2, vs2, d2, ds2, p2, q2, rfl, rfl, rfl, h2, r2⟩ := trodAll_cons r1
  obtain ⟨rfl, rfl, rfl⟩ := trodAll_nil r2
  obtain rfl : args = #[v0, v1, v2] := by cases args; simp_all
  obtain ⟨rfl, rfl⟩ := trodVars_none hV
  have lt0 : ∀ x ∈ p0, x.block < W.heap.size := by obtain ⟨m, hm⟩ := h0; exact DataW.trod_lt m _ _ _ hm
  have o0 := open_bds (hval 0 22 v0 rfl rfl) h0 (Em.sized_arg hsz 0 rfl rfl)
  have lt1 : ∀ x ∈ p1, x.block < W.heap.size := by obtain ⟨m, hm⟩ := h1; exact DataW.trod_lt m _ _ _ hm
  have o1 := open_ty (hval 1 25 v1 rfl rfl) h1 (Em.sized_arg hsz 1 rfl rfl)
  have lt2 : ∀ x ∈ p2, x.block < W.heap.size := by obtain ⟨m, hm⟩ := h2; exact DataW.trod_lt m _ _ _ hm
  have o2 := open_txt (hval 2 9 v2 rfl rfl) h2 (Em.sized_arg hsz 2 rfl rfl)
  clear hsz0 hsz
  clear hA0 hval0
  refine (walk_schemeTells W v0 v1 v2 o0 o1 o2).mono fun e W' ⟨he, bel⟩ => ?_
  subst he
  exact ⟨_, rfl, _, _, _, [], _, [], hW', trodAll_mk1 (shut_bool Try.underlying4 _), (trodAll_cons_mk (Below.trod schemeTells_laidOut (by kernel_rfl) (of_decide_eq_true (by kernel_rfl)) h0 bel lt0) (trodAll_cons_mk (Below.trod schemeTells_laidOut (by kernel_rfl) (of_decide_eq_true (by kernel_rfl)) h1 bel lt1) (trodAll_cons_mk (Below.trod schemeTells_laidOut (by kernel_rfl) (of_decide_eq_true (by kernel_rfl)) h2 bel lt2) trodAll_mk0))), rfl, bel.frame _, fun h => by cases h⟩
theorem schemeTells_holds : Rows.SchemeTellsSaid :=
  OpenClaim.holds_of_wide 3 Try.f3 rfl rfl rfl rfl rfl rfl rfl ⟨rfl, rfl, rfl, rfl, rfl⟩ rfl rfl rfl rfl rfl (by kernel_rfl) Try.func3 (by kernel_rfl)
    (of_decide_eq_true (by kernel_rfl)) (by unfold Func.isWrapper; first | (rw [if_pos (by decide +kernel)]; kernel_rfl) | (rw [if_neg (by decide +kernel)]; exact ⟨rfl, rfl⟩))
    (fun os started H enc _ => schemeTells_lifted os started H enc)
#print axioms schemeTells_holds
end Go.Proofs.Ytbiihiibebdjgaa

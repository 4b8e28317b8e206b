/- SchemeLast: of any env that may be, with any bound behind it, Look of that bound's name answers that bound's scheme. No condition. -/
import Derived.Test.YtbiihiibebdjgaaRows
import Derived.Test.YtbiihiibebdjgaaSBox
import Derived.Test.YtbiihiibebdjgaaFrame
import Derived.Test.YtbiihiibebdjgaaFrame2
namespace Go.Proofs.Ytbiihiibebdjgaa
open Go.ChangeShapes Go.WideShapes Go.ChangeAt Go.RowKit Go.Em8
set_option linter.unusedSimpArgs false
set_option linter.unusedVariables false

set_option maxRecDepth 100000 in
set_option maxHeartbeats 8000000 in
theorem walk_schemeLast (w : World) (v u : Value) (h0 : ∃ l, IsBds w v l) (hu : ∃ x, IsBdV w u x) :
    Calls Try.prog 4 #[v, u] w fun e w' => e = .returned (.bool true) ∧ Below w.heap.size w w' := by
  obtain ⟨l, hv⟩ := h0
  obtain ⟨bd1, e0, e1, e2, e3, e4, rfl, hx⟩ := hu
  have hx' := hx
  obtain ⟨rfl, hnm, hvs, hty⟩ := hx'
  obtain ⟨s1, n1, ka1, kl1, kc1, hf⟩ := isTyP_form (isTy_isP _ _ hty)
  simp only [Value.agg.injEq, Array.mk.injEq, List.cons.injEq, and_true] at hf
  obtain ⟨rfl, rfl, rfl⟩ := hf
  obtain ⟨va1, vk1, vc1, rfl⟩ : ∃ va1 vk1 vc1, e1 = .slice va1 vk1 vc1 := by obtain ⟨a', c', e, -⟩ := hvs; exact ⟨_, _, _, e⟩
  obtain ⟨pa, pk, pc, rfl⟩ : ∃ pa pk pc, v = .slice pa pk pc := by obtain ⟨pa, pc, e, -⟩ := hv; exact ⟨_, _, _, e⟩
  obtain ⟨W, hW⟩ : ∃ W, W = w.alloc (.cells #[.string (Em.str bd1.nm), .slice va1 vk1 vc1, .string s1, .int .i64 n1, .slice ka1 kl1 kc1] 41) := ⟨_, rfl⟩
  have hbW : Below w.heap.size w W := by rw [hW]; exact (Below.refl _ _).alloc (Nat.le_refl _) _
  have hWh : W.heap[w.heap.size]? = some (.cells #[.string (Em.str bd1.nm), .slice va1 vk1 vc1, .string s1, .int .i64 n1, .slice ka1 kl1 kc1] 41 (0, 0)) := by rw [hW]; exact World.alloc_heap_new w _
  have HK : Hid (∀ w', Below W.heap.size W w' → w'.cell? ⟨w.heap.size, 0, none⟩ = some (.string (Em.str bd1.nm)) ∧ w'.cell? ⟨w.heap.size, 1, none⟩ = some (.slice va1 vk1 vc1) ∧ w'.cell? ⟨w.heap.size, 2, none⟩ = some (.string s1) ∧ w'.cell? ⟨w.heap.size, 3, none⟩ = some (.int .i64 n1) ∧ w'.cell? ⟨w.heap.size, 4, none⟩ = some (.slice ka1 kl1 kc1)) := fun w' hb => by
    have h := (hb.block _ (Array.getElem?_eq_some_iff.1 hWh).1).trans hWh
    exact ⟨by simp [World.cell?, h], by simp [World.cell?, h], by simp [World.cell?, h], by simp [World.cell?, h], by simp [World.cell?, h]⟩
  have HV0 : Hid (∀ w', Below W.heap.size W w' → IsBds w' (.slice pa pk pc) l) := fun w' h => hv.below (hbW.trans (h.mono hbW.size))
  have HB0 : Hid (∀ w', Below W.heap.size W w' → IsBd w' bd1 (.string (Em.str bd1.nm)) (.slice va1 vk1 vc1) (.string s1) (.int .i64 n1) (.slice ka1 kl1 kc1)) := fun w' h => hx.below (hbW.trans (h.mono hbW.size))
  have HW : Hid (Below w.heap.size w W) := hbW
  have HN : Hid (Em5.Txt bd1.nm) := hnm
  have HWE : Hid (w.alloc (.cells #[.string (Em.str bd1.nm), .slice va1 vk1 vc1, .string s1, .int .i64 n1, .slice ka1 kl1 kc1] 41) = W) := hW.symm
  clear hv hx hbW hW hnm hvs hty hWh
  go_enter Try.func4, Try.ntmps4
  go_upto_region 1 with fail
  rw [HWE.out]
  clear HWE
  go_wp2_with fail
  refine (ymay_any l _ W (HV0.out _ (Below.refl _ _))).mono ?_
  rintro e w1 ⟨bm, rfl, hm, b1⟩
  cases bm with
  | false =>
    go_wp2_with fail
    go_ret
    exact ⟨rfl, HW.out.trans (b1.mono HW.out.size)⟩
  | true =>
    have HM : Hid (l.length < 20 ∧ ∀ x ∈ l, MayBd x) := hm rfl
    have HB1 : Hid (Below W.heap.size W w1) := b1
    obtain ⟨k0, k1, k2, k3, k4⟩ := HK.out w1 b1
    obtain ⟨X1, hX1⟩ : ∃ X1, X1 = w1.alloc (.cells #[.string (Em.str bd1.nm), .slice va1 vk1 vc1, .string s1, .int .i64 n1, .slice ka1 kl1 kc1] 41) := ⟨_, rfl⟩
    have HX1 : Hid (w1.alloc (.cells #[.string (Em.str bd1.nm), .slice va1 vk1 vc1, .string s1, .int .i64 n1, .slice ka1 kl1 kc1] 41) = X1) := hX1.symm
    have HBX1 : Hid (Below W.heap.size W X1) := by rw [Hid, hX1]; exact b1.alloc b1.size _
    have HI1 : Hid (IsBds X1 (.slice (some ⟨w1.heap.size, 0, none⟩) 1 1) [bd1]) := isBds_one (by rw [hX1]; exact World.alloc_heap_new w1 _) (HB0.out _ HBX1.out)
    clear hm b1 hX1
    go_wp2_with fail
    rw [HX1.out]
    clear HX1 k0 k1 k2 k3 k4
    refine (ymay_any [bd1] _ X1 HI1.out).mono ?_
    rintro e w3 ⟨bm, rfl, hm, b3⟩
    have HB3 : Hid (Below W.heap.size W w3) := HBX1.out.trans (b3.mono HBX1.out.size)
    clear b3 HI1 HBX1
    cases bm with
    | false =>
      go_wp2_with fail
      go_ret
      exact ⟨rfl, HW.out.trans (HB3.out.mono HW.out.size)⟩
    | true =>
      have hbd1 := (hm rfl).2 bd1 (by simp)
      have HOKL : Hid (BdsOk (l ++ [bd1])) := BdsOk.app HM.out hbd1.1 (by have := hbd1.2.2; omega)
      have HLB : Hid (lastB (l ++ [bd1]) bd1.nm = some bd1) := lastB_app l bd1
      clear hm hbd1
      go_upto_region 3 with fail
      obtain ⟨X, hX⟩ : ∃ X, X = w3 := ⟨_, rfl⟩
      have HBX : Hid (Below W.heap.size W X) := by rw [hX]; exact HB3.out
      obtain ⟨cs, hsrc, hare⟩ := (HV0.out X HBX.out).src
      have HSRC : Hid (SrcBds X (.slice pa pk pc) cs) := hsrc
      have HARE : Hid (BdsAre X (cs ++ [(.string (Em.str bd1.nm), .slice va1 vk1 vc1, .string s1, .int .i64 n1, .slice ka1 kl1 kc1)]) (l ++ [bd1])) := hare.app (HB0.out X HBX.out)
      have HLEN : Hid (cs.length ≤ 100) := by have := hare.1; have := HM.out.1; rw [Hid]; omega
      have HONE : Hid (∀ u ∈ [Value.string (Em.str bd1.nm), .slice va1 vk1 vc1, .string s1, .int .i64 n1, .slice ka1 kl1 kc1], u.oneCell' = true) := isBd_one (HB0.out X HBX.out)
      have HS : Hid (∀ w', Below X.heap.size X w' → w'.cell? ⟨w.heap.size, 0, none⟩ = some (.string (Em.str bd1.nm)) ∧ w'.cell? ⟨w.heap.size, 1, none⟩ = some (.slice va1 vk1 vc1) ∧ w'.cell? ⟨w.heap.size, 2, none⟩ = some (.string s1) ∧ w'.cell? ⟨w.heap.size, 3, none⟩ = some (.int .i64 n1) ∧ w'.cell? ⟨w.heap.size, 4, none⟩ = some (.slice ka1 kl1 kc1)) := fun w' h => HK.out w' (HBX.out.trans (h.mono HBX.out.size))
      rw [← hX]
      clear hX HB3 HB1 hsrc hare
      go_cut [5, 6] from 7 (fun s5 s6 wx => ∃ gb : Nat, s5 = .pointer (some ⟨gb, 0, none⟩) ∧ s6 = .bool true ∧ Hid (SBox wx gb bd1.vs bd1.ty ∧ Below X.heap.size X wx))
      case rest =>
        obtain ⟨gb, rfl, rfl, HF⟩ := hcut
        obtain ⟨a7, a7k, a7c, s7, n7, t7, t7l, t7c, H7⟩ := HF.out.1.all
        have HWX : Hid (Below w.heap.size w wc) := HW.out.trans ((HBX.out.trans (HF.out.2.mono HBX.out.size)).mono HW.out.size)
        have HK5 : Hid (∀ w', Below wc.heap.size wc w' → (w'.cell? ⟨w.heap.size, 0, none⟩ = some (.string (Em.str bd1.nm)) ∧ w'.cell? ⟨w.heap.size, 1, none⟩ = some (.slice va1 vk1 vc1) ∧ w'.cell? ⟨w.heap.size, 2, none⟩ = some (.string s1) ∧ w'.cell? ⟨w.heap.size, 3, none⟩ = some (.int .i64 n1) ∧ w'.cell? ⟨w.heap.size, 4, none⟩ = some (.slice ka1 kl1 kc1)) ∧ IsBd w' bd1 (.string (Em.str bd1.nm)) (.slice va1 vk1 vc1) (.string s1) (.int .i64 n1) (.slice ka1 kl1 kc1)) := fun w' h => ⟨HS.out w' (HF.out.2.trans (h.mono HF.out.2.size)), HB0.out w' (HBX.out.trans ((HF.out.2.trans (h.mono HF.out.2.size)).mono HBX.out.size))⟩
        have HSM : Hid (tsame bd1.ty bd1.ty = true) := (tsame_iff _ _).2 rfl
        obtain ⟨-, d71, d72, d73, -, -⟩ := H7.out wc (Below.refl _ _)
        obtain ⟨⟨-, -, k2, k3, k4⟩, -⟩ := HK5.out wc (Below.refl _ _)
        go_wp2_with fail
        refine (rtSame_any bd1.ty bd1.ty _ _ wc (H7.out wc (Below.refl _ _)).2.2.2.2.2 (HK5.out wc (Below.refl _ _)).2.2.2.2).mono ?_
        rintro e y1 ⟨rfl, c1⟩
        rw [HSM.out]
        have HB1' : Hid (Below wc.heap.size wc y1) := c1
        clear c1 d71 d72 d73 k2 k3 k4
        obtain ⟨d70, -, -, -, -, -⟩ := H7.out y1 HB1'.out
        obtain ⟨⟨-, k1, -, -, -⟩, -⟩ := HK5.out y1 HB1'.out
        go_wp2_with fail
        refine (yints_any bd1.vs _ _ y1 (H7.out y1 HB1'.out).2.2.2.2.1 (HK5.out y1 HB1'.out).2.2.2.1).mono ?_
        rintro e y2 ⟨rfl, c2⟩
        have HB2' : Hid (Below wc.heap.size wc y2) := HB1'.out.trans (c2.mono HB1'.out.size)
        clear c2 d70 k1
        go_wp2_with fail
        refine (known10_any y2).mono ?_
        rintro e y8 ⟨rfl, c8⟩
        have HB8 : Hid (Below w.heap.size w y8) := HWX.out.trans ((HB2'.out.trans (c8.mono HB2'.out.size)).mono HWX.out.size)
        clear c8
        go_wp2_with fail
        go_ret
        exact ⟨rfl, HB8.out⟩
      go_wp2_with fail
      refine wp_region_held_drew (S := fun w' => w'.cell? ⟨w.heap.size, 0, none⟩ = some (.string (Em.str bd1.nm)) ∧ w'.cell? ⟨w.heap.size, 1, none⟩ = some (.slice va1 vk1 vc1) ∧ w'.cell? ⟨w.heap.size, 2, none⟩ = some (.string s1) ∧ w'.cell? ⟨w.heap.size, 3, none⟩ = some (.int .i64 n1) ∧ w'.cell? ⟨w.heap.size, 4, none⟩ = some (.slice ka1 kl1 kc1)) (by kernel_rfl) (HS.out _ (Below.refl _ _).drew) (fun hHeld => ?_)
      obtain ⟨x0, hx0⟩ : ∃ x0, x0 = X.drew := ⟨_, rfl⟩
      have b0 : Below X.heap.size X x0 := by rw [hx0]; exact (Below.refl _ _).drew
      rw [← hx0]
      rw [← hx0] at hHeld
      clear hx0 HBX HM HV0 HB0 HK
      refine wpAnyH_take (i := 1) (v := ?_) rfl (by kernel_rfl) (by kernel_rfl) (by kernel_rfl) (fun _ _ _ h => h) (Or.inl ⟨by rfl, ?_⟩) (by assumption) ?_
      rotate_left
      · (intro w hSw; (try dsimp only at hSw); go_simp); all_goals (with_reducible rfl)
      simp only [List.getElem_toArray, List.getElem_cons_succ, List.getElem_cons_zero, Act.put, List.setIfInBounds_toArray, List.set_cons_zero, List.set_cons_succ]
      refine wpAnyH_take (i := 3) (v := ?_) rfl (by kernel_rfl) (by kernel_rfl) (by kernel_rfl) (fun _ _ _ h => h) (Or.inl ⟨by rfl, ?_⟩) (by assumption) ?_
      rotate_left
      · (intro w hSw; (try dsimp only at hSw); go_simp); all_goals (with_reducible rfl)
      simp only [List.getElem_toArray, List.getElem_cons_succ, List.getElem_cons_zero, Act.put, List.setIfInBounds_toArray, List.set_cons_zero, List.set_cons_succ]
      refine wpAnyH_take (i := 6) (v := ?_) rfl (by kernel_rfl) (by kernel_rfl) (by kernel_rfl) (fun _ _ _ h => h) (Or.inl ⟨by rfl, ?_⟩) (by assumption) ?_
      rotate_left
      · (intro w hSw; (try dsimp only at hSw); go_simp); all_goals (with_reducible rfl)
      simp only [List.getElem_toArray, List.getElem_cons_succ, List.getElem_cons_zero, Act.put, List.setIfInBounds_toArray, List.set_cons_zero, List.set_cons_succ]
      refine wpAnyH_take (i := 7) (v := ?_) rfl (by kernel_rfl) (by kernel_rfl) (by kernel_rfl) (fun _ _ _ h => h) (Or.inl ⟨by rfl, ?_⟩) (by assumption) ?_
      rotate_left
      · (intro w hSw; (try dsimp only at hSw); go_simp); all_goals (with_reducible rfl)
      simp only [List.getElem_toArray, List.getElem_cons_succ, List.getElem_cons_zero, Act.put, List.setIfInBounds_toArray, List.set_cons_zero, List.set_cons_succ]
      refine wpAnyH_ready (rs := [0, 4, 12]) (by kernel_rfl) (by simp) (AllReadyH.cons rfl (fun K hK => ?_) (AllReadyH.cons rfl (fun K hK => ?_) (AllReadyH.cons rfl (fun K hK => ?_) AllReadyH.nil)))
      ·
        go_simp
        obtain ⟨x1, hx1⟩ : ∃ x1, x1 = x0.alloc (.cells #[] 41) := ⟨_, rfl⟩
        have hc1 : Below x0.heap.size x0 x1 := by rw [hx1]; exact (Below.refl _ _).alloc (Nat.le_refl _) _
        have b1 := b0.trans (hc1.mono b0.size)
        have o1 : OwnBds x1 X.heap.size (.slice (some ⟨x0.heap.size, 0, none⟩) 0 0) [] := by rw [hx1]; exact own_empty5 x0 b0.size
        obtain ⟨v0, hv0⟩ : ∃ v0, v0 = (Value.slice (some ⟨x0.heap.size, 0, none⟩) 0 0) := ⟨_, rfl⟩
        rw [← hx1, ← hv0]
        rw [← hv0] at o1
        clear hx1 hv0 hc1
        refine hK.out _ _ (HS.out _ b1) (fun hHeld => ?_)
        clear hK K
        refine wpAnyH_ready (rs := [2, 4, 12]) (by kernel_rfl) (by simp) (AllReadyH.cons rfl (fun K hK => ?_) (AllReadyH.cons rfl (fun K hK => ?_) (AllReadyH.cons rfl (fun K hK => ?_) AllReadyH.nil)))
        ·
          refine step_app_bds (by rfl) _ _ (by rfl) X.heap.size v0 [] (by rfl) o1 _ cs (by rfl) (by first | exact (HSRC.out.below b1) | exact (HSRC.out.below b1)) (by have := HLEN.out; simp; omega) b1.size ?_
          intro v1 x2 o2 gr2 e2 d2
          have b2 := b1.trans d2
          rw [List.nil_append] at o2
          clear gr2 e2 d2
          clear o1
          refine hK.out _ _ (HS.out _ b2) (fun hHeld => ?_)
          clear hK K
          refine wpAnyH_ready (rs := [4, 12]) (by kernel_rfl) (by simp) (AllReadyH.cons rfl (fun K hK => ?_) (AllReadyH.cons rfl (fun K hK => ?_) AllReadyH.nil))
          ·
            go_simp
            obtain ⟨x3, hx3⟩ : ∃ x3, x3 = x2.alloc (.cells #[.string (Em.str bd1.nm), .slice va1 vk1 vc1, .string s1, .int .i64 n1, .slice ka1 kl1 kc1] 41) := ⟨_, rfl⟩
            have hc3 : Below x2.heap.size x2 x3 := by rw [hx3]; exact (Below.refl _ _).alloc (Nat.le_refl _) _
            have b3 := b2.trans (hc3.mono b2.size)
            obtain ⟨g1, hg1⟩ : ∃ g1, g1 = x2.heap.size := ⟨_, rfl⟩
            have hg1_3 : x3.heap[g1]? = some (.cells #[.string (Em.str bd1.nm), .slice va1 vk1 vc1, .string s1, .int .i64 n1, .slice ka1 kl1 kc1] 41 (0, 0)) := by rw [hx3, hg1]; exact World.alloc_heap_new x2 _
            have o3 : OwnBds x3 X.heap.size v1 cs := o2.below hc3
            have nb1 : some g1 ≠ v1.ownBlock := by
              intro e
              have := (World.ownsRow.lt (show x2.ownsRow X.heap.size 41 5 v1 _ (flat5 cs) from o2) g1 e.symm).2
              omega
            rw [← hx3, ← hg1]
            clear hx3 hg1 hc3
            clear o2
            refine hK.out _ _ (HS.out _ b3) (fun hHeld => ?_)
            clear hK K
            refine wpAnyH_ready (rs := [5, 12]) (by kernel_rfl) (by simp) (AllReadyH.cons rfl (fun K hK => ?_) (AllReadyH.cons rfl (fun K hK => ?_) AllReadyH.nil))
            ·
              refine step_app_bds (by rfl) _ _ (by rfl) X.heap.size v1 cs (by rfl) o3 _ [(.string (Em.str bd1.nm), .slice va1 vk1 vc1, .string s1, .int .i64 n1, .slice ka1 kl1 kc1)] (by rfl) (by first | exact (src_one5 hg1_3 HONE.out) | exact (src_one5 hg1_3 HONE.out)) (by have := HLEN.out; simp; omega) b3.size ?_
              intro v2 x4 o4 gr4 e4 d4
              have b4 := b3.trans d4
              clear gr4 e4 d4
              clear hg1_3 o3
              obtain ⟨ra, rk, rc, hrf⟩ := o4.form
              subst hrf
              have HIB : Hid (IsBds x4 (.slice ra rk rc) (l ++ [bd1])) := o4.is (HARE.out.below b4)
              clear o4
              refine hK.out _ _ (HS.out _ b4) (fun hHeld => ?_)
              clear hK K
              refine wpAnyH_ready (rs := [8, 12]) (by kernel_rfl) (by simp) (AllReadyH.cons rfl (fun K hK => ?_) (AllReadyH.cons rfl (fun K hK => ?_) AllReadyH.nil))
              ·
                go_simp
                go_at_call 11
                obtain ⟨lo, hlo⟩ : ∃ lo, lo = x4.heap.size := ⟨_, rfl⟩
                refine (sLook_any (l ++ [bd1]) ra rk rc bd1.nm HN.out x4 HIB.out HOKL.out).mono ?_
                rintro e x5 ⟨hc5, hls⟩
                obtain ⟨yy, va, vk, vc, s, n, ka, kl, kc, hyy, rfl, ho2, hi2, ht2⟩ := hls.resolve_right (fun h => by rw [HLB.out] at h; cases h.1)
                rw [HLB.out] at hyy
                cases hyy
                have b5 := b4.trans (hc5.mono b4.size)
                obtain ⟨hi, hhi⟩ : ∃ hi, hi = x5.heap.size := ⟨_, rfl⟩
                have HI2 : Hid (∀ y ∈ bd1.vs, Em5.I64 y) := hi2
                have O2 : Hid ((OwnInts x5 lo (.slice va vk vc) bd1.vs ∧ IsTyP (Btw lo hi) x5 bd1.ty (.agg #[.string s, .int .i64 n, .slice ka kl kc])) ∧ hi ≤ x5.heap.size) := by rw [Hid, hlo, hhi]; exact ⟨⟨ho2, isTyP_btw ht2⟩, Nat.le_refl _⟩
                clear ho2 hi2 ht2 hlo hhi
                clear hc5
                (try dsimp only)
                refine hK.out _ _ (HS.out _ b5) (fun hHeld => ?_)
                clear hK K
                refine wpAnyH_take (i := 9) (v := ?_) rfl (by kernel_rfl) (by kernel_rfl) (by kernel_rfl) (fun _ _ _ h => h) (Or.inl ⟨by rfl, ?_⟩) (by assumption) ?_
                rotate_left
                · (intro w hSw; (try dsimp only at hSw); go_simp); all_goals (with_reducible rfl)
                simp only [List.getElem_toArray, List.getElem_cons_succ, List.getElem_cons_zero, Act.put, List.setIfInBounds_toArray, List.set_cons_zero, List.set_cons_succ]
                refine wpAnyH_take (i := 10) (v := ?_) rfl (by kernel_rfl) (by kernel_rfl) (by kernel_rfl) (fun _ _ _ h => h) (Or.inl ⟨by rfl, ?_⟩) (by assumption) ?_
                rotate_left
                · (intro w hSw; (try dsimp only at hSw); go_simp); all_goals (with_reducible rfl)
                simp only [List.getElem_toArray, List.getElem_cons_succ, List.getElem_cons_zero, Act.put, List.setIfInBounds_toArray, List.set_cons_zero, List.set_cons_succ]
                refine wpAnyH_take (i := 11) (v := ?_) rfl (by kernel_rfl) (by kernel_rfl) (by kernel_rfl) (fun _ _ _ h => h) (Or.inl ⟨by rfl, ?_⟩) (by assumption) ?_
                rotate_left
                · (intro w hSw; (try dsimp only at hSw); go_simp); all_goals (with_reducible rfl)
                simp only [List.getElem_toArray, List.getElem_cons_succ, List.getElem_cons_zero, Act.put, List.setIfInBounds_toArray, List.set_cons_zero, List.set_cons_succ]
                refine wpAnyH_ready (rs := [12]) (by kernel_rfl) (by simp) (AllReadyH.cons rfl (fun K hK => ?_) AllReadyH.nil)
                go_simp
                obtain ⟨x6, hx6⟩ : ∃ x6, x6 = x5.alloc zeroS := ⟨_, rfl⟩
                have hc6 : Below x5.heap.size x5 x6 := by rw [hx6]; exact (Below.refl _ _).alloc (Nat.le_refl _) _
                have b6 := b5.trans (hc6.mono b5.size)
                obtain ⟨gb, hggb⟩ : ∃ gb, gb = x5.heap.size := ⟨_, rfl⟩
                have hgb_6 : x6.heap[gb]? = some zeroS := by rw [hx6, hggb]; exact World.alloc_heap_new x5 _
                have mgb : X.heap.size ≤ gb := by rw [hggb]; exact b5.size
                have rgb : hi ≤ gb := by rw [hggb]; exact O2.out.2
                replace O2 : Hid ((OwnInts x6 lo (.slice va vk vc) bd1.vs ∧ IsTyP (Btw lo hi) x6 bd1.ty (.agg #[.string s, .int .i64 n, .slice ka kl kc])) ∧ hi ≤ x6.heap.size) := ⟨⟨O2.out.1.1.below hc6, isTyP_below O2.out.1.2 hc6⟩, Nat.le_trans O2.out.2 hc6.size⟩
                rw [← hx6, ← hggb]
                clear hx6 hggb hc6
                refine hK.out _ _ (HS.out _ b6) (fun hHeld => ?_)
                clear hK K
                have HFIN : Hid _ := sbox_set (c := #[]) hgb_6 O2.out.1.1 HI2.out O2.out.1.2 (.inr rgb)
                have bE := below_set4 b6 mgb (.slice va vk vc) (.string s) (.int .i64 n) (.slice ka kl kc)
                obtain ⟨q0, q1, q2, q3, qf⟩ := box4_cells hgb_6
                refine wpAnyH_ready (rs := [13]) (by kernel_rfl) (by simp) (AllReadyH.cons rfl (fun K hK => ?_) AllReadyH.nil)
                go_simp
                refine hK.out _ _ (HS.out _ bE) (fun hHeld => ?_)
                clear hK K q0 q1 q2 q3 qf
                refine wpAnyH_take (i := 14) (v := ?_) rfl (by kernel_rfl) (by kernel_rfl) (by kernel_rfl) (fun _ _ _ h => h) (Or.inl ⟨by rfl, ?_⟩) (by assumption) ?_
                rotate_left
                · (intro w hSw; (try dsimp only at hSw); go_simp); all_goals (with_reducible rfl)
                simp only [List.getElem_toArray, List.getElem_cons_succ, List.getElem_cons_zero, Act.put, List.setIfInBounds_toArray, List.set_cons_zero, List.set_cons_succ]
                refine wpAnyH_done (by kernel_rfl) ?_ _
                go_wp2_with fail
                go_meet
                exact ⟨_, rfl, rfl, HFIN, bE⟩
              ·
                go_simp
                obtain ⟨x5, hx5⟩ : ∃ x5, x5 = x4.alloc zeroS := ⟨_, rfl⟩
                have hc5 : Below x4.heap.size x4 x5 := by rw [hx5]; exact (Below.refl _ _).alloc (Nat.le_refl _) _
                have b5 := b4.trans (hc5.mono b4.size)
                obtain ⟨gb, hggb⟩ : ∃ gb, gb = x4.heap.size := ⟨_, rfl⟩
                have hgb_5 : x5.heap[gb]? = some zeroS := by rw [hx5, hggb]; exact World.alloc_heap_new x4 _
                have mgb : X.heap.size ≤ gb := by rw [hggb]; exact b4.size
                replace HIB : Hid (IsBds x5 (.slice ra rk rc) (l ++ [bd1])) := HIB.out.below hc5
                rw [← hx5, ← hggb]
                clear hx5 hggb hc5
                refine hK.out _ _ (HS.out _ b5) (fun hHeld => ?_)
                clear hK K
                refine wpAnyH_ready (rs := [8]) (by kernel_rfl) (by simp) (AllReadyH.cons rfl (fun K hK => ?_) AllReadyH.nil)
                go_simp
                go_at_call 11
                obtain ⟨lo, hlo⟩ : ∃ lo, lo = x5.heap.size := ⟨_, rfl⟩
                refine (sLook_any (l ++ [bd1]) ra rk rc bd1.nm HN.out x5 HIB.out HOKL.out).mono ?_
                rintro e x6 ⟨hc6, hls⟩
                obtain ⟨yy, va, vk, vc, s, n, ka, kl, kc, hyy, rfl, ho2, hi2, ht2⟩ := hls.resolve_right (fun h => by rw [HLB.out] at h; cases h.1)
                rw [HLB.out] at hyy
                cases hyy
                have b6 := b5.trans (hc6.mono b5.size)
                have lgb : gb < lo := by rw [hlo]; exact (Array.getElem?_eq_some_iff.1 hgb_5).1
                obtain ⟨hi, hhi⟩ : ∃ hi, hi = x6.heap.size := ⟨_, rfl⟩
                have HI2 : Hid (∀ y ∈ bd1.vs, Em5.I64 y) := hi2
                have O2 : Hid ((OwnInts x6 lo (.slice va vk vc) bd1.vs ∧ IsTyP (Btw lo hi) x6 bd1.ty (.agg #[.string s, .int .i64 n, .slice ka kl kc])) ∧ hi ≤ x6.heap.size) := by rw [Hid, hlo, hhi]; exact ⟨⟨ho2, isTyP_btw ht2⟩, Nat.le_refl _⟩
                clear ho2 hi2 ht2 hlo hhi
                have hgb_6 := (hc6.block _ (Array.getElem?_eq_some_iff.1 hgb_5).1).trans hgb_5
                clear hgb_5
                clear hc6
                (try dsimp only)
                refine hK.out _ _ (HS.out _ b6) (fun hHeld => ?_)
                clear hK K
                refine wpAnyH_take (i := 9) (v := ?_) rfl (by kernel_rfl) (by kernel_rfl) (by kernel_rfl) (fun _ _ _ h => h) (Or.inl ⟨by rfl, ?_⟩) (by assumption) ?_
                rotate_left
                · (intro w hSw; (try dsimp only at hSw); go_simp); all_goals (with_reducible rfl)
                simp only [List.getElem_toArray, List.getElem_cons_succ, List.getElem_cons_zero, Act.put, List.setIfInBounds_toArray, List.set_cons_zero, List.set_cons_succ]
                refine wpAnyH_take (i := 10) (v := ?_) rfl (by kernel_rfl) (by kernel_rfl) (by kernel_rfl) (fun _ _ _ h => h) (Or.inl ⟨by rfl, ?_⟩) (by assumption) ?_
                rotate_left
                · (intro w hSw; (try dsimp only at hSw); go_simp); all_goals (with_reducible rfl)
                simp only [List.getElem_toArray, List.getElem_cons_succ, List.getElem_cons_zero, Act.put, List.setIfInBounds_toArray, List.set_cons_zero, List.set_cons_succ]
                refine wpAnyH_take (i := 11) (v := ?_) rfl (by kernel_rfl) (by kernel_rfl) (by kernel_rfl) (fun _ _ _ h => h) (Or.inl ⟨by rfl, ?_⟩) (by assumption) ?_
                rotate_left
                · (intro w hSw; (try dsimp only at hSw); go_simp); all_goals (with_reducible rfl)
                simp only [List.getElem_toArray, List.getElem_cons_succ, List.getElem_cons_zero, Act.put, List.setIfInBounds_toArray, List.set_cons_zero, List.set_cons_succ]
                have HFIN : Hid _ := sbox_set (c := #[]) hgb_6 O2.out.1.1 HI2.out O2.out.1.2 (.inl lgb)
                have bE := below_set4 b6 mgb (.slice va vk vc) (.string s) (.int .i64 n) (.slice ka kl kc)
                obtain ⟨q0, q1, q2, q3, qf⟩ := box4_cells hgb_6
                refine wpAnyH_ready (rs := [13]) (by kernel_rfl) (by simp) (AllReadyH.cons rfl (fun K hK => ?_) AllReadyH.nil)
                go_simp
                refine hK.out _ _ (HS.out _ bE) (fun hHeld => ?_)
                clear hK K q0 q1 q2 q3 qf
                refine wpAnyH_take (i := 14) (v := ?_) rfl (by kernel_rfl) (by kernel_rfl) (by kernel_rfl) (fun _ _ _ h => h) (Or.inl ⟨by rfl, ?_⟩) (by assumption) ?_
                rotate_left
                · (intro w hSw; (try dsimp only at hSw); go_simp); all_goals (with_reducible rfl)
                simp only [List.getElem_toArray, List.getElem_cons_succ, List.getElem_cons_zero, Act.put, List.setIfInBounds_toArray, List.set_cons_zero, List.set_cons_succ]
                refine wpAnyH_done (by kernel_rfl) ?_ _
                go_wp2_with fail
                go_meet
                exact ⟨_, rfl, rfl, HFIN, bE⟩
            ·
              go_simp
              obtain ⟨x4, hx4⟩ : ∃ x4, x4 = x3.alloc zeroS := ⟨_, rfl⟩
              have hc4 : Below x3.heap.size x3 x4 := by rw [hx4]; exact (Below.refl _ _).alloc (Nat.le_refl _) _
              have b4 := b3.trans (hc4.mono b3.size)
              obtain ⟨gb, hggb⟩ : ∃ gb, gb = x3.heap.size := ⟨_, rfl⟩
              have hgb_4 : x4.heap[gb]? = some zeroS := by rw [hx4, hggb]; exact World.alloc_heap_new x3 _
              have mgb : X.heap.size ≤ gb := by rw [hggb]; exact b3.size
              have hg1_4 := (hc4.block _ (Array.getElem?_eq_some_iff.1 hg1_3).1).trans hg1_3
              have o4 : OwnBds x4 X.heap.size v1 cs := o3.below hc4
              rw [← hx4, ← hggb]
              clear hx4 hggb hc4
              clear hg1_3 o3
              refine hK.out _ _ (HS.out _ b4) (fun hHeld => ?_)
              clear hK K
              refine wpAnyH_ready (rs := [5]) (by kernel_rfl) (by simp) (AllReadyH.cons rfl (fun K hK => ?_) AllReadyH.nil)
              refine step_app_bds (by rfl) _ _ (by rfl) X.heap.size v1 cs (by rfl) o4 _ [(.string (Em.str bd1.nm), .slice va1 vk1 vc1, .string s1, .int .i64 n1, .slice ka1 kl1 kc1)] (by rfl) (by first | exact (src_one5 hg1_4 HONE.out) | exact (src_one5 hg1_4 HONE.out)) (by have := HLEN.out; simp; omega) b4.size ?_
              intro v2 x5 o5 gr5 e5 d5
              have b5 := b4.trans d5
              have hgb_5 := (gr5.block _ (Array.getElem?_eq_some_iff.1 hgb_4).1 (o4.ne hgb_4)).trans hgb_4
              clear gr5 e5 d5
              clear hgb_4 hg1_4 o4
              obtain ⟨ra, rk, rc, hrf⟩ := o5.form
              subst hrf
              have HIB : Hid (IsBds x5 (.slice ra rk rc) (l ++ [bd1])) := o5.is (HARE.out.below b5)
              clear o5
              refine hK.out _ _ (HS.out _ b5) (fun hHeld => ?_)
              clear hK K
              refine wpAnyH_ready (rs := [8]) (by kernel_rfl) (by simp) (AllReadyH.cons rfl (fun K hK => ?_) AllReadyH.nil)
              go_simp
              go_at_call 11
              obtain ⟨lo, hlo⟩ : ∃ lo, lo = x5.heap.size := ⟨_, rfl⟩
              refine (sLook_any (l ++ [bd1]) ra rk rc bd1.nm HN.out x5 HIB.out HOKL.out).mono ?_
              rintro e x6 ⟨hc6, hls⟩
              obtain ⟨yy, va, vk, vc, s, n, ka, kl, kc, hyy, rfl, ho2, hi2, ht2⟩ := hls.resolve_right (fun h => by rw [HLB.out] at h; cases h.1)
              rw [HLB.out] at hyy
              cases hyy
              have b6 := b5.trans (hc6.mono b5.size)
              have lgb : gb < lo := by rw [hlo]; exact (Array.getElem?_eq_some_iff.1 hgb_5).1
              obtain ⟨hi, hhi⟩ : ∃ hi, hi = x6.heap.size := ⟨_, rfl⟩
              have HI2 : Hid (∀ y ∈ bd1.vs, Em5.I64 y) := hi2
              have O2 : Hid ((OwnInts x6 lo (.slice va vk vc) bd1.vs ∧ IsTyP (Btw lo hi) x6 bd1.ty (.agg #[.string s, .int .i64 n, .slice ka kl kc])) ∧ hi ≤ x6.heap.size) := by rw [Hid, hlo, hhi]; exact ⟨⟨ho2, isTyP_btw ht2⟩, Nat.le_refl _⟩
              clear ho2 hi2 ht2 hlo hhi
              have hgb_6 := (hc6.block _ (Array.getElem?_eq_some_iff.1 hgb_5).1).trans hgb_5
              clear hgb_5
              clear hc6
              (try dsimp only)
              refine hK.out _ _ (HS.out _ b6) (fun hHeld => ?_)
              clear hK K
              refine wpAnyH_take (i := 9) (v := ?_) rfl (by kernel_rfl) (by kernel_rfl) (by kernel_rfl) (fun _ _ _ h => h) (Or.inl ⟨by rfl, ?_⟩) (by assumption) ?_
              rotate_left
              · (intro w hSw; (try dsimp only at hSw); go_simp); all_goals (with_reducible rfl)
              simp only [List.getElem_toArray, List.getElem_cons_succ, List.getElem_cons_zero, Act.put, List.setIfInBounds_toArray, List.set_cons_zero, List.set_cons_succ]
              refine wpAnyH_take (i := 10) (v := ?_) rfl (by kernel_rfl) (by kernel_rfl) (by kernel_rfl) (fun _ _ _ h => h) (Or.inl ⟨by rfl, ?_⟩) (by assumption) ?_
              rotate_left
              · (intro w hSw; (try dsimp only at hSw); go_simp); all_goals (with_reducible rfl)
              simp only [List.getElem_toArray, List.getElem_cons_succ, List.getElem_cons_zero, Act.put, List.setIfInBounds_toArray, List.set_cons_zero, List.set_cons_succ]
              refine wpAnyH_take (i := 11) (v := ?_) rfl (by kernel_rfl) (by kernel_rfl) (by kernel_rfl) (fun _ _ _ h => h) (Or.inl ⟨by rfl, ?_⟩) (by assumption) ?_
              rotate_left
              · (intro w hSw; (try dsimp only at hSw); go_simp); all_goals (with_reducible rfl)
              simp only [List.getElem_toArray, List.getElem_cons_succ, List.getElem_cons_zero, Act.put, List.setIfInBounds_toArray, List.set_cons_zero, List.set_cons_succ]
              have HFIN : Hid _ := sbox_set (c := #[]) hgb_6 O2.out.1.1 HI2.out O2.out.1.2 (.inl lgb)
              have bE := below_set4 b6 mgb (.slice va vk vc) (.string s) (.int .i64 n) (.slice ka kl kc)
              obtain ⟨q0, q1, q2, q3, qf⟩ := box4_cells hgb_6
              refine wpAnyH_ready (rs := [13]) (by kernel_rfl) (by simp) (AllReadyH.cons rfl (fun K hK => ?_) AllReadyH.nil)
              go_simp
              refine hK.out _ _ (HS.out _ bE) (fun hHeld => ?_)
              clear hK K q0 q1 q2 q3 qf
              refine wpAnyH_take (i := 14) (v := ?_) rfl (by kernel_rfl) (by kernel_rfl) (by kernel_rfl) (fun _ _ _ h => h) (Or.inl ⟨by rfl, ?_⟩) (by assumption) ?_
              rotate_left
              · (intro w hSw; (try dsimp only at hSw); go_simp); all_goals (with_reducible rfl)
              simp only [List.getElem_toArray, List.getElem_cons_succ, List.getElem_cons_zero, Act.put, List.setIfInBounds_toArray, List.set_cons_zero, List.set_cons_succ]
              refine wpAnyH_done (by kernel_rfl) ?_ _
              go_wp2_with fail
              go_meet
              exact ⟨_, rfl, rfl, HFIN, bE⟩
          ·
            go_simp
            obtain ⟨x3, hx3⟩ : ∃ x3, x3 = x2.alloc zeroS := ⟨_, rfl⟩
            have hc3 : Below x2.heap.size x2 x3 := by rw [hx3]; exact (Below.refl _ _).alloc (Nat.le_refl _) _
            have b3 := b2.trans (hc3.mono b2.size)
            obtain ⟨gb, hggb⟩ : ∃ gb, gb = x2.heap.size := ⟨_, rfl⟩
            have hgb_3 : x3.heap[gb]? = some zeroS := by rw [hx3, hggb]; exact World.alloc_heap_new x2 _
            have mgb : X.heap.size ≤ gb := by rw [hggb]; exact b2.size
            have o3 : OwnBds x3 X.heap.size v1 cs := o2.below hc3
            rw [← hx3, ← hggb]
            clear hx3 hggb hc3
            clear o2
            refine hK.out _ _ (HS.out _ b3) (fun hHeld => ?_)
            clear hK K
            refine wpAnyH_ready (rs := [4]) (by kernel_rfl) (by simp) (AllReadyH.cons rfl (fun K hK => ?_) AllReadyH.nil)
            go_simp
            obtain ⟨x4, hx4⟩ : ∃ x4, x4 = x3.alloc (.cells #[.string (Em.str bd1.nm), .slice va1 vk1 vc1, .string s1, .int .i64 n1, .slice ka1 kl1 kc1] 41) := ⟨_, rfl⟩
            have hc4 : Below x3.heap.size x3 x4 := by rw [hx4]; exact (Below.refl _ _).alloc (Nat.le_refl _) _
            have b4 := b3.trans (hc4.mono b3.size)
            obtain ⟨g1, hg1⟩ : ∃ g1, g1 = x3.heap.size := ⟨_, rfl⟩
            have hg1_4 : x4.heap[g1]? = some (.cells #[.string (Em.str bd1.nm), .slice va1 vk1 vc1, .string s1, .int .i64 n1, .slice ka1 kl1 kc1] 41 (0, 0)) := by rw [hx4, hg1]; exact World.alloc_heap_new x3 _
            have hgb_4 := (hc4.block _ (Array.getElem?_eq_some_iff.1 hgb_3).1).trans hgb_3
            have o4 : OwnBds x4 X.heap.size v1 cs := o3.below hc4
            have nb1 : some g1 ≠ v1.ownBlock := by
              intro e
              have := (World.ownsRow.lt (show x3.ownsRow X.heap.size 41 5 v1 _ (flat5 cs) from o3) g1 e.symm).2
              omega
            rw [← hx4, ← hg1]
            clear hx4 hg1 hc4
            clear hgb_3 o3
            refine hK.out _ _ (HS.out _ b4) (fun hHeld => ?_)
            clear hK K
            refine wpAnyH_ready (rs := [5]) (by kernel_rfl) (by simp) (AllReadyH.cons rfl (fun K hK => ?_) AllReadyH.nil)
            refine step_app_bds (by rfl) _ _ (by rfl) X.heap.size v1 cs (by rfl) o4 _ [(.string (Em.str bd1.nm), .slice va1 vk1 vc1, .string s1, .int .i64 n1, .slice ka1 kl1 kc1)] (by rfl) (by first | exact (src_one5 hg1_4 HONE.out) | exact (src_one5 hg1_4 HONE.out)) (by have := HLEN.out; simp; omega) b4.size ?_
            intro v2 x5 o5 gr5 e5 d5
            have b5 := b4.trans d5
            have hgb_5 := (gr5.block _ (Array.getElem?_eq_some_iff.1 hgb_4).1 (o4.ne hgb_4)).trans hgb_4
            clear gr5 e5 d5
            clear hgb_4 hg1_4 o4
            obtain ⟨ra, rk, rc, hrf⟩ := o5.form
            subst hrf
            have HIB : Hid (IsBds x5 (.slice ra rk rc) (l ++ [bd1])) := o5.is (HARE.out.below b5)
            clear o5
            refine hK.out _ _ (HS.out _ b5) (fun hHeld => ?_)
            clear hK K
            refine wpAnyH_ready (rs := [8]) (by kernel_rfl) (by simp) (AllReadyH.cons rfl (fun K hK => ?_) AllReadyH.nil)
            go_simp
            go_at_call 11
            obtain ⟨lo, hlo⟩ : ∃ lo, lo = x5.heap.size := ⟨_, rfl⟩
            refine (sLook_any (l ++ [bd1]) ra rk rc bd1.nm HN.out x5 HIB.out HOKL.out).mono ?_
            rintro e x6 ⟨hc6, hls⟩
            obtain ⟨yy, va, vk, vc, s, n, ka, kl, kc, hyy, rfl, ho2, hi2, ht2⟩ := hls.resolve_right (fun h => by rw [HLB.out] at h; cases h.1)
            rw [HLB.out] at hyy
            cases hyy
            have b6 := b5.trans (hc6.mono b5.size)
            have lgb : gb < lo := by rw [hlo]; exact (Array.getElem?_eq_some_iff.1 hgb_5).1
            obtain ⟨hi, hhi⟩ : ∃ hi, hi = x6.heap.size := ⟨_, rfl⟩
            have HI2 : Hid (∀ y ∈ bd1.vs, Em5.I64 y) := hi2
            have O2 : Hid ((OwnInts x6 lo (.slice va vk vc) bd1.vs ∧ IsTyP (Btw lo hi) x6 bd1.ty (.agg #[.string s, .int .i64 n, .slice ka kl kc])) ∧ hi ≤ x6.heap.size) := by rw [Hid, hlo, hhi]; exact ⟨⟨ho2, isTyP_btw ht2⟩, Nat.le_refl _⟩
            clear ho2 hi2 ht2 hlo hhi
            have hgb_6 := (hc6.block _ (Array.getElem?_eq_some_iff.1 hgb_5).1).trans hgb_5
            clear hgb_5
            clear hc6
            (try dsimp only)
            refine hK.out _ _ (HS.out _ b6) (fun hHeld => ?_)
            clear hK K
            refine wpAnyH_take (i := 9) (v := ?_) rfl (by kernel_rfl) (by kernel_rfl) (by kernel_rfl) (fun _ _ _ h => h) (Or.inl ⟨by rfl, ?_⟩) (by assumption) ?_
            rotate_left
            · (intro w hSw; (try dsimp only at hSw); go_simp); all_goals (with_reducible rfl)
            simp only [List.getElem_toArray, List.getElem_cons_succ, List.getElem_cons_zero, Act.put, List.setIfInBounds_toArray, List.set_cons_zero, List.set_cons_succ]
            refine wpAnyH_take (i := 10) (v := ?_) rfl (by kernel_rfl) (by kernel_rfl) (by kernel_rfl) (fun _ _ _ h => h) (Or.inl ⟨by rfl, ?_⟩) (by assumption) ?_
            rotate_left
            · (intro w hSw; (try dsimp only at hSw); go_simp); all_goals (with_reducible rfl)
            simp only [List.getElem_toArray, List.getElem_cons_succ, List.getElem_cons_zero, Act.put, List.setIfInBounds_toArray, List.set_cons_zero, List.set_cons_succ]
            refine wpAnyH_take (i := 11) (v := ?_) rfl (by kernel_rfl) (by kernel_rfl) (by kernel_rfl) (fun _ _ _ h => h) (Or.inl ⟨by rfl, ?_⟩) (by assumption) ?_
            rotate_left
            · (intro w hSw; (try dsimp only at hSw); go_simp); all_goals (with_reducible rfl)
            simp only [List.getElem_toArray, List.getElem_cons_succ, List.getElem_cons_zero, Act.put, List.setIfInBounds_toArray, List.set_cons_zero, List.set_cons_succ]
            have HFIN : Hid _ := sbox_set (c := #[]) hgb_6 O2.out.1.1 HI2.out O2.out.1.2 (.inl lgb)
            have bE := below_set4 b6 mgb (.slice va vk vc) (.string s) (.int .i64 n) (.slice ka kl kc)
            obtain ⟨q0, q1, q2, q3, qf⟩ := box4_cells hgb_6
            refine wpAnyH_ready (rs := [13]) (by kernel_rfl) (by simp) (AllReadyH.cons rfl (fun K hK => ?_) AllReadyH.nil)
            go_simp
            refine hK.out _ _ (HS.out _ bE) (fun hHeld => ?_)
            clear hK K q0 q1 q2 q3 qf
            refine wpAnyH_take (i := 14) (v := ?_) rfl (by kernel_rfl) (by kernel_rfl) (by kernel_rfl) (fun _ _ _ h => h) (Or.inl ⟨by rfl, ?_⟩) (by assumption) ?_
            rotate_left
            · (intro w hSw; (try dsimp only at hSw); go_simp); all_goals (with_reducible rfl)
            simp only [List.getElem_toArray, List.getElem_cons_succ, List.getElem_cons_zero, Act.put, List.setIfInBounds_toArray, List.set_cons_zero, List.set_cons_succ]
            refine wpAnyH_done (by kernel_rfl) ?_ _
            go_wp2_with fail
            go_meet
            exact ⟨_, rfl, rfl, HFIN, bE⟩
        ·
          go_simp
          obtain ⟨x2, hx2⟩ : ∃ x2, x2 = x1.alloc (.cells #[.string (Em.str bd1.nm), .slice va1 vk1 vc1, .string s1, .int .i64 n1, .slice ka1 kl1 kc1] 41) := ⟨_, rfl⟩
          have hc2 : Below x1.heap.size x1 x2 := by rw [hx2]; exact (Below.refl _ _).alloc (Nat.le_refl _) _
          have b2 := b1.trans (hc2.mono b1.size)
          obtain ⟨g1, hg1⟩ : ∃ g1, g1 = x1.heap.size := ⟨_, rfl⟩
          have hg1_2 : x2.heap[g1]? = some (.cells #[.string (Em.str bd1.nm), .slice va1 vk1 vc1, .string s1, .int .i64 n1, .slice ka1 kl1 kc1] 41 (0, 0)) := by rw [hx2, hg1]; exact World.alloc_heap_new x1 _
          have o2 : OwnBds x2 X.heap.size v0 [] := o1.below hc2
          have nb0 : some g1 ≠ v0.ownBlock := by
            intro e
            have := (World.ownsRow.lt (show x1.ownsRow X.heap.size 41 5 v0 _ (flat5 []) from o1) g1 e.symm).2
            omega
          rw [← hx2, ← hg1]
          clear hx2 hg1 hc2
          clear o1
          refine hK.out _ _ (HS.out _ b2) (fun hHeld => ?_)
          clear hK K
          refine wpAnyH_ready (rs := [2, 12]) (by kernel_rfl) (by simp) (AllReadyH.cons rfl (fun K hK => ?_) (AllReadyH.cons rfl (fun K hK => ?_) AllReadyH.nil))
          ·
            refine step_app_bds (by rfl) _ _ (by rfl) X.heap.size v0 [] (by rfl) o2 _ cs (by rfl) (by first | exact (HSRC.out.below b2) | exact (HSRC.out.below b2)) (by have := HLEN.out; simp; omega) b2.size ?_
            intro v1 x3 o3 gr3 e3 d3
            have b3 := b2.trans d3
            rw [List.nil_append] at o3
            have hg1_3 := (gr3.block _ (Array.getElem?_eq_some_iff.1 hg1_2).1 nb0).trans hg1_2
            have nb1 : some g1 ≠ v1.ownBlock := by
              rcases e3 with e | e
              · rw [e]; exact nb0
              · rw [e]; intro e2; have hlt := (Array.getElem?_eq_some_iff.1 hg1_2).1; simp at e2; omega
            clear gr3 e3 d3
            clear hg1_2 o2
            refine hK.out _ _ (HS.out _ b3) (fun hHeld => ?_)
            clear hK K
            refine wpAnyH_ready (rs := [5, 12]) (by kernel_rfl) (by simp) (AllReadyH.cons rfl (fun K hK => ?_) (AllReadyH.cons rfl (fun K hK => ?_) AllReadyH.nil))
            ·
              refine step_app_bds (by rfl) _ _ (by rfl) X.heap.size v1 cs (by rfl) o3 _ [(.string (Em.str bd1.nm), .slice va1 vk1 vc1, .string s1, .int .i64 n1, .slice ka1 kl1 kc1)] (by rfl) (by first | exact (src_one5 hg1_3 HONE.out) | exact (src_one5 hg1_3 HONE.out)) (by have := HLEN.out; simp; omega) b3.size ?_
              intro v2 x4 o4 gr4 e4 d4
              have b4 := b3.trans d4
              clear gr4 e4 d4
              clear hg1_3 o3
              obtain ⟨ra, rk, rc, hrf⟩ := o4.form
              subst hrf
              have HIB : Hid (IsBds x4 (.slice ra rk rc) (l ++ [bd1])) := o4.is (HARE.out.below b4)
              clear o4
              refine hK.out _ _ (HS.out _ b4) (fun hHeld => ?_)
              clear hK K
              refine wpAnyH_ready (rs := [8, 12]) (by kernel_rfl) (by simp) (AllReadyH.cons rfl (fun K hK => ?_) (AllReadyH.cons rfl (fun K hK => ?_) AllReadyH.nil))
              ·
                go_simp
                go_at_call 11
                obtain ⟨lo, hlo⟩ : ∃ lo, lo = x4.heap.size := ⟨_, rfl⟩
                refine (sLook_any (l ++ [bd1]) ra rk rc bd1.nm HN.out x4 HIB.out HOKL.out).mono ?_
                rintro e x5 ⟨hc5, hls⟩
                obtain ⟨yy, va, vk, vc, s, n, ka, kl, kc, hyy, rfl, ho2, hi2, ht2⟩ := hls.resolve_right (fun h => by rw [HLB.out] at h; cases h.1)
                rw [HLB.out] at hyy
                cases hyy
                have b5 := b4.trans (hc5.mono b4.size)
                obtain ⟨hi, hhi⟩ : ∃ hi, hi = x5.heap.size := ⟨_, rfl⟩
                have HI2 : Hid (∀ y ∈ bd1.vs, Em5.I64 y) := hi2
                have O2 : Hid ((OwnInts x5 lo (.slice va vk vc) bd1.vs ∧ IsTyP (Btw lo hi) x5 bd1.ty (.agg #[.string s, .int .i64 n, .slice ka kl kc])) ∧ hi ≤ x5.heap.size) := by rw [Hid, hlo, hhi]; exact ⟨⟨ho2, isTyP_btw ht2⟩, Nat.le_refl _⟩
                clear ho2 hi2 ht2 hlo hhi
                clear hc5
                (try dsimp only)
                refine hK.out _ _ (HS.out _ b5) (fun hHeld => ?_)
                clear hK K
                refine wpAnyH_take (i := 9) (v := ?_) rfl (by kernel_rfl) (by kernel_rfl) (by kernel_rfl) (fun _ _ _ h => h) (Or.inl ⟨by rfl, ?_⟩) (by assumption) ?_
                rotate_left
                · (intro w hSw; (try dsimp only at hSw); go_simp); all_goals (with_reducible rfl)
                simp only [List.getElem_toArray, List.getElem_cons_succ, List.getElem_cons_zero, Act.put, List.setIfInBounds_toArray, List.set_cons_zero, List.set_cons_succ]
                refine wpAnyH_take (i := 10) (v := ?_) rfl (by kernel_rfl) (by kernel_rfl) (by kernel_rfl) (fun _ _ _ h => h) (Or.inl ⟨by rfl, ?_⟩) (by assumption) ?_
                rotate_left
                · (intro w hSw; (try dsimp only at hSw); go_simp); all_goals (with_reducible rfl)
                simp only [List.getElem_toArray, List.getElem_cons_succ, List.getElem_cons_zero, Act.put, List.setIfInBounds_toArray, List.set_cons_zero, List.set_cons_succ]
                refine wpAnyH_take (i := 11) (v := ?_) rfl (by kernel_rfl) (by kernel_rfl) (by kernel_rfl) (fun _ _ _ h => h) (Or.inl ⟨by rfl, ?_⟩) (by assumption) ?_
                rotate_left
                · (intro w hSw; (try dsimp only at hSw); go_simp); all_goals (with_reducible rfl)
                simp only [List.getElem_toArray, List.getElem_cons_succ, List.getElem_cons_zero, Act.put, List.setIfInBounds_toArray, List.set_cons_zero, List.set_cons_succ]
                refine wpAnyH_ready (rs := [12]) (by kernel_rfl) (by simp) (AllReadyH.cons rfl (fun K hK => ?_) AllReadyH.nil)
                go_simp
                obtain ⟨x6, hx6⟩ : ∃ x6, x6 = x5.alloc zeroS := ⟨_, rfl⟩
                have hc6 : Below x5.heap.size x5 x6 := by rw [hx6]; exact (Below.refl _ _).alloc (Nat.le_refl _) _
                have b6 := b5.trans (hc6.mono b5.size)
                obtain ⟨gb, hggb⟩ : ∃ gb, gb = x5.heap.size := ⟨_, rfl⟩
                have hgb_6 : x6.heap[gb]? = some zeroS := by rw [hx6, hggb]; exact World.alloc_heap_new x5 _
                have mgb : X.heap.size ≤ gb := by rw [hggb]; exact b5.size
                have rgb : hi ≤ gb := by rw [hggb]; exact O2.out.2
                replace O2 : Hid ((OwnInts x6 lo (.slice va vk vc) bd1.vs ∧ IsTyP (Btw lo hi) x6 bd1.ty (.agg #[.string s, .int .i64 n, .slice ka kl kc])) ∧ hi ≤ x6.heap.size) := ⟨⟨O2.out.1.1.below hc6, isTyP_below O2.out.1.2 hc6⟩, Nat.le_trans O2.out.2 hc6.size⟩
                rw [← hx6, ← hggb]
                clear hx6 hggb hc6
                refine hK.out _ _ (HS.out _ b6) (fun hHeld => ?_)
                clear hK K
                have HFIN : Hid _ := sbox_set (c := #[]) hgb_6 O2.out.1.1 HI2.out O2.out.1.2 (.inr rgb)
                have bE := below_set4 b6 mgb (.slice va vk vc) (.string s) (.int .i64 n) (.slice ka kl kc)
                obtain ⟨q0, q1, q2, q3, qf⟩ := box4_cells hgb_6
                refine wpAnyH_ready (rs := [13]) (by kernel_rfl) (by simp) (AllReadyH.cons rfl (fun K hK => ?_) AllReadyH.nil)
                go_simp
                refine hK.out _ _ (HS.out _ bE) (fun hHeld => ?_)
                clear hK K q0 q1 q2 q3 qf
                refine wpAnyH_take (i := 14) (v := ?_) rfl (by kernel_rfl) (by kernel_rfl) (by kernel_rfl) (fun _ _ _ h => h) (Or.inl ⟨by rfl, ?_⟩) (by assumption) ?_
                rotate_left
                · (intro w hSw; (try dsimp only at hSw); go_simp); all_goals (with_reducible rfl)
                simp only [List.getElem_toArray, List.getElem_cons_succ, List.getElem_cons_zero, Act.put, List.setIfInBounds_toArray, List.set_cons_zero, List.set_cons_succ]
                refine wpAnyH_done (by kernel_rfl) ?_ _
                go_wp2_with fail
                go_meet
                exact ⟨_, rfl, rfl, HFIN, bE⟩
              ·
                go_simp
                obtain ⟨x5, hx5⟩ : ∃ x5, x5 = x4.alloc zeroS := ⟨_, rfl⟩
                have hc5 : Below x4.heap.size x4 x5 := by rw [hx5]; exact (Below.refl _ _).alloc (Nat.le_refl _) _
                have b5 := b4.trans (hc5.mono b4.size)
                obtain ⟨gb, hggb⟩ : ∃ gb, gb = x4.heap.size := ⟨_, rfl⟩
                have hgb_5 : x5.heap[gb]? = some zeroS := by rw [hx5, hggb]; exact World.alloc_heap_new x4 _
                have mgb : X.heap.size ≤ gb := by rw [hggb]; exact b4.size
                replace HIB : Hid (IsBds x5 (.slice ra rk rc) (l ++ [bd1])) := HIB.out.below hc5
                rw [← hx5, ← hggb]
                clear hx5 hggb hc5
                refine hK.out _ _ (HS.out _ b5) (fun hHeld => ?_)
                clear hK K
                refine wpAnyH_ready (rs := [8]) (by kernel_rfl) (by simp) (AllReadyH.cons rfl (fun K hK => ?_) AllReadyH.nil)
                go_simp
                go_at_call 11
                obtain ⟨lo, hlo⟩ : ∃ lo, lo = x5.heap.size := ⟨_, rfl⟩
                refine (sLook_any (l ++ [bd1]) ra rk rc bd1.nm HN.out x5 HIB.out HOKL.out).mono ?_
                rintro e x6 ⟨hc6, hls⟩
                obtain ⟨yy, va, vk, vc, s, n, ka, kl, kc, hyy, rfl, ho2, hi2, ht2⟩ := hls.resolve_right (fun h => by rw [HLB.out] at h; cases h.1)
                rw [HLB.out] at hyy
                cases hyy
                have b6 := b5.trans (hc6.mono b5.size)
                have lgb : gb < lo := by rw [hlo]; exact (Array.getElem?_eq_some_iff.1 hgb_5).1
                obtain ⟨hi, hhi⟩ : ∃ hi, hi = x6.heap.size := ⟨_, rfl⟩
                have HI2 : Hid (∀ y ∈ bd1.vs, Em5.I64 y) := hi2
                have O2 : Hid ((OwnInts x6 lo (.slice va vk vc) bd1.vs ∧ IsTyP (Btw lo hi) x6 bd1.ty (.agg #[.string s, .int .i64 n, .slice ka kl kc])) ∧ hi ≤ x6.heap.size) := by rw [Hid, hlo, hhi]; exact ⟨⟨ho2, isTyP_btw ht2⟩, Nat.le_refl _⟩
                clear ho2 hi2 ht2 hlo hhi
                have hgb_6 := (hc6.block _ (Array.getElem?_eq_some_iff.1 hgb_5).1).trans hgb_5
                clear hgb_5
                clear hc6
                (try dsimp only)
                refine hK.out _ _ (HS.out _ b6) (fun hHeld => ?_)
                clear hK K
                refine wpAnyH_take (i := 9) (v := ?_) rfl (by kernel_rfl) (by kernel_rfl) (by kernel_rfl) (fun _ _ _ h => h) (Or.inl ⟨by rfl, ?_⟩) (by assumption) ?_
                rotate_left
                · (intro w hSw; (try dsimp only at hSw); go_simp); all_goals (with_reducible rfl)
                simp only [List.getElem_toArray, List.getElem_cons_succ, List.getElem_cons_zero, Act.put, List.setIfInBounds_toArray, List.set_cons_zero, List.set_cons_succ]
                refine wpAnyH_take (i := 10) (v := ?_) rfl (by kernel_rfl) (by kernel_rfl) (by kernel_rfl) (fun _ _ _ h => h) (Or.inl ⟨by rfl, ?_⟩) (by assumption) ?_
                rotate_left
                · (intro w hSw; (try dsimp only at hSw); go_simp); all_goals (with_reducible rfl)
                simp only [List.getElem_toArray, List.getElem_cons_succ, List.getElem_cons_zero, Act.put, List.setIfInBounds_toArray, List.set_cons_zero, List.set_cons_succ]
                refine wpAnyH_take (i := 11) (v := ?_) rfl (by kernel_rfl) (by kernel_rfl) (by kernel_rfl) (fun _ _ _ h => h) (Or.inl ⟨by rfl, ?_⟩) (by assumption) ?_
                rotate_left
                · (intro w hSw; (try dsimp only at hSw); go_simp); all_goals (with_reducible rfl)
                simp only [List.getElem_toArray, List.getElem_cons_succ, List.getElem_cons_zero, Act.put, List.setIfInBounds_toArray, List.set_cons_zero, List.set_cons_succ]
                have HFIN : Hid _ := sbox_set (c := #[]) hgb_6 O2.out.1.1 HI2.out O2.out.1.2 (.inl lgb)
                have bE := below_set4 b6 mgb (.slice va vk vc) (.string s) (.int .i64 n) (.slice ka kl kc)
                obtain ⟨q0, q1, q2, q3, qf⟩ := box4_cells hgb_6
                refine wpAnyH_ready (rs := [13]) (by kernel_rfl) (by simp) (AllReadyH.cons rfl (fun K hK => ?_) AllReadyH.nil)
                go_simp
                refine hK.out _ _ (HS.out _ bE) (fun hHeld => ?_)
                clear hK K q0 q1 q2 q3 qf
                refine wpAnyH_take (i := 14) (v := ?_) rfl (by kernel_rfl) (by kernel_rfl) (by kernel_rfl) (fun _ _ _ h => h) (Or.inl ⟨by rfl, ?_⟩) (by assumption) ?_
                rotate_left
                · (intro w hSw; (try dsimp only at hSw); go_simp); all_goals (with_reducible rfl)
                simp only [List.getElem_toArray, List.getElem_cons_succ, List.getElem_cons_zero, Act.put, List.setIfInBounds_toArray, List.set_cons_zero, List.set_cons_succ]
                refine wpAnyH_done (by kernel_rfl) ?_ _
                go_wp2_with fail
                go_meet
                exact ⟨_, rfl, rfl, HFIN, bE⟩
            ·
              go_simp
              obtain ⟨x4, hx4⟩ : ∃ x4, x4 = x3.alloc zeroS := ⟨_, rfl⟩
              have hc4 : Below x3.heap.size x3 x4 := by rw [hx4]; exact (Below.refl _ _).alloc (Nat.le_refl _) _
              have b4 := b3.trans (hc4.mono b3.size)
              obtain ⟨gb, hggb⟩ : ∃ gb, gb = x3.heap.size := ⟨_, rfl⟩
              have hgb_4 : x4.heap[gb]? = some zeroS := by rw [hx4, hggb]; exact World.alloc_heap_new x3 _
              have mgb : X.heap.size ≤ gb := by rw [hggb]; exact b3.size
              have hg1_4 := (hc4.block _ (Array.getElem?_eq_some_iff.1 hg1_3).1).trans hg1_3
              have o4 : OwnBds x4 X.heap.size v1 cs := o3.below hc4
              rw [← hx4, ← hggb]
              clear hx4 hggb hc4
              clear hg1_3 o3
              refine hK.out _ _ (HS.out _ b4) (fun hHeld => ?_)
              clear hK K
              refine wpAnyH_ready (rs := [5]) (by kernel_rfl) (by simp) (AllReadyH.cons rfl (fun K hK => ?_) AllReadyH.nil)
              refine step_app_bds (by rfl) _ _ (by rfl) X.heap.size v1 cs (by rfl) o4 _ [(.string (Em.str bd1.nm), .slice va1 vk1 vc1, .string s1, .int .i64 n1, .slice ka1 kl1 kc1)] (by rfl) (by first | exact (src_one5 hg1_4 HONE.out) | exact (src_one5 hg1_4 HONE.out)) (by have := HLEN.out; simp; omega) b4.size ?_
              intro v2 x5 o5 gr5 e5 d5
              have b5 := b4.trans d5
              have hgb_5 := (gr5.block _ (Array.getElem?_eq_some_iff.1 hgb_4).1 (o4.ne hgb_4)).trans hgb_4
              clear gr5 e5 d5
              clear hgb_4 hg1_4 o4
              obtain ⟨ra, rk, rc, hrf⟩ := o5.form
              subst hrf
              have HIB : Hid (IsBds x5 (.slice ra rk rc) (l ++ [bd1])) := o5.is (HARE.out.below b5)
              clear o5
              refine hK.out _ _ (HS.out _ b5) (fun hHeld => ?_)
              clear hK K
              refine wpAnyH_ready (rs := [8]) (by kernel_rfl) (by simp) (AllReadyH.cons rfl (fun K hK => ?_) AllReadyH.nil)
              go_simp
              go_at_call 11
              obtain ⟨lo, hlo⟩ : ∃ lo, lo = x5.heap.size := ⟨_, rfl⟩
              refine (sLook_any (l ++ [bd1]) ra rk rc bd1.nm HN.out x5 HIB.out HOKL.out).mono ?_
              rintro e x6 ⟨hc6, hls⟩
              obtain ⟨yy, va, vk, vc, s, n, ka, kl, kc, hyy, rfl, ho2, hi2, ht2⟩ := hls.resolve_right (fun h => by rw [HLB.out] at h; cases h.1)
              rw [HLB.out] at hyy
              cases hyy
              have b6 := b5.trans (hc6.mono b5.size)
              have lgb : gb < lo := by rw [hlo]; exact (Array.getElem?_eq_some_iff.1 hgb_5).1
              obtain ⟨hi, hhi⟩ : ∃ hi, hi = x6.heap.size := ⟨_, rfl⟩
              have HI2 : Hid (∀ y ∈ bd1.vs, Em5.I64 y) := hi2
              have O2 : Hid ((OwnInts x6 lo (.slice va vk vc) bd1.vs ∧ IsTyP (Btw lo hi) x6 bd1.ty (.agg #[.string s, .int .i64 n, .slice ka kl kc])) ∧ hi ≤ x6.heap.size) := by rw [Hid, hlo, hhi]; exact ⟨⟨ho2, isTyP_btw ht2⟩, Nat.le_refl _⟩
              clear ho2 hi2 ht2 hlo hhi
              have hgb_6 := (hc6.block _ (Array.getElem?_eq_some_iff.1 hgb_5).1).trans hgb_5
              clear hgb_5
              clear hc6
              (try dsimp only)
              refine hK.out _ _ (HS.out _ b6) (fun hHeld => ?_)
              clear hK K
              refine wpAnyH_take (i := 9) (v := ?_) rfl (by kernel_rfl) (by kernel_rfl) (by kernel_rfl) (fun _ _ _ h => h) (Or.inl ⟨by rfl, ?_⟩) (by assumption) ?_
              rotate_left
              · (intro w hSw; (try dsimp only at hSw); go_simp); all_goals (with_reducible rfl)
              simp only [List.getElem_toArray, List.getElem_cons_succ, List.getElem_cons_zero, Act.put, List.setIfInBounds_toArray, List.set_cons_zero, List.set_cons_succ]
              refine wpAnyH_take (i := 10) (v := ?_) rfl (by kernel_rfl) (by kernel_rfl) (by kernel_rfl) (fun _ _ _ h => h) (Or.inl ⟨by rfl, ?_⟩) (by assumption) ?_
              rotate_left
              · (intro w hSw; (try dsimp only at hSw); go_simp); all_goals (with_reducible rfl)
              simp only [List.getElem_toArray, List.getElem_cons_succ, List.getElem_cons_zero, Act.put, List.setIfInBounds_toArray, List.set_cons_zero, List.set_cons_succ]
              refine wpAnyH_take (i := 11) (v := ?_) rfl (by kernel_rfl) (by kernel_rfl) (by kernel_rfl) (fun _ _ _ h => h) (Or.inl ⟨by rfl, ?_⟩) (by assumption) ?_
              rotate_left
              · (intro w hSw; (try dsimp only at hSw); go_simp); all_goals (with_reducible rfl)
              simp only [List.getElem_toArray, List.getElem_cons_succ, List.getElem_cons_zero, Act.put, List.setIfInBounds_toArray, List.set_cons_zero, List.set_cons_succ]
              have HFIN : Hid _ := sbox_set (c := #[]) hgb_6 O2.out.1.1 HI2.out O2.out.1.2 (.inl lgb)
              have bE := below_set4 b6 mgb (.slice va vk vc) (.string s) (.int .i64 n) (.slice ka kl kc)
              obtain ⟨q0, q1, q2, q3, qf⟩ := box4_cells hgb_6
              refine wpAnyH_ready (rs := [13]) (by kernel_rfl) (by simp) (AllReadyH.cons rfl (fun K hK => ?_) AllReadyH.nil)
              go_simp
              refine hK.out _ _ (HS.out _ bE) (fun hHeld => ?_)
              clear hK K q0 q1 q2 q3 qf
              refine wpAnyH_take (i := 14) (v := ?_) rfl (by kernel_rfl) (by kernel_rfl) (by kernel_rfl) (fun _ _ _ h => h) (Or.inl ⟨by rfl, ?_⟩) (by assumption) ?_
              rotate_left
              · (intro w hSw; (try dsimp only at hSw); go_simp); all_goals (with_reducible rfl)
              simp only [List.getElem_toArray, List.getElem_cons_succ, List.getElem_cons_zero, Act.put, List.setIfInBounds_toArray, List.set_cons_zero, List.set_cons_succ]
              refine wpAnyH_done (by kernel_rfl) ?_ _
              go_wp2_with fail
              go_meet
              exact ⟨_, rfl, rfl, HFIN, bE⟩
          ·
            go_simp
            obtain ⟨x3, hx3⟩ : ∃ x3, x3 = x2.alloc zeroS := ⟨_, rfl⟩
            have hc3 : Below x2.heap.size x2 x3 := by rw [hx3]; exact (Below.refl _ _).alloc (Nat.le_refl _) _
            have b3 := b2.trans (hc3.mono b2.size)
            obtain ⟨gb, hggb⟩ : ∃ gb, gb = x2.heap.size := ⟨_, rfl⟩
            have hgb_3 : x3.heap[gb]? = some zeroS := by rw [hx3, hggb]; exact World.alloc_heap_new x2 _
            have mgb : X.heap.size ≤ gb := by rw [hggb]; exact b2.size
            have hg1_3 := (hc3.block _ (Array.getElem?_eq_some_iff.1 hg1_2).1).trans hg1_2
            have o3 : OwnBds x3 X.heap.size v0 [] := o2.below hc3
            rw [← hx3, ← hggb]
            clear hx3 hggb hc3
            clear hg1_2 o2
            refine hK.out _ _ (HS.out _ b3) (fun hHeld => ?_)
            clear hK K
            refine wpAnyH_ready (rs := [2]) (by kernel_rfl) (by simp) (AllReadyH.cons rfl (fun K hK => ?_) AllReadyH.nil)
            refine step_app_bds (by rfl) _ _ (by rfl) X.heap.size v0 [] (by rfl) o3 _ cs (by rfl) (by first | exact (HSRC.out.below b3) | exact (HSRC.out.below b3)) (by have := HLEN.out; simp; omega) b3.size ?_
            intro v1 x4 o4 gr4 e4 d4
            have b4 := b3.trans d4
            rw [List.nil_append] at o4
            have hgb_4 := (gr4.block _ (Array.getElem?_eq_some_iff.1 hgb_3).1 (o3.ne hgb_3)).trans hgb_3
            have hg1_4 := (gr4.block _ (Array.getElem?_eq_some_iff.1 hg1_3).1 nb0).trans hg1_3
            have nb1 : some g1 ≠ v1.ownBlock := by
              rcases e4 with e | e
              · rw [e]; exact nb0
              · rw [e]; intro e2; have hlt := (Array.getElem?_eq_some_iff.1 hg1_3).1; simp at e2; omega
            clear gr4 e4 d4
            clear hgb_3 hg1_3 o3
            refine hK.out _ _ (HS.out _ b4) (fun hHeld => ?_)
            clear hK K
            refine wpAnyH_ready (rs := [5]) (by kernel_rfl) (by simp) (AllReadyH.cons rfl (fun K hK => ?_) AllReadyH.nil)
            refine step_app_bds (by rfl) _ _ (by rfl) X.heap.size v1 cs (by rfl) o4 _ [(.string (Em.str bd1.nm), .slice va1 vk1 vc1, .string s1, .int .i64 n1, .slice ka1 kl1 kc1)] (by rfl) (by first | exact (src_one5 hg1_4 HONE.out) | exact (src_one5 hg1_4 HONE.out)) (by have := HLEN.out; simp; omega) b4.size ?_
            intro v2 x5 o5 gr5 e5 d5
            have b5 := b4.trans d5
            have hgb_5 := (gr5.block _ (Array.getElem?_eq_some_iff.1 hgb_4).1 (o4.ne hgb_4)).trans hgb_4
            clear gr5 e5 d5
            clear hgb_4 hg1_4 o4
            obtain ⟨ra, rk, rc, hrf⟩ := o5.form
            subst hrf
            have HIB : Hid (IsBds x5 (.slice ra rk rc) (l ++ [bd1])) := o5.is (HARE.out.below b5)
            clear o5
            refine hK.out _ _ (HS.out _ b5) (fun hHeld => ?_)
            clear hK K
            refine wpAnyH_ready (rs := [8]) (by kernel_rfl) (by simp) (AllReadyH.cons rfl (fun K hK => ?_) AllReadyH.nil)
            go_simp
            go_at_call 11
            obtain ⟨lo, hlo⟩ : ∃ lo, lo = x5.heap.size := ⟨_, rfl⟩
            refine (sLook_any (l ++ [bd1]) ra rk rc bd1.nm HN.out x5 HIB.out HOKL.out).mono ?_
            rintro e x6 ⟨hc6, hls⟩
            obtain ⟨yy, va, vk, vc, s, n, ka, kl, kc, hyy, rfl, ho2, hi2, ht2⟩ := hls.resolve_right (fun h => by rw [HLB.out] at h; cases h.1)
            rw [HLB.out] at hyy
            cases hyy
            have b6 := b5.trans (hc6.mono b5.size)
            have lgb : gb < lo := by rw [hlo]; exact (Array.getElem?_eq_some_iff.1 hgb_5).1
            obtain ⟨hi, hhi⟩ : ∃ hi, hi = x6.heap.size := ⟨_, rfl⟩
            have HI2 : Hid (∀ y ∈ bd1.vs, Em5.I64 y) := hi2
            have O2 : Hid ((OwnInts x6 lo (.slice va vk vc) bd1.vs ∧ IsTyP (Btw lo hi) x6 bd1.ty (.agg #[.string s, .int .i64 n, .slice ka kl kc])) ∧ hi ≤ x6.heap.size) := by rw [Hid, hlo, hhi]; exact ⟨⟨ho2, isTyP_btw ht2⟩, Nat.le_refl _⟩
            clear ho2 hi2 ht2 hlo hhi
            have hgb_6 := (hc6.block _ (Array.getElem?_eq_some_iff.1 hgb_5).1).trans hgb_5
            clear hgb_5
            clear hc6
            (try dsimp only)
            refine hK.out _ _ (HS.out _ b6) (fun hHeld => ?_)
            clear hK K
            refine wpAnyH_take (i := 9) (v := ?_) rfl (by kernel_rfl) (by kernel_rfl) (by kernel_rfl) (fun _ _ _ h => h) (Or.inl ⟨by rfl, ?_⟩) (by assumption) ?_
            rotate_left
            · (intro w hSw; (try dsimp only at hSw); go_simp); all_goals (with_reducible rfl)
            simp only [List.getElem_toArray, List.getElem_cons_succ, List.getElem_cons_zero, Act.put, List.setIfInBounds_toArray, List.set_cons_zero, List.set_cons_succ]
            refine wpAnyH_take (i := 10) (v := ?_) rfl (by kernel_rfl) (by kernel_rfl) (by kernel_rfl) (fun _ _ _ h => h) (Or.inl ⟨by rfl, ?_⟩) (by assumption) ?_
            rotate_left
            · (intro w hSw; (try dsimp only at hSw); go_simp); all_goals (with_reducible rfl)
            simp only [List.getElem_toArray, List.getElem_cons_succ, List.getElem_cons_zero, Act.put, List.setIfInBounds_toArray, List.set_cons_zero, List.set_cons_succ]
            refine wpAnyH_take (i := 11) (v := ?_) rfl (by kernel_rfl) (by kernel_rfl) (by kernel_rfl) (fun _ _ _ h => h) (Or.inl ⟨by rfl, ?_⟩) (by assumption) ?_
            rotate_left
            · (intro w hSw; (try dsimp only at hSw); go_simp); all_goals (with_reducible rfl)
            simp only [List.getElem_toArray, List.getElem_cons_succ, List.getElem_cons_zero, Act.put, List.setIfInBounds_toArray, List.set_cons_zero, List.set_cons_succ]
            have HFIN : Hid _ := sbox_set (c := #[]) hgb_6 O2.out.1.1 HI2.out O2.out.1.2 (.inl lgb)
            have bE := below_set4 b6 mgb (.slice va vk vc) (.string s) (.int .i64 n) (.slice ka kl kc)
            obtain ⟨q0, q1, q2, q3, qf⟩ := box4_cells hgb_6
            refine wpAnyH_ready (rs := [13]) (by kernel_rfl) (by simp) (AllReadyH.cons rfl (fun K hK => ?_) AllReadyH.nil)
            go_simp
            refine hK.out _ _ (HS.out _ bE) (fun hHeld => ?_)
            clear hK K q0 q1 q2 q3 qf
            refine wpAnyH_take (i := 14) (v := ?_) rfl (by kernel_rfl) (by kernel_rfl) (by kernel_rfl) (fun _ _ _ h => h) (Or.inl ⟨by rfl, ?_⟩) (by assumption) ?_
            rotate_left
            · (intro w hSw; (try dsimp only at hSw); go_simp); all_goals (with_reducible rfl)
            simp only [List.getElem_toArray, List.getElem_cons_succ, List.getElem_cons_zero, Act.put, List.setIfInBounds_toArray, List.set_cons_zero, List.set_cons_succ]
            refine wpAnyH_done (by kernel_rfl) ?_ _
            go_wp2_with fail
            go_meet
            exact ⟨_, rfl, rfl, HFIN, bE⟩
        ·
          go_simp
          obtain ⟨x2, hx2⟩ : ∃ x2, x2 = x1.alloc zeroS := ⟨_, rfl⟩
          have hc2 : Below x1.heap.size x1 x2 := by rw [hx2]; exact (Below.refl _ _).alloc (Nat.le_refl _) _
          have b2 := b1.trans (hc2.mono b1.size)
          obtain ⟨gb, hggb⟩ : ∃ gb, gb = x1.heap.size := ⟨_, rfl⟩
          have hgb_2 : x2.heap[gb]? = some zeroS := by rw [hx2, hggb]; exact World.alloc_heap_new x1 _
          have mgb : X.heap.size ≤ gb := by rw [hggb]; exact b1.size
          have o2 : OwnBds x2 X.heap.size v0 [] := o1.below hc2
          rw [← hx2, ← hggb]
          clear hx2 hggb hc2
          clear o1
          refine hK.out _ _ (HS.out _ b2) (fun hHeld => ?_)
          clear hK K
          refine wpAnyH_ready (rs := [2, 4]) (by kernel_rfl) (by simp) (AllReadyH.cons rfl (fun K hK => ?_) (AllReadyH.cons rfl (fun K hK => ?_) AllReadyH.nil))
          ·
            refine step_app_bds (by rfl) _ _ (by rfl) X.heap.size v0 [] (by rfl) o2 _ cs (by rfl) (by first | exact (HSRC.out.below b2) | exact (HSRC.out.below b2)) (by have := HLEN.out; simp; omega) b2.size ?_
            intro v1 x3 o3 gr3 e3 d3
            have b3 := b2.trans d3
            rw [List.nil_append] at o3
            have hgb_3 := (gr3.block _ (Array.getElem?_eq_some_iff.1 hgb_2).1 (o2.ne hgb_2)).trans hgb_2
            clear gr3 e3 d3
            clear hgb_2 o2
            refine hK.out _ _ (HS.out _ b3) (fun hHeld => ?_)
            clear hK K
            refine wpAnyH_ready (rs := [4]) (by kernel_rfl) (by simp) (AllReadyH.cons rfl (fun K hK => ?_) AllReadyH.nil)
            go_simp
            obtain ⟨x4, hx4⟩ : ∃ x4, x4 = x3.alloc (.cells #[.string (Em.str bd1.nm), .slice va1 vk1 vc1, .string s1, .int .i64 n1, .slice ka1 kl1 kc1] 41) := ⟨_, rfl⟩
            have hc4 : Below x3.heap.size x3 x4 := by rw [hx4]; exact (Below.refl _ _).alloc (Nat.le_refl _) _
            have b4 := b3.trans (hc4.mono b3.size)
            obtain ⟨g1, hg1⟩ : ∃ g1, g1 = x3.heap.size := ⟨_, rfl⟩
            have hg1_4 : x4.heap[g1]? = some (.cells #[.string (Em.str bd1.nm), .slice va1 vk1 vc1, .string s1, .int .i64 n1, .slice ka1 kl1 kc1] 41 (0, 0)) := by rw [hx4, hg1]; exact World.alloc_heap_new x3 _
            have hgb_4 := (hc4.block _ (Array.getElem?_eq_some_iff.1 hgb_3).1).trans hgb_3
            have o4 : OwnBds x4 X.heap.size v1 cs := o3.below hc4
            have nb1 : some g1 ≠ v1.ownBlock := by
              intro e
              have := (World.ownsRow.lt (show x3.ownsRow X.heap.size 41 5 v1 _ (flat5 cs) from o3) g1 e.symm).2
              omega
            rw [← hx4, ← hg1]
            clear hx4 hg1 hc4
            clear hgb_3 o3
            refine hK.out _ _ (HS.out _ b4) (fun hHeld => ?_)
            clear hK K
            refine wpAnyH_ready (rs := [5]) (by kernel_rfl) (by simp) (AllReadyH.cons rfl (fun K hK => ?_) AllReadyH.nil)
            refine step_app_bds (by rfl) _ _ (by rfl) X.heap.size v1 cs (by rfl) o4 _ [(.string (Em.str bd1.nm), .slice va1 vk1 vc1, .string s1, .int .i64 n1, .slice ka1 kl1 kc1)] (by rfl) (by first | exact (src_one5 hg1_4 HONE.out) | exact (src_one5 hg1_4 HONE.out)) (by have := HLEN.out; simp; omega) b4.size ?_
            intro v2 x5 o5 gr5 e5 d5
            have b5 := b4.trans d5
            have hgb_5 := (gr5.block _ (Array.getElem?_eq_some_iff.1 hgb_4).1 (o4.ne hgb_4)).trans hgb_4
            clear gr5 e5 d5
            clear hgb_4 hg1_4 o4
            obtain ⟨ra, rk, rc, hrf⟩ := o5.form
            subst hrf
            have HIB : Hid (IsBds x5 (.slice ra rk rc) (l ++ [bd1])) := o5.is (HARE.out.below b5)
            clear o5
            refine hK.out _ _ (HS.out _ b5) (fun hHeld => ?_)
            clear hK K
            refine wpAnyH_ready (rs := [8]) (by kernel_rfl) (by simp) (AllReadyH.cons rfl (fun K hK => ?_) AllReadyH.nil)
            go_simp
            go_at_call 11
            obtain ⟨lo, hlo⟩ : ∃ lo, lo = x5.heap.size := ⟨_, rfl⟩
            refine (sLook_any (l ++ [bd1]) ra rk rc bd1.nm HN.out x5 HIB.out HOKL.out).mono ?_
            rintro e x6 ⟨hc6, hls⟩
            obtain ⟨yy, va, vk, vc, s, n, ka, kl, kc, hyy, rfl, ho2, hi2, ht2⟩ := hls.resolve_right (fun h => by rw [HLB.out] at h; cases h.1)
            rw [HLB.out] at hyy
            cases hyy
            have b6 := b5.trans (hc6.mono b5.size)
            have lgb : gb < lo := by rw [hlo]; exact (Array.getElem?_eq_some_iff.1 hgb_5).1
            obtain ⟨hi, hhi⟩ : ∃ hi, hi = x6.heap.size := ⟨_, rfl⟩
            have HI2 : Hid (∀ y ∈ bd1.vs, Em5.I64 y) := hi2
            have O2 : Hid ((OwnInts x6 lo (.slice va vk vc) bd1.vs ∧ IsTyP (Btw lo hi) x6 bd1.ty (.agg #[.string s, .int .i64 n, .slice ka kl kc])) ∧ hi ≤ x6.heap.size) := by rw [Hid, hlo, hhi]; exact ⟨⟨ho2, isTyP_btw ht2⟩, Nat.le_refl _⟩
            clear ho2 hi2 ht2 hlo hhi
            have hgb_6 := (hc6.block _ (Array.getElem?_eq_some_iff.1 hgb_5).1).trans hgb_5
            clear hgb_5
            clear hc6
            (try dsimp only)
            refine hK.out _ _ (HS.out _ b6) (fun hHeld => ?_)
            clear hK K
            refine wpAnyH_take (i := 9) (v := ?_) rfl (by kernel_rfl) (by kernel_rfl) (by kernel_rfl) (fun _ _ _ h => h) (Or.inl ⟨by rfl, ?_⟩) (by assumption) ?_
            rotate_left
            · (intro w hSw; (try dsimp only at hSw); go_simp); all_goals (with_reducible rfl)
            simp only [List.getElem_toArray, List.getElem_cons_succ, List.getElem_cons_zero, Act.put, List.setIfInBounds_toArray, List.set_cons_zero, List.set_cons_succ]
            refine wpAnyH_take (i := 10) (v := ?_) rfl (by kernel_rfl) (by kernel_rfl) (by kernel_rfl) (fun _ _ _ h => h) (Or.inl ⟨by rfl, ?_⟩) (by assumption) ?_
            rotate_left
            · (intro w hSw; (try dsimp only at hSw); go_simp); all_goals (with_reducible rfl)
            simp only [List.getElem_toArray, List.getElem_cons_succ, List.getElem_cons_zero, Act.put, List.setIfInBounds_toArray, List.set_cons_zero, List.set_cons_succ]
            refine wpAnyH_take (i := 11) (v := ?_) rfl (by kernel_rfl) (by kernel_rfl) (by kernel_rfl) (fun _ _ _ h => h) (Or.inl ⟨by rfl, ?_⟩) (by assumption) ?_
            rotate_left
            · (intro w hSw; (try dsimp only at hSw); go_simp); all_goals (with_reducible rfl)
            simp only [List.getElem_toArray, List.getElem_cons_succ, List.getElem_cons_zero, Act.put, List.setIfInBounds_toArray, List.set_cons_zero, List.set_cons_succ]
            have HFIN : Hid _ := sbox_set (c := #[]) hgb_6 O2.out.1.1 HI2.out O2.out.1.2 (.inl lgb)
            have bE := below_set4 b6 mgb (.slice va vk vc) (.string s) (.int .i64 n) (.slice ka kl kc)
            obtain ⟨q0, q1, q2, q3, qf⟩ := box4_cells hgb_6
            refine wpAnyH_ready (rs := [13]) (by kernel_rfl) (by simp) (AllReadyH.cons rfl (fun K hK => ?_) AllReadyH.nil)
            go_simp
            refine hK.out _ _ (HS.out _ bE) (fun hHeld => ?_)
            clear hK K q0 q1 q2 q3 qf
            refine wpAnyH_take (i := 14) (v := ?_) rfl (by kernel_rfl) (by kernel_rfl) (by kernel_rfl) (fun _ _ _ h => h) (Or.inl ⟨by rfl, ?_⟩) (by assumption) ?_
            rotate_left
            · (intro w hSw; (try dsimp only at hSw); go_simp); all_goals (with_reducible rfl)
            simp only [List.getElem_toArray, List.getElem_cons_succ, List.getElem_cons_zero, Act.put, List.setIfInBounds_toArray, List.set_cons_zero, List.set_cons_succ]
            refine wpAnyH_done (by kernel_rfl) ?_ _
            go_wp2_with fail
            go_meet
            exact ⟨_, rfl, rfl, HFIN, bE⟩
          ·
            go_simp
            obtain ⟨x3, hx3⟩ : ∃ x3, x3 = x2.alloc (.cells #[.string (Em.str bd1.nm), .slice va1 vk1 vc1, .string s1, .int .i64 n1, .slice ka1 kl1 kc1] 41) := ⟨_, rfl⟩
            have hc3 : Below x2.heap.size x2 x3 := by rw [hx3]; exact (Below.refl _ _).alloc (Nat.le_refl _) _
            have b3 := b2.trans (hc3.mono b2.size)
            obtain ⟨g1, hg1⟩ : ∃ g1, g1 = x2.heap.size := ⟨_, rfl⟩
            have hg1_3 : x3.heap[g1]? = some (.cells #[.string (Em.str bd1.nm), .slice va1 vk1 vc1, .string s1, .int .i64 n1, .slice ka1 kl1 kc1] 41 (0, 0)) := by rw [hx3, hg1]; exact World.alloc_heap_new x2 _
            have hgb_3 := (hc3.block _ (Array.getElem?_eq_some_iff.1 hgb_2).1).trans hgb_2
            have o3 : OwnBds x3 X.heap.size v0 [] := o2.below hc3
            have nb0 : some g1 ≠ v0.ownBlock := by
              intro e
              have := (World.ownsRow.lt (show x2.ownsRow X.heap.size 41 5 v0 _ (flat5 []) from o2) g1 e.symm).2
              omega
            rw [← hx3, ← hg1]
            clear hx3 hg1 hc3
            clear hgb_2 o2
            refine hK.out _ _ (HS.out _ b3) (fun hHeld => ?_)
            clear hK K
            refine wpAnyH_ready (rs := [2]) (by kernel_rfl) (by simp) (AllReadyH.cons rfl (fun K hK => ?_) AllReadyH.nil)
            refine step_app_bds (by rfl) _ _ (by rfl) X.heap.size v0 [] (by rfl) o3 _ cs (by rfl) (by first | exact (HSRC.out.below b3) | exact (HSRC.out.below b3)) (by have := HLEN.out; simp; omega) b3.size ?_
            intro v1 x4 o4 gr4 e4 d4
            have b4 := b3.trans d4
            rw [List.nil_append] at o4
            have hgb_4 := (gr4.block _ (Array.getElem?_eq_some_iff.1 hgb_3).1 (o3.ne hgb_3)).trans hgb_3
            have hg1_4 := (gr4.block _ (Array.getElem?_eq_some_iff.1 hg1_3).1 nb0).trans hg1_3
            have nb1 : some g1 ≠ v1.ownBlock := by
              rcases e4 with e | e
              · rw [e]; exact nb0
              · rw [e]; intro e2; have hlt := (Array.getElem?_eq_some_iff.1 hg1_3).1; simp at e2; omega
            clear gr4 e4 d4
            clear hgb_3 hg1_3 o3
            refine hK.out _ _ (HS.out _ b4) (fun hHeld => ?_)
            clear hK K
            refine wpAnyH_ready (rs := [5]) (by kernel_rfl) (by simp) (AllReadyH.cons rfl (fun K hK => ?_) AllReadyH.nil)
            refine step_app_bds (by rfl) _ _ (by rfl) X.heap.size v1 cs (by rfl) o4 _ [(.string (Em.str bd1.nm), .slice va1 vk1 vc1, .string s1, .int .i64 n1, .slice ka1 kl1 kc1)] (by rfl) (by first | exact (src_one5 hg1_4 HONE.out) | exact (src_one5 hg1_4 HONE.out)) (by have := HLEN.out; simp; omega) b4.size ?_
            intro v2 x5 o5 gr5 e5 d5
            have b5 := b4.trans d5
            have hgb_5 := (gr5.block _ (Array.getElem?_eq_some_iff.1 hgb_4).1 (o4.ne hgb_4)).trans hgb_4
            clear gr5 e5 d5
            clear hgb_4 hg1_4 o4
            obtain ⟨ra, rk, rc, hrf⟩ := o5.form
            subst hrf
            have HIB : Hid (IsBds x5 (.slice ra rk rc) (l ++ [bd1])) := o5.is (HARE.out.below b5)
            clear o5
            refine hK.out _ _ (HS.out _ b5) (fun hHeld => ?_)
            clear hK K
            refine wpAnyH_ready (rs := [8]) (by kernel_rfl) (by simp) (AllReadyH.cons rfl (fun K hK => ?_) AllReadyH.nil)
            go_simp
            go_at_call 11
            obtain ⟨lo, hlo⟩ : ∃ lo, lo = x5.heap.size := ⟨_, rfl⟩
            refine (sLook_any (l ++ [bd1]) ra rk rc bd1.nm HN.out x5 HIB.out HOKL.out).mono ?_
            rintro e x6 ⟨hc6, hls⟩
            obtain ⟨yy, va, vk, vc, s, n, ka, kl, kc, hyy, rfl, ho2, hi2, ht2⟩ := hls.resolve_right (fun h => by rw [HLB.out] at h; cases h.1)
            rw [HLB.out] at hyy
            cases hyy
            have b6 := b5.trans (hc6.mono b5.size)
            have lgb : gb < lo := by rw [hlo]; exact (Array.getElem?_eq_some_iff.1 hgb_5).1
            obtain ⟨hi, hhi⟩ : ∃ hi, hi = x6.heap.size := ⟨_, rfl⟩
            have HI2 : Hid (∀ y ∈ bd1.vs, Em5.I64 y) := hi2
            have O2 : Hid ((OwnInts x6 lo (.slice va vk vc) bd1.vs ∧ IsTyP (Btw lo hi) x6 bd1.ty (.agg #[.string s, .int .i64 n, .slice ka kl kc])) ∧ hi ≤ x6.heap.size) := by rw [Hid, hlo, hhi]; exact ⟨⟨ho2, isTyP_btw ht2⟩, Nat.le_refl _⟩
            clear ho2 hi2 ht2 hlo hhi
            have hgb_6 := (hc6.block _ (Array.getElem?_eq_some_iff.1 hgb_5).1).trans hgb_5
            clear hgb_5
            clear hc6
            (try dsimp only)
            refine hK.out _ _ (HS.out _ b6) (fun hHeld => ?_)
            clear hK K
            refine wpAnyH_take (i := 9) (v := ?_) rfl (by kernel_rfl) (by kernel_rfl) (by kernel_rfl) (fun _ _ _ h => h) (Or.inl ⟨by rfl, ?_⟩) (by assumption) ?_
            rotate_left
            · (intro w hSw; (try dsimp only at hSw); go_simp); all_goals (with_reducible rfl)
            simp only [List.getElem_toArray, List.getElem_cons_succ, List.getElem_cons_zero, Act.put, List.setIfInBounds_toArray, List.set_cons_zero, List.set_cons_succ]
            refine wpAnyH_take (i := 10) (v := ?_) rfl (by kernel_rfl) (by kernel_rfl) (by kernel_rfl) (fun _ _ _ h => h) (Or.inl ⟨by rfl, ?_⟩) (by assumption) ?_
            rotate_left
            · (intro w hSw; (try dsimp only at hSw); go_simp); all_goals (with_reducible rfl)
            simp only [List.getElem_toArray, List.getElem_cons_succ, List.getElem_cons_zero, Act.put, List.setIfInBounds_toArray, List.set_cons_zero, List.set_cons_succ]
            refine wpAnyH_take (i := 11) (v := ?_) rfl (by kernel_rfl) (by kernel_rfl) (by kernel_rfl) (fun _ _ _ h => h) (Or.inl ⟨by rfl, ?_⟩) (by assumption) ?_
            rotate_left
            · (intro w hSw; (try dsimp only at hSw); go_simp); all_goals (with_reducible rfl)
            simp only [List.getElem_toArray, List.getElem_cons_succ, List.getElem_cons_zero, Act.put, List.setIfInBounds_toArray, List.set_cons_zero, List.set_cons_succ]
            have HFIN : Hid _ := sbox_set (c := #[]) hgb_6 O2.out.1.1 HI2.out O2.out.1.2 (.inl lgb)
            have bE := below_set4 b6 mgb (.slice va vk vc) (.string s) (.int .i64 n) (.slice ka kl kc)
            obtain ⟨q0, q1, q2, q3, qf⟩ := box4_cells hgb_6
            refine wpAnyH_ready (rs := [13]) (by kernel_rfl) (by simp) (AllReadyH.cons rfl (fun K hK => ?_) AllReadyH.nil)
            go_simp
            refine hK.out _ _ (HS.out _ bE) (fun hHeld => ?_)
            clear hK K q0 q1 q2 q3 qf
            refine wpAnyH_take (i := 14) (v := ?_) rfl (by kernel_rfl) (by kernel_rfl) (by kernel_rfl) (fun _ _ _ h => h) (Or.inl ⟨by rfl, ?_⟩) (by assumption) ?_
            rotate_left
            · (intro w hSw; (try dsimp only at hSw); go_simp); all_goals (with_reducible rfl)
            simp only [List.getElem_toArray, List.getElem_cons_succ, List.getElem_cons_zero, Act.put, List.setIfInBounds_toArray, List.set_cons_zero, List.set_cons_succ]
            refine wpAnyH_done (by kernel_rfl) ?_ _
            go_wp2_with fail
            go_meet
            exact ⟨_, rfl, rfl, HFIN, bE⟩
      ·
        go_simp
        obtain ⟨x1, hx1⟩ : ∃ x1, x1 = x0.alloc (.cells #[.string (Em.str bd1.nm), .slice va1 vk1 vc1, .string s1, .int .i64 n1, .slice ka1 kl1 kc1] 41) := ⟨_, rfl⟩
        have hc1 : Below x0.heap.size x0 x1 := by rw [hx1]; exact (Below.refl _ _).alloc (Nat.le_refl _) _
        have b1 := b0.trans (hc1.mono b0.size)
        obtain ⟨g1, hg1⟩ : ∃ g1, g1 = x0.heap.size := ⟨_, rfl⟩
        have hg1_1 : x1.heap[g1]? = some (.cells #[.string (Em.str bd1.nm), .slice va1 vk1 vc1, .string s1, .int .i64 n1, .slice ka1 kl1 kc1] 41 (0, 0)) := by rw [hx1, hg1]; exact World.alloc_heap_new x0 _
        rw [← hx1, ← hg1]
        clear hx1 hg1 hc1
        refine hK.out _ _ (HS.out _ b1) (fun hHeld => ?_)
        clear hK K
        refine wpAnyH_ready (rs := [0, 12]) (by kernel_rfl) (by simp) (AllReadyH.cons rfl (fun K hK => ?_) (AllReadyH.cons rfl (fun K hK => ?_) AllReadyH.nil))
        ·
          go_simp
          obtain ⟨x2, hx2⟩ : ∃ x2, x2 = x1.alloc (.cells #[] 41) := ⟨_, rfl⟩
          have hc2 : Below x1.heap.size x1 x2 := by rw [hx2]; exact (Below.refl _ _).alloc (Nat.le_refl _) _
          have b2 := b1.trans (hc2.mono b1.size)
          have o2 : OwnBds x2 X.heap.size (.slice (some ⟨x1.heap.size, 0, none⟩) 0 0) [] := by rw [hx2]; exact own_empty5 x1 b1.size
          obtain ⟨v0, hv0⟩ : ∃ v0, v0 = (Value.slice (some ⟨x1.heap.size, 0, none⟩) 0 0) := ⟨_, rfl⟩
          have hg1_2 := (hc2.block _ (Array.getElem?_eq_some_iff.1 hg1_1).1).trans hg1_1
          have nb0 : some g1 ≠ v0.ownBlock := by rw [hv0]; intro e; have hlt := (Array.getElem?_eq_some_iff.1 hg1_1).1; simp [Value.ownBlock] at e; omega
          rw [← hx2, ← hv0]
          rw [← hv0] at o2
          clear hx2 hv0 hc2
          clear hg1_1
          refine hK.out _ _ (HS.out _ b2) (fun hHeld => ?_)
          clear hK K
          refine wpAnyH_ready (rs := [2, 12]) (by kernel_rfl) (by simp) (AllReadyH.cons rfl (fun K hK => ?_) (AllReadyH.cons rfl (fun K hK => ?_) AllReadyH.nil))
          ·
            refine step_app_bds (by rfl) _ _ (by rfl) X.heap.size v0 [] (by rfl) o2 _ cs (by rfl) (by first | exact (HSRC.out.below b2) | exact (HSRC.out.below b2)) (by have := HLEN.out; simp; omega) b2.size ?_
            intro v1 x3 o3 gr3 e3 d3
            have b3 := b2.trans d3
            rw [List.nil_append] at o3
            have hg1_3 := (gr3.block _ (Array.getElem?_eq_some_iff.1 hg1_2).1 nb0).trans hg1_2
            have nb1 : some g1 ≠ v1.ownBlock := by
              rcases e3 with e | e
              · rw [e]; exact nb0
              · rw [e]; intro e2; have hlt := (Array.getElem?_eq_some_iff.1 hg1_2).1; simp at e2; omega
            clear gr3 e3 d3
            clear hg1_2 o2
            refine hK.out _ _ (HS.out _ b3) (fun hHeld => ?_)
            clear hK K
            refine wpAnyH_ready (rs := [5, 12]) (by kernel_rfl) (by simp) (AllReadyH.cons rfl (fun K hK => ?_) (AllReadyH.cons rfl (fun K hK => ?_) AllReadyH.nil))
            ·
              refine step_app_bds (by rfl) _ _ (by rfl) X.heap.size v1 cs (by rfl) o3 _ [(.string (Em.str bd1.nm), .slice va1 vk1 vc1, .string s1, .int .i64 n1, .slice ka1 kl1 kc1)] (by rfl) (by first | exact (src_one5 hg1_3 HONE.out) | exact (src_one5 hg1_3 HONE.out)) (by have := HLEN.out; simp; omega) b3.size ?_
              intro v2 x4 o4 gr4 e4 d4
              have b4 := b3.trans d4
              clear gr4 e4 d4
              clear hg1_3 o3
              obtain ⟨ra, rk, rc, hrf⟩ := o4.form
              subst hrf
              have HIB : Hid (IsBds x4 (.slice ra rk rc) (l ++ [bd1])) := o4.is (HARE.out.below b4)
              clear o4
              refine hK.out _ _ (HS.out _ b4) (fun hHeld => ?_)
              clear hK K
              refine wpAnyH_ready (rs := [8, 12]) (by kernel_rfl) (by simp) (AllReadyH.cons rfl (fun K hK => ?_) (AllReadyH.cons rfl (fun K hK => ?_) AllReadyH.nil))
              ·
                go_simp
                go_at_call 11
                obtain ⟨lo, hlo⟩ : ∃ lo, lo = x4.heap.size := ⟨_, rfl⟩
                refine (sLook_any (l ++ [bd1]) ra rk rc bd1.nm HN.out x4 HIB.out HOKL.out).mono ?_
                rintro e x5 ⟨hc5, hls⟩
                obtain ⟨yy, va, vk, vc, s, n, ka, kl, kc, hyy, rfl, ho2, hi2, ht2⟩ := hls.resolve_right (fun h => by rw [HLB.out] at h; cases h.1)
                rw [HLB.out] at hyy
                cases hyy
                have b5 := b4.trans (hc5.mono b4.size)
                obtain ⟨hi, hhi⟩ : ∃ hi, hi = x5.heap.size := ⟨_, rfl⟩
                have HI2 : Hid (∀ y ∈ bd1.vs, Em5.I64 y) := hi2
                have O2 : Hid ((OwnInts x5 lo (.slice va vk vc) bd1.vs ∧ IsTyP (Btw lo hi) x5 bd1.ty (.agg #[.string s, .int .i64 n, .slice ka kl kc])) ∧ hi ≤ x5.heap.size) := by rw [Hid, hlo, hhi]; exact ⟨⟨ho2, isTyP_btw ht2⟩, Nat.le_refl _⟩
                clear ho2 hi2 ht2 hlo hhi
                clear hc5
                (try dsimp only)
                refine hK.out _ _ (HS.out _ b5) (fun hHeld => ?_)
                clear hK K
                refine wpAnyH_take (i := 9) (v := ?_) rfl (by kernel_rfl) (by kernel_rfl) (by kernel_rfl) (fun _ _ _ h => h) (Or.inl ⟨by rfl, ?_⟩) (by assumption) ?_
                rotate_left
                · (intro w hSw; (try dsimp only at hSw); go_simp); all_goals (with_reducible rfl)
                simp only [List.getElem_toArray, List.getElem_cons_succ, List.getElem_cons_zero, Act.put, List.setIfInBounds_toArray, List.set_cons_zero, List.set_cons_succ]
                refine wpAnyH_take (i := 10) (v := ?_) rfl (by kernel_rfl) (by kernel_rfl) (by kernel_rfl) (fun _ _ _ h => h) (Or.inl ⟨by rfl, ?_⟩) (by assumption) ?_
                rotate_left
                · (intro w hSw; (try dsimp only at hSw); go_simp); all_goals (with_reducible rfl)
                simp only [List.getElem_toArray, List.getElem_cons_succ, List.getElem_cons_zero, Act.put, List.setIfInBounds_toArray, List.set_cons_zero, List.set_cons_succ]
                refine wpAnyH_take (i := 11) (v := ?_) rfl (by kernel_rfl) (by kernel_rfl) (by kernel_rfl) (fun _ _ _ h => h) (Or.inl ⟨by rfl, ?_⟩) (by assumption) ?_
                rotate_left
                · (intro w hSw; (try dsimp only at hSw); go_simp); all_goals (with_reducible rfl)
                simp only [List.getElem_toArray, List.getElem_cons_succ, List.getElem_cons_zero, Act.put, List.setIfInBounds_toArray, List.set_cons_zero, List.set_cons_succ]
                refine wpAnyH_ready (rs := [12]) (by kernel_rfl) (by simp) (AllReadyH.cons rfl (fun K hK => ?_) AllReadyH.nil)
                go_simp
                obtain ⟨x6, hx6⟩ : ∃ x6, x6 = x5.alloc zeroS := ⟨_, rfl⟩
                have hc6 : Below x5.heap.size x5 x6 := by rw [hx6]; exact (Below.refl _ _).alloc (Nat.le_refl _) _
                have b6 := b5.trans (hc6.mono b5.size)
                obtain ⟨gb, hggb⟩ : ∃ gb, gb = x5.heap.size := ⟨_, rfl⟩
                have hgb_6 : x6.heap[gb]? = some zeroS := by rw [hx6, hggb]; exact World.alloc_heap_new x5 _
                have mgb : X.heap.size ≤ gb := by rw [hggb]; exact b5.size
                have rgb : hi ≤ gb := by rw [hggb]; exact O2.out.2
                replace O2 : Hid ((OwnInts x6 lo (.slice va vk vc) bd1.vs ∧ IsTyP (Btw lo hi) x6 bd1.ty (.agg #[.string s, .int .i64 n, .slice ka kl kc])) ∧ hi ≤ x6.heap.size) := ⟨⟨O2.out.1.1.below hc6, isTyP_below O2.out.1.2 hc6⟩, Nat.le_trans O2.out.2 hc6.size⟩
                rw [← hx6, ← hggb]
                clear hx6 hggb hc6
                refine hK.out _ _ (HS.out _ b6) (fun hHeld => ?_)
                clear hK K
                have HFIN : Hid _ := sbox_set (c := #[]) hgb_6 O2.out.1.1 HI2.out O2.out.1.2 (.inr rgb)
                have bE := below_set4 b6 mgb (.slice va vk vc) (.string s) (.int .i64 n) (.slice ka kl kc)
                obtain ⟨q0, q1, q2, q3, qf⟩ := box4_cells hgb_6
                refine wpAnyH_ready (rs := [13]) (by kernel_rfl) (by simp) (AllReadyH.cons rfl (fun K hK => ?_) AllReadyH.nil)
                go_simp
                refine hK.out _ _ (HS.out _ bE) (fun hHeld => ?_)
                clear hK K q0 q1 q2 q3 qf
                refine wpAnyH_take (i := 14) (v := ?_) rfl (by kernel_rfl) (by kernel_rfl) (by kernel_rfl) (fun _ _ _ h => h) (Or.inl ⟨by rfl, ?_⟩) (by assumption) ?_
                rotate_left
                · (intro w hSw; (try dsimp only at hSw); go_simp); all_goals (with_reducible rfl)
                simp only [List.getElem_toArray, List.getElem_cons_succ, List.getElem_cons_zero, Act.put, List.setIfInBounds_toArray, List.set_cons_zero, List.set_cons_succ]
                refine wpAnyH_done (by kernel_rfl) ?_ _
                go_wp2_with fail
                go_meet
                exact ⟨_, rfl, rfl, HFIN, bE⟩
              ·
                go_simp
                obtain ⟨x5, hx5⟩ : ∃ x5, x5 = x4.alloc zeroS := ⟨_, rfl⟩
                have hc5 : Below x4.heap.size x4 x5 := by rw [hx5]; exact (Below.refl _ _).alloc (Nat.le_refl _) _
                have b5 := b4.trans (hc5.mono b4.size)
                obtain ⟨gb, hggb⟩ : ∃ gb, gb = x4.heap.size := ⟨_, rfl⟩
                have hgb_5 : x5.heap[gb]? = some zeroS := by rw [hx5, hggb]; exact World.alloc_heap_new x4 _
                have mgb : X.heap.size ≤ gb := by rw [hggb]; exact b4.size
                replace HIB : Hid (IsBds x5 (.slice ra rk rc) (l ++ [bd1])) := HIB.out.below hc5
                rw [← hx5, ← hggb]
                clear hx5 hggb hc5
                refine hK.out _ _ (HS.out _ b5) (fun hHeld => ?_)
                clear hK K
                refine wpAnyH_ready (rs := [8]) (by kernel_rfl) (by simp) (AllReadyH.cons rfl (fun K hK => ?_) AllReadyH.nil)
                go_simp
                go_at_call 11
                obtain ⟨lo, hlo⟩ : ∃ lo, lo = x5.heap.size := ⟨_, rfl⟩
                refine (sLook_any (l ++ [bd1]) ra rk rc bd1.nm HN.out x5 HIB.out HOKL.out).mono ?_
                rintro e x6 ⟨hc6, hls⟩
                obtain ⟨yy, va, vk, vc, s, n, ka, kl, kc, hyy, rfl, ho2, hi2, ht2⟩ := hls.resolve_right (fun h => by rw [HLB.out] at h; cases h.1)
                rw [HLB.out] at hyy
                cases hyy
                have b6 := b5.trans (hc6.mono b5.size)
                have lgb : gb < lo := by rw [hlo]; exact (Array.getElem?_eq_some_iff.1 hgb_5).1
                obtain ⟨hi, hhi⟩ : ∃ hi, hi = x6.heap.size := ⟨_, rfl⟩
                have HI2 : Hid (∀ y ∈ bd1.vs, Em5.I64 y) := hi2
                have O2 : Hid ((OwnInts x6 lo (.slice va vk vc) bd1.vs ∧ IsTyP (Btw lo hi) x6 bd1.ty (.agg #[.string s, .int .i64 n, .slice ka kl kc])) ∧ hi ≤ x6.heap.size) := by rw [Hid, hlo, hhi]; exact ⟨⟨ho2, isTyP_btw ht2⟩, Nat.le_refl _⟩
                clear ho2 hi2 ht2 hlo hhi
                have hgb_6 := (hc6.block _ (Array.getElem?_eq_some_iff.1 hgb_5).1).trans hgb_5
                clear hgb_5
                clear hc6
                (try dsimp only)
                refine hK.out _ _ (HS.out _ b6) (fun hHeld => ?_)
                clear hK K
                refine wpAnyH_take (i := 9) (v := ?_) rfl (by kernel_rfl) (by kernel_rfl) (by kernel_rfl) (fun _ _ _ h => h) (Or.inl ⟨by rfl, ?_⟩) (by assumption) ?_
                rotate_left
                · (intro w hSw; (try dsimp only at hSw); go_simp); all_goals (with_reducible rfl)
                simp only [List.getElem_toArray, List.getElem_cons_succ, List.getElem_cons_zero, Act.put, List.setIfInBounds_toArray, List.set_cons_zero, List.set_cons_succ]
                refine wpAnyH_take (i := 10) (v := ?_) rfl (by kernel_rfl) (by kernel_rfl) (by kernel_rfl) (fun _ _ _ h => h) (Or.inl ⟨by rfl, ?_⟩) (by assumption) ?_
                rotate_left
                · (intro w hSw; (try dsimp only at hSw); go_simp); all_goals (with_reducible rfl)
                simp only [List.getElem_toArray, List.getElem_cons_succ, List.getElem_cons_zero, Act.put, List.setIfInBounds_toArray, List.set_cons_zero, List.set_cons_succ]
                refine wpAnyH_take (i := 11) (v := ?_) rfl (by kernel_rfl) (by kernel_rfl) (by kernel_rfl) (fun _ _ _ h => h) (Or.inl ⟨by rfl, ?_⟩) (by assumption) ?_
                rotate_left
                · (intro w hSw; (try dsimp only at hSw); go_simp); all_goals (with_reducible rfl)
                simp only [List.getElem_toArray, List.getElem_cons_succ, List.getElem_cons_zero, Act.put, List.setIfInBounds_toArray, List.set_cons_zero, List.set_cons_succ]
                have HFIN : Hid _ := sbox_set (c := #[]) hgb_6 O2.out.1.1 HI2.out O2.out.1.2 (.inl lgb)
                have bE := below_set4 b6 mgb (.slice va vk vc) (.string s) (.int .i64 n) (.slice ka kl kc)
                obtain ⟨q0, q1, q2, q3, qf⟩ := box4_cells hgb_6
                refine wpAnyH_ready (rs := [13]) (by kernel_rfl) (by simp) (AllReadyH.cons rfl (fun K hK => ?_) AllReadyH.nil)
                go_simp
                refine hK.out _ _ (HS.out _ bE) (fun hHeld => ?_)
                clear hK K q0 q1 q2 q3 qf
                refine wpAnyH_take (i := 14) (v := ?_) rfl (by kernel_rfl) (by kernel_rfl) (by kernel_rfl) (fun _ _ _ h => h) (Or.inl ⟨by rfl, ?_⟩) (by assumption) ?_
                rotate_left
                · (intro w hSw; (try dsimp only at hSw); go_simp); all_goals (with_reducible rfl)
                simp only [List.getElem_toArray, List.getElem_cons_succ, List.getElem_cons_zero, Act.put, List.setIfInBounds_toArray, List.set_cons_zero, List.set_cons_succ]
                refine wpAnyH_done (by kernel_rfl) ?_ _
                go_wp2_with fail
                go_meet
                exact ⟨_, rfl, rfl, HFIN, bE⟩
            ·
              go_simp
              obtain ⟨x4, hx4⟩ : ∃ x4, x4 = x3.alloc zeroS := ⟨_, rfl⟩
              have hc4 : Below x3.heap.size x3 x4 := by rw [hx4]; exact (Below.refl _ _).alloc (Nat.le_refl _) _
              have b4 := b3.trans (hc4.mono b3.size)
              obtain ⟨gb, hggb⟩ : ∃ gb, gb = x3.heap.size := ⟨_, rfl⟩
              have hgb_4 : x4.heap[gb]? = some zeroS := by rw [hx4, hggb]; exact World.alloc_heap_new x3 _
              have mgb : X.heap.size ≤ gb := by rw [hggb]; exact b3.size
              have hg1_4 := (hc4.block _ (Array.getElem?_eq_some_iff.1 hg1_3).1).trans hg1_3
              have o4 : OwnBds x4 X.heap.size v1 cs := o3.below hc4
              rw [← hx4, ← hggb]
              clear hx4 hggb hc4
              clear hg1_3 o3
              refine hK.out _ _ (HS.out _ b4) (fun hHeld => ?_)
              clear hK K
              refine wpAnyH_ready (rs := [5]) (by kernel_rfl) (by simp) (AllReadyH.cons rfl (fun K hK => ?_) AllReadyH.nil)
              refine step_app_bds (by rfl) _ _ (by rfl) X.heap.size v1 cs (by rfl) o4 _ [(.string (Em.str bd1.nm), .slice va1 vk1 vc1, .string s1, .int .i64 n1, .slice ka1 kl1 kc1)] (by rfl) (by first | exact (src_one5 hg1_4 HONE.out) | exact (src_one5 hg1_4 HONE.out)) (by have := HLEN.out; simp; omega) b4.size ?_
              intro v2 x5 o5 gr5 e5 d5
              have b5 := b4.trans d5
              have hgb_5 := (gr5.block _ (Array.getElem?_eq_some_iff.1 hgb_4).1 (o4.ne hgb_4)).trans hgb_4
              clear gr5 e5 d5
              clear hgb_4 hg1_4 o4
              obtain ⟨ra, rk, rc, hrf⟩ := o5.form
              subst hrf
              have HIB : Hid (IsBds x5 (.slice ra rk rc) (l ++ [bd1])) := o5.is (HARE.out.below b5)
              clear o5
              refine hK.out _ _ (HS.out _ b5) (fun hHeld => ?_)
              clear hK K
              refine wpAnyH_ready (rs := [8]) (by kernel_rfl) (by simp) (AllReadyH.cons rfl (fun K hK => ?_) AllReadyH.nil)
              go_simp
              go_at_call 11
              obtain ⟨lo, hlo⟩ : ∃ lo, lo = x5.heap.size := ⟨_, rfl⟩
              refine (sLook_any (l ++ [bd1]) ra rk rc bd1.nm HN.out x5 HIB.out HOKL.out).mono ?_
              rintro e x6 ⟨hc6, hls⟩
              obtain ⟨yy, va, vk, vc, s, n, ka, kl, kc, hyy, rfl, ho2, hi2, ht2⟩ := hls.resolve_right (fun h => by rw [HLB.out] at h; cases h.1)
              rw [HLB.out] at hyy
              cases hyy
              have b6 := b5.trans (hc6.mono b5.size)
              have lgb : gb < lo := by rw [hlo]; exact (Array.getElem?_eq_some_iff.1 hgb_5).1
              obtain ⟨hi, hhi⟩ : ∃ hi, hi = x6.heap.size := ⟨_, rfl⟩
              have HI2 : Hid (∀ y ∈ bd1.vs, Em5.I64 y) := hi2
              have O2 : Hid ((OwnInts x6 lo (.slice va vk vc) bd1.vs ∧ IsTyP (Btw lo hi) x6 bd1.ty (.agg #[.string s, .int .i64 n, .slice ka kl kc])) ∧ hi ≤ x6.heap.size) := by rw [Hid, hlo, hhi]; exact ⟨⟨ho2, isTyP_btw ht2⟩, Nat.le_refl _⟩
              clear ho2 hi2 ht2 hlo hhi
              have hgb_6 := (hc6.block _ (Array.getElem?_eq_some_iff.1 hgb_5).1).trans hgb_5
              clear hgb_5
              clear hc6
              (try dsimp only)
              refine hK.out _ _ (HS.out _ b6) (fun hHeld => ?_)
              clear hK K
              refine wpAnyH_take (i := 9) (v := ?_) rfl (by kernel_rfl) (by kernel_rfl) (by kernel_rfl) (fun _ _ _ h => h) (Or.inl ⟨by rfl, ?_⟩) (by assumption) ?_
              rotate_left
              · (intro w hSw; (try dsimp only at hSw); go_simp); all_goals (with_reducible rfl)
              simp only [List.getElem_toArray, List.getElem_cons_succ, List.getElem_cons_zero, Act.put, List.setIfInBounds_toArray, List.set_cons_zero, List.set_cons_succ]
              refine wpAnyH_take (i := 10) (v := ?_) rfl (by kernel_rfl) (by kernel_rfl) (by kernel_rfl) (fun _ _ _ h => h) (Or.inl ⟨by rfl, ?_⟩) (by assumption) ?_
              rotate_left
              · (intro w hSw; (try dsimp only at hSw); go_simp); all_goals (with_reducible rfl)
              simp only [List.getElem_toArray, List.getElem_cons_succ, List.getElem_cons_zero, Act.put, List.setIfInBounds_toArray, List.set_cons_zero, List.set_cons_succ]
              refine wpAnyH_take (i := 11) (v := ?_) rfl (by kernel_rfl) (by kernel_rfl) (by kernel_rfl) (fun _ _ _ h => h) (Or.inl ⟨by rfl, ?_⟩) (by assumption) ?_
              rotate_left
              · (intro w hSw; (try dsimp only at hSw); go_simp); all_goals (with_reducible rfl)
              simp only [List.getElem_toArray, List.getElem_cons_succ, List.getElem_cons_zero, Act.put, List.setIfInBounds_toArray, List.set_cons_zero, List.set_cons_succ]
              have HFIN : Hid _ := sbox_set (c := #[]) hgb_6 O2.out.1.1 HI2.out O2.out.1.2 (.inl lgb)
              have bE := below_set4 b6 mgb (.slice va vk vc) (.string s) (.int .i64 n) (.slice ka kl kc)
              obtain ⟨q0, q1, q2, q3, qf⟩ := box4_cells hgb_6
              refine wpAnyH_ready (rs := [13]) (by kernel_rfl) (by simp) (AllReadyH.cons rfl (fun K hK => ?_) AllReadyH.nil)
              go_simp
              refine hK.out _ _ (HS.out _ bE) (fun hHeld => ?_)
              clear hK K q0 q1 q2 q3 qf
              refine wpAnyH_take (i := 14) (v := ?_) rfl (by kernel_rfl) (by kernel_rfl) (by kernel_rfl) (fun _ _ _ h => h) (Or.inl ⟨by rfl, ?_⟩) (by assumption) ?_
              rotate_left
              · (intro w hSw; (try dsimp only at hSw); go_simp); all_goals (with_reducible rfl)
              simp only [List.getElem_toArray, List.getElem_cons_succ, List.getElem_cons_zero, Act.put, List.setIfInBounds_toArray, List.set_cons_zero, List.set_cons_succ]
              refine wpAnyH_done (by kernel_rfl) ?_ _
              go_wp2_with fail
              go_meet
              exact ⟨_, rfl, rfl, HFIN, bE⟩
          ·
            go_simp
            obtain ⟨x3, hx3⟩ : ∃ x3, x3 = x2.alloc zeroS := ⟨_, rfl⟩
            have hc3 : Below x2.heap.size x2 x3 := by rw [hx3]; exact (Below.refl _ _).alloc (Nat.le_refl _) _
            have b3 := b2.trans (hc3.mono b2.size)
            obtain ⟨gb, hggb⟩ : ∃ gb, gb = x2.heap.size := ⟨_, rfl⟩
            have hgb_3 : x3.heap[gb]? = some zeroS := by rw [hx3, hggb]; exact World.alloc_heap_new x2 _
            have mgb : X.heap.size ≤ gb := by rw [hggb]; exact b2.size
            have hg1_3 := (hc3.block _ (Array.getElem?_eq_some_iff.1 hg1_2).1).trans hg1_2
            have o3 : OwnBds x3 X.heap.size v0 [] := o2.below hc3
            rw [← hx3, ← hggb]
            clear hx3 hggb hc3
            clear hg1_2 o2
            refine hK.out _ _ (HS.out _ b3) (fun hHeld => ?_)
            clear hK K
            refine wpAnyH_ready (rs := [2]) (by kernel_rfl) (by simp) (AllReadyH.cons rfl (fun K hK => ?_) AllReadyH.nil)
            refine step_app_bds (by rfl) _ _ (by rfl) X.heap.size v0 [] (by rfl) o3 _ cs (by rfl) (by first | exact (HSRC.out.below b3) | exact (HSRC.out.below b3)) (by have := HLEN.out; simp; omega) b3.size ?_
            intro v1 x4 o4 gr4 e4 d4
            have b4 := b3.trans d4
            rw [List.nil_append] at o4
            have hgb_4 := (gr4.block _ (Array.getElem?_eq_some_iff.1 hgb_3).1 (o3.ne hgb_3)).trans hgb_3
            have hg1_4 := (gr4.block _ (Array.getElem?_eq_some_iff.1 hg1_3).1 nb0).trans hg1_3
            have nb1 : some g1 ≠ v1.ownBlock := by
              rcases e4 with e | e
              · rw [e]; exact nb0
              · rw [e]; intro e2; have hlt := (Array.getElem?_eq_some_iff.1 hg1_3).1; simp at e2; omega
            clear gr4 e4 d4
            clear hgb_3 hg1_3 o3
            refine hK.out _ _ (HS.out _ b4) (fun hHeld => ?_)
            clear hK K
            refine wpAnyH_ready (rs := [5]) (by kernel_rfl) (by simp) (AllReadyH.cons rfl (fun K hK => ?_) AllReadyH.nil)
            refine step_app_bds (by rfl) _ _ (by rfl) X.heap.size v1 cs (by rfl) o4 _ [(.string (Em.str bd1.nm), .slice va1 vk1 vc1, .string s1, .int .i64 n1, .slice ka1 kl1 kc1)] (by rfl) (by first | exact (src_one5 hg1_4 HONE.out) | exact (src_one5 hg1_4 HONE.out)) (by have := HLEN.out; simp; omega) b4.size ?_
            intro v2 x5 o5 gr5 e5 d5
            have b5 := b4.trans d5
            have hgb_5 := (gr5.block _ (Array.getElem?_eq_some_iff.1 hgb_4).1 (o4.ne hgb_4)).trans hgb_4
            clear gr5 e5 d5
            clear hgb_4 hg1_4 o4
            obtain ⟨ra, rk, rc, hrf⟩ := o5.form
            subst hrf
            have HIB : Hid (IsBds x5 (.slice ra rk rc) (l ++ [bd1])) := o5.is (HARE.out.below b5)
            clear o5
            refine hK.out _ _ (HS.out _ b5) (fun hHeld => ?_)
            clear hK K
            refine wpAnyH_ready (rs := [8]) (by kernel_rfl) (by simp) (AllReadyH.cons rfl (fun K hK => ?_) AllReadyH.nil)
            go_simp
            go_at_call 11
            obtain ⟨lo, hlo⟩ : ∃ lo, lo = x5.heap.size := ⟨_, rfl⟩
            refine (sLook_any (l ++ [bd1]) ra rk rc bd1.nm HN.out x5 HIB.out HOKL.out).mono ?_
            rintro e x6 ⟨hc6, hls⟩
            obtain ⟨yy, va, vk, vc, s, n, ka, kl, kc, hyy, rfl, ho2, hi2, ht2⟩ := hls.resolve_right (fun h => by rw [HLB.out] at h; cases h.1)
            rw [HLB.out] at hyy
            cases hyy
            have b6 := b5.trans (hc6.mono b5.size)
            have lgb : gb < lo := by rw [hlo]; exact (Array.getElem?_eq_some_iff.1 hgb_5).1
            obtain ⟨hi, hhi⟩ : ∃ hi, hi = x6.heap.size := ⟨_, rfl⟩
            have HI2 : Hid (∀ y ∈ bd1.vs, Em5.I64 y) := hi2
            have O2 : Hid ((OwnInts x6 lo (.slice va vk vc) bd1.vs ∧ IsTyP (Btw lo hi) x6 bd1.ty (.agg #[.string s, .int .i64 n, .slice ka kl kc])) ∧ hi ≤ x6.heap.size) := by rw [Hid, hlo, hhi]; exact ⟨⟨ho2, isTyP_btw ht2⟩, Nat.le_refl _⟩
            clear ho2 hi2 ht2 hlo hhi
            have hgb_6 := (hc6.block _ (Array.getElem?_eq_some_iff.1 hgb_5).1).trans hgb_5
            clear hgb_5
            clear hc6
            (try dsimp only)
            refine hK.out _ _ (HS.out _ b6) (fun hHeld => ?_)
            clear hK K
            refine wpAnyH_take (i := 9) (v := ?_) rfl (by kernel_rfl) (by kernel_rfl) (by kernel_rfl) (fun _ _ _ h => h) (Or.inl ⟨by rfl, ?_⟩) (by assumption) ?_
            rotate_left
            · (intro w hSw; (try dsimp only at hSw); go_simp); all_goals (with_reducible rfl)
            simp only [List.getElem_toArray, List.getElem_cons_succ, List.getElem_cons_zero, Act.put, List.setIfInBounds_toArray, List.set_cons_zero, List.set_cons_succ]
            refine wpAnyH_take (i := 10) (v := ?_) rfl (by kernel_rfl) (by kernel_rfl) (by kernel_rfl) (fun _ _ _ h => h) (Or.inl ⟨by rfl, ?_⟩) (by assumption) ?_
            rotate_left
            · (intro w hSw; (try dsimp only at hSw); go_simp); all_goals (with_reducible rfl)
            simp only [List.getElem_toArray, List.getElem_cons_succ, List.getElem_cons_zero, Act.put, List.setIfInBounds_toArray, List.set_cons_zero, List.set_cons_succ]
            refine wpAnyH_take (i := 11) (v := ?_) rfl (by kernel_rfl) (by kernel_rfl) (by kernel_rfl) (fun _ _ _ h => h) (Or.inl ⟨by rfl, ?_⟩) (by assumption) ?_
            rotate_left
            · (intro w hSw; (try dsimp only at hSw); go_simp); all_goals (with_reducible rfl)
            simp only [List.getElem_toArray, List.getElem_cons_succ, List.getElem_cons_zero, Act.put, List.setIfInBounds_toArray, List.set_cons_zero, List.set_cons_succ]
            have HFIN : Hid _ := sbox_set (c := #[]) hgb_6 O2.out.1.1 HI2.out O2.out.1.2 (.inl lgb)
            have bE := below_set4 b6 mgb (.slice va vk vc) (.string s) (.int .i64 n) (.slice ka kl kc)
            obtain ⟨q0, q1, q2, q3, qf⟩ := box4_cells hgb_6
            refine wpAnyH_ready (rs := [13]) (by kernel_rfl) (by simp) (AllReadyH.cons rfl (fun K hK => ?_) AllReadyH.nil)
            go_simp
            refine hK.out _ _ (HS.out _ bE) (fun hHeld => ?_)
            clear hK K q0 q1 q2 q3 qf
            refine wpAnyH_take (i := 14) (v := ?_) rfl (by kernel_rfl) (by kernel_rfl) (by kernel_rfl) (fun _ _ _ h => h) (Or.inl ⟨by rfl, ?_⟩) (by assumption) ?_
            rotate_left
            · (intro w hSw; (try dsimp only at hSw); go_simp); all_goals (with_reducible rfl)
            simp only [List.getElem_toArray, List.getElem_cons_succ, List.getElem_cons_zero, Act.put, List.setIfInBounds_toArray, List.set_cons_zero, List.set_cons_succ]
            refine wpAnyH_done (by kernel_rfl) ?_ _
            go_wp2_with fail
            go_meet
            exact ⟨_, rfl, rfl, HFIN, bE⟩
        ·
          go_simp
          obtain ⟨x2, hx2⟩ : ∃ x2, x2 = x1.alloc zeroS := ⟨_, rfl⟩
          have hc2 : Below x1.heap.size x1 x2 := by rw [hx2]; exact (Below.refl _ _).alloc (Nat.le_refl _) _
          have b2 := b1.trans (hc2.mono b1.size)
          obtain ⟨gb, hggb⟩ : ∃ gb, gb = x1.heap.size := ⟨_, rfl⟩
          have hgb_2 : x2.heap[gb]? = some zeroS := by rw [hx2, hggb]; exact World.alloc_heap_new x1 _
          have mgb : X.heap.size ≤ gb := by rw [hggb]; exact b1.size
          have hg1_2 := (hc2.block _ (Array.getElem?_eq_some_iff.1 hg1_1).1).trans hg1_1
          rw [← hx2, ← hggb]
          clear hx2 hggb hc2
          clear hg1_1
          refine hK.out _ _ (HS.out _ b2) (fun hHeld => ?_)
          clear hK K
          refine wpAnyH_ready (rs := [0]) (by kernel_rfl) (by simp) (AllReadyH.cons rfl (fun K hK => ?_) AllReadyH.nil)
          go_simp
          obtain ⟨x3, hx3⟩ : ∃ x3, x3 = x2.alloc (.cells #[] 41) := ⟨_, rfl⟩
          have hc3 : Below x2.heap.size x2 x3 := by rw [hx3]; exact (Below.refl _ _).alloc (Nat.le_refl _) _
          have b3 := b2.trans (hc3.mono b2.size)
          have o3 : OwnBds x3 X.heap.size (.slice (some ⟨x2.heap.size, 0, none⟩) 0 0) [] := by rw [hx3]; exact own_empty5 x2 b2.size
          obtain ⟨v0, hv0⟩ : ∃ v0, v0 = (Value.slice (some ⟨x2.heap.size, 0, none⟩) 0 0) := ⟨_, rfl⟩
          have hgb_3 := (hc3.block _ (Array.getElem?_eq_some_iff.1 hgb_2).1).trans hgb_2
          have hg1_3 := (hc3.block _ (Array.getElem?_eq_some_iff.1 hg1_2).1).trans hg1_2
          have nb0 : some g1 ≠ v0.ownBlock := by rw [hv0]; intro e; have hlt := (Array.getElem?_eq_some_iff.1 hg1_2).1; simp [Value.ownBlock] at e; omega
          rw [← hx3, ← hv0]
          rw [← hv0] at o3
          clear hx3 hv0 hc3
          clear hgb_2 hg1_2
          refine hK.out _ _ (HS.out _ b3) (fun hHeld => ?_)
          clear hK K
          refine wpAnyH_ready (rs := [2]) (by kernel_rfl) (by simp) (AllReadyH.cons rfl (fun K hK => ?_) AllReadyH.nil)
          refine step_app_bds (by rfl) _ _ (by rfl) X.heap.size v0 [] (by rfl) o3 _ cs (by rfl) (by first | exact (HSRC.out.below b3) | exact (HSRC.out.below b3)) (by have := HLEN.out; simp; omega) b3.size ?_
          intro v1 x4 o4 gr4 e4 d4
          have b4 := b3.trans d4
          rw [List.nil_append] at o4
          have hgb_4 := (gr4.block _ (Array.getElem?_eq_some_iff.1 hgb_3).1 (o3.ne hgb_3)).trans hgb_3
          have hg1_4 := (gr4.block _ (Array.getElem?_eq_some_iff.1 hg1_3).1 nb0).trans hg1_3
          have nb1 : some g1 ≠ v1.ownBlock := by
            rcases e4 with e | e
            · rw [e]; exact nb0
            · rw [e]; intro e2; have hlt := (Array.getElem?_eq_some_iff.1 hg1_3).1; simp at e2; omega
          clear gr4 e4 d4
          clear hgb_3 hg1_3 o3
          refine hK.out _ _ (HS.out _ b4) (fun hHeld => ?_)
          clear hK K
          refine wpAnyH_ready (rs := [5]) (by kernel_rfl) (by simp) (AllReadyH.cons rfl (fun K hK => ?_) AllReadyH.nil)
          refine step_app_bds (by rfl) _ _ (by rfl) X.heap.size v1 cs (by rfl) o4 _ [(.string (Em.str bd1.nm), .slice va1 vk1 vc1, .string s1, .int .i64 n1, .slice ka1 kl1 kc1)] (by rfl) (by first | exact (src_one5 hg1_4 HONE.out) | exact (src_one5 hg1_4 HONE.out)) (by have := HLEN.out; simp; omega) b4.size ?_
          intro v2 x5 o5 gr5 e5 d5
          have b5 := b4.trans d5
          have hgb_5 := (gr5.block _ (Array.getElem?_eq_some_iff.1 hgb_4).1 (o4.ne hgb_4)).trans hgb_4
          clear gr5 e5 d5
          clear hgb_4 hg1_4 o4
          obtain ⟨ra, rk, rc, hrf⟩ := o5.form
          subst hrf
          have HIB : Hid (IsBds x5 (.slice ra rk rc) (l ++ [bd1])) := o5.is (HARE.out.below b5)
          clear o5
          refine hK.out _ _ (HS.out _ b5) (fun hHeld => ?_)
          clear hK K
          refine wpAnyH_ready (rs := [8]) (by kernel_rfl) (by simp) (AllReadyH.cons rfl (fun K hK => ?_) AllReadyH.nil)
          go_simp
          go_at_call 11
          obtain ⟨lo, hlo⟩ : ∃ lo, lo = x5.heap.size := ⟨_, rfl⟩
          refine (sLook_any (l ++ [bd1]) ra rk rc bd1.nm HN.out x5 HIB.out HOKL.out).mono ?_
          rintro e x6 ⟨hc6, hls⟩
          obtain ⟨yy, va, vk, vc, s, n, ka, kl, kc, hyy, rfl, ho2, hi2, ht2⟩ := hls.resolve_right (fun h => by rw [HLB.out] at h; cases h.1)
          rw [HLB.out] at hyy
          cases hyy
          have b6 := b5.trans (hc6.mono b5.size)
          have lgb : gb < lo := by rw [hlo]; exact (Array.getElem?_eq_some_iff.1 hgb_5).1
          obtain ⟨hi, hhi⟩ : ∃ hi, hi = x6.heap.size := ⟨_, rfl⟩
          have HI2 : Hid (∀ y ∈ bd1.vs, Em5.I64 y) := hi2
          have O2 : Hid ((OwnInts x6 lo (.slice va vk vc) bd1.vs ∧ IsTyP (Btw lo hi) x6 bd1.ty (.agg #[.string s, .int .i64 n, .slice ka kl kc])) ∧ hi ≤ x6.heap.size) := by rw [Hid, hlo, hhi]; exact ⟨⟨ho2, isTyP_btw ht2⟩, Nat.le_refl _⟩
          clear ho2 hi2 ht2 hlo hhi
          have hgb_6 := (hc6.block _ (Array.getElem?_eq_some_iff.1 hgb_5).1).trans hgb_5
          clear hgb_5
          clear hc6
          (try dsimp only)
          refine hK.out _ _ (HS.out _ b6) (fun hHeld => ?_)
          clear hK K
          refine wpAnyH_take (i := 9) (v := ?_) rfl (by kernel_rfl) (by kernel_rfl) (by kernel_rfl) (fun _ _ _ h => h) (Or.inl ⟨by rfl, ?_⟩) (by assumption) ?_
          rotate_left
          · (intro w hSw; (try dsimp only at hSw); go_simp); all_goals (with_reducible rfl)
          simp only [List.getElem_toArray, List.getElem_cons_succ, List.getElem_cons_zero, Act.put, List.setIfInBounds_toArray, List.set_cons_zero, List.set_cons_succ]
          refine wpAnyH_take (i := 10) (v := ?_) rfl (by kernel_rfl) (by kernel_rfl) (by kernel_rfl) (fun _ _ _ h => h) (Or.inl ⟨by rfl, ?_⟩) (by assumption) ?_
          rotate_left
          · (intro w hSw; (try dsimp only at hSw); go_simp); all_goals (with_reducible rfl)
          simp only [List.getElem_toArray, List.getElem_cons_succ, List.getElem_cons_zero, Act.put, List.setIfInBounds_toArray, List.set_cons_zero, List.set_cons_succ]
          refine wpAnyH_take (i := 11) (v := ?_) rfl (by kernel_rfl) (by kernel_rfl) (by kernel_rfl) (fun _ _ _ h => h) (Or.inl ⟨by rfl, ?_⟩) (by assumption) ?_
          rotate_left
          · (intro w hSw; (try dsimp only at hSw); go_simp); all_goals (with_reducible rfl)
          simp only [List.getElem_toArray, List.getElem_cons_succ, List.getElem_cons_zero, Act.put, List.setIfInBounds_toArray, List.set_cons_zero, List.set_cons_succ]
          have HFIN : Hid _ := sbox_set (c := #[]) hgb_6 O2.out.1.1 HI2.out O2.out.1.2 (.inl lgb)
          have bE := below_set4 b6 mgb (.slice va vk vc) (.string s) (.int .i64 n) (.slice ka kl kc)
          obtain ⟨q0, q1, q2, q3, qf⟩ := box4_cells hgb_6
          refine wpAnyH_ready (rs := [13]) (by kernel_rfl) (by simp) (AllReadyH.cons rfl (fun K hK => ?_) AllReadyH.nil)
          go_simp
          refine hK.out _ _ (HS.out _ bE) (fun hHeld => ?_)
          clear hK K q0 q1 q2 q3 qf
          refine wpAnyH_take (i := 14) (v := ?_) rfl (by kernel_rfl) (by kernel_rfl) (by kernel_rfl) (fun _ _ _ h => h) (Or.inl ⟨by rfl, ?_⟩) (by assumption) ?_
          rotate_left
          · (intro w hSw; (try dsimp only at hSw); go_simp); all_goals (with_reducible rfl)
          simp only [List.getElem_toArray, List.getElem_cons_succ, List.getElem_cons_zero, Act.put, List.setIfInBounds_toArray, List.set_cons_zero, List.set_cons_succ]
          refine wpAnyH_done (by kernel_rfl) ?_ _
          go_wp2_with fail
          go_meet
          exact ⟨_, rfl, rfl, HFIN, bE⟩
      ·
        go_simp
        obtain ⟨x1, hx1⟩ : ∃ x1, x1 = x0.alloc zeroS := ⟨_, rfl⟩
        have hc1 : Below x0.heap.size x0 x1 := by rw [hx1]; exact (Below.refl _ _).alloc (Nat.le_refl _) _
        have b1 := b0.trans (hc1.mono b0.size)
        obtain ⟨gb, hggb⟩ : ∃ gb, gb = x0.heap.size := ⟨_, rfl⟩
        have hgb_1 : x1.heap[gb]? = some zeroS := by rw [hx1, hggb]; exact World.alloc_heap_new x0 _
        have mgb : X.heap.size ≤ gb := by rw [hggb]; exact b0.size
        rw [← hx1, ← hggb]
        clear hx1 hggb hc1
        refine hK.out _ _ (HS.out _ b1) (fun hHeld => ?_)
        clear hK K
        refine wpAnyH_ready (rs := [0, 4]) (by kernel_rfl) (by simp) (AllReadyH.cons rfl (fun K hK => ?_) (AllReadyH.cons rfl (fun K hK => ?_) AllReadyH.nil))
        ·
          go_simp
          obtain ⟨x2, hx2⟩ : ∃ x2, x2 = x1.alloc (.cells #[] 41) := ⟨_, rfl⟩
          have hc2 : Below x1.heap.size x1 x2 := by rw [hx2]; exact (Below.refl _ _).alloc (Nat.le_refl _) _
          have b2 := b1.trans (hc2.mono b1.size)
          have o2 : OwnBds x2 X.heap.size (.slice (some ⟨x1.heap.size, 0, none⟩) 0 0) [] := by rw [hx2]; exact own_empty5 x1 b1.size
          obtain ⟨v0, hv0⟩ : ∃ v0, v0 = (Value.slice (some ⟨x1.heap.size, 0, none⟩) 0 0) := ⟨_, rfl⟩
          have hgb_2 := (hc2.block _ (Array.getElem?_eq_some_iff.1 hgb_1).1).trans hgb_1
          rw [← hx2, ← hv0]
          rw [← hv0] at o2
          clear hx2 hv0 hc2
          clear hgb_1
          refine hK.out _ _ (HS.out _ b2) (fun hHeld => ?_)
          clear hK K
          refine wpAnyH_ready (rs := [2, 4]) (by kernel_rfl) (by simp) (AllReadyH.cons rfl (fun K hK => ?_) (AllReadyH.cons rfl (fun K hK => ?_) AllReadyH.nil))
          ·
            refine step_app_bds (by rfl) _ _ (by rfl) X.heap.size v0 [] (by rfl) o2 _ cs (by rfl) (by first | exact (HSRC.out.below b2) | exact (HSRC.out.below b2)) (by have := HLEN.out; simp; omega) b2.size ?_
            intro v1 x3 o3 gr3 e3 d3
            have b3 := b2.trans d3
            rw [List.nil_append] at o3
            have hgb_3 := (gr3.block _ (Array.getElem?_eq_some_iff.1 hgb_2).1 (o2.ne hgb_2)).trans hgb_2
            clear gr3 e3 d3
            clear hgb_2 o2
            refine hK.out _ _ (HS.out _ b3) (fun hHeld => ?_)
            clear hK K
            refine wpAnyH_ready (rs := [4]) (by kernel_rfl) (by simp) (AllReadyH.cons rfl (fun K hK => ?_) AllReadyH.nil)
            go_simp
            obtain ⟨x4, hx4⟩ : ∃ x4, x4 = x3.alloc (.cells #[.string (Em.str bd1.nm), .slice va1 vk1 vc1, .string s1, .int .i64 n1, .slice ka1 kl1 kc1] 41) := ⟨_, rfl⟩
            have hc4 : Below x3.heap.size x3 x4 := by rw [hx4]; exact (Below.refl _ _).alloc (Nat.le_refl _) _
            have b4 := b3.trans (hc4.mono b3.size)
            obtain ⟨g1, hg1⟩ : ∃ g1, g1 = x3.heap.size := ⟨_, rfl⟩
            have hg1_4 : x4.heap[g1]? = some (.cells #[.string (Em.str bd1.nm), .slice va1 vk1 vc1, .string s1, .int .i64 n1, .slice ka1 kl1 kc1] 41 (0, 0)) := by rw [hx4, hg1]; exact World.alloc_heap_new x3 _
            have hgb_4 := (hc4.block _ (Array.getElem?_eq_some_iff.1 hgb_3).1).trans hgb_3
            have o4 : OwnBds x4 X.heap.size v1 cs := o3.below hc4
            have nb1 : some g1 ≠ v1.ownBlock := by
              intro e
              have := (World.ownsRow.lt (show x3.ownsRow X.heap.size 41 5 v1 _ (flat5 cs) from o3) g1 e.symm).2
              omega
            rw [← hx4, ← hg1]
            clear hx4 hg1 hc4
            clear hgb_3 o3
            refine hK.out _ _ (HS.out _ b4) (fun hHeld => ?_)
            clear hK K
            refine wpAnyH_ready (rs := [5]) (by kernel_rfl) (by simp) (AllReadyH.cons rfl (fun K hK => ?_) AllReadyH.nil)
            refine step_app_bds (by rfl) _ _ (by rfl) X.heap.size v1 cs (by rfl) o4 _ [(.string (Em.str bd1.nm), .slice va1 vk1 vc1, .string s1, .int .i64 n1, .slice ka1 kl1 kc1)] (by rfl) (by first | exact (src_one5 hg1_4 HONE.out) | exact (src_one5 hg1_4 HONE.out)) (by have := HLEN.out; simp; omega) b4.size ?_
            intro v2 x5 o5 gr5 e5 d5
            have b5 := b4.trans d5
            have hgb_5 := (gr5.block _ (Array.getElem?_eq_some_iff.1 hgb_4).1 (o4.ne hgb_4)).trans hgb_4
            clear gr5 e5 d5
            clear hgb_4 hg1_4 o4
            obtain ⟨ra, rk, rc, hrf⟩ := o5.form
            subst hrf
            have HIB : Hid (IsBds x5 (.slice ra rk rc) (l ++ [bd1])) := o5.is (HARE.out.below b5)
            clear o5
            refine hK.out _ _ (HS.out _ b5) (fun hHeld => ?_)
            clear hK K
            refine wpAnyH_ready (rs := [8]) (by kernel_rfl) (by simp) (AllReadyH.cons rfl (fun K hK => ?_) AllReadyH.nil)
            go_simp
            go_at_call 11
            obtain ⟨lo, hlo⟩ : ∃ lo, lo = x5.heap.size := ⟨_, rfl⟩
            refine (sLook_any (l ++ [bd1]) ra rk rc bd1.nm HN.out x5 HIB.out HOKL.out).mono ?_
            rintro e x6 ⟨hc6, hls⟩
            obtain ⟨yy, va, vk, vc, s, n, ka, kl, kc, hyy, rfl, ho2, hi2, ht2⟩ := hls.resolve_right (fun h => by rw [HLB.out] at h; cases h.1)
            rw [HLB.out] at hyy
            cases hyy
            have b6 := b5.trans (hc6.mono b5.size)
            have lgb : gb < lo := by rw [hlo]; exact (Array.getElem?_eq_some_iff.1 hgb_5).1
            obtain ⟨hi, hhi⟩ : ∃ hi, hi = x6.heap.size := ⟨_, rfl⟩
            have HI2 : Hid (∀ y ∈ bd1.vs, Em5.I64 y) := hi2
            have O2 : Hid ((OwnInts x6 lo (.slice va vk vc) bd1.vs ∧ IsTyP (Btw lo hi) x6 bd1.ty (.agg #[.string s, .int .i64 n, .slice ka kl kc])) ∧ hi ≤ x6.heap.size) := by rw [Hid, hlo, hhi]; exact ⟨⟨ho2, isTyP_btw ht2⟩, Nat.le_refl _⟩
            clear ho2 hi2 ht2 hlo hhi
            have hgb_6 := (hc6.block _ (Array.getElem?_eq_some_iff.1 hgb_5).1).trans hgb_5
            clear hgb_5
            clear hc6
            (try dsimp only)
            refine hK.out _ _ (HS.out _ b6) (fun hHeld => ?_)
            clear hK K
            refine wpAnyH_take (i := 9) (v := ?_) rfl (by kernel_rfl) (by kernel_rfl) (by kernel_rfl) (fun _ _ _ h => h) (Or.inl ⟨by rfl, ?_⟩) (by assumption) ?_
            rotate_left
            · (intro w hSw; (try dsimp only at hSw); go_simp); all_goals (with_reducible rfl)
            simp only [List.getElem_toArray, List.getElem_cons_succ, List.getElem_cons_zero, Act.put, List.setIfInBounds_toArray, List.set_cons_zero, List.set_cons_succ]
            refine wpAnyH_take (i := 10) (v := ?_) rfl (by kernel_rfl) (by kernel_rfl) (by kernel_rfl) (fun _ _ _ h => h) (Or.inl ⟨by rfl, ?_⟩) (by assumption) ?_
            rotate_left
            · (intro w hSw; (try dsimp only at hSw); go_simp); all_goals (with_reducible rfl)
            simp only [List.getElem_toArray, List.getElem_cons_succ, List.getElem_cons_zero, Act.put, List.setIfInBounds_toArray, List.set_cons_zero, List.set_cons_succ]
            refine wpAnyH_take (i := 11) (v := ?_) rfl (by kernel_rfl) (by kernel_rfl) (by kernel_rfl) (fun _ _ _ h => h) (Or.inl ⟨by rfl, ?_⟩) (by assumption) ?_
            rotate_left
            · (intro w hSw; (try dsimp only at hSw); go_simp); all_goals (with_reducible rfl)
            simp only [List.getElem_toArray, List.getElem_cons_succ, List.getElem_cons_zero, Act.put, List.setIfInBounds_toArray, List.set_cons_zero, List.set_cons_succ]
            have HFIN : Hid _ := sbox_set (c := #[]) hgb_6 O2.out.1.1 HI2.out O2.out.1.2 (.inl lgb)
            have bE := below_set4 b6 mgb (.slice va vk vc) (.string s) (.int .i64 n) (.slice ka kl kc)
            obtain ⟨q0, q1, q2, q3, qf⟩ := box4_cells hgb_6
            refine wpAnyH_ready (rs := [13]) (by kernel_rfl) (by simp) (AllReadyH.cons rfl (fun K hK => ?_) AllReadyH.nil)
            go_simp
            refine hK.out _ _ (HS.out _ bE) (fun hHeld => ?_)
            clear hK K q0 q1 q2 q3 qf
            refine wpAnyH_take (i := 14) (v := ?_) rfl (by kernel_rfl) (by kernel_rfl) (by kernel_rfl) (fun _ _ _ h => h) (Or.inl ⟨by rfl, ?_⟩) (by assumption) ?_
            rotate_left
            · (intro w hSw; (try dsimp only at hSw); go_simp); all_goals (with_reducible rfl)
            simp only [List.getElem_toArray, List.getElem_cons_succ, List.getElem_cons_zero, Act.put, List.setIfInBounds_toArray, List.set_cons_zero, List.set_cons_succ]
            refine wpAnyH_done (by kernel_rfl) ?_ _
            go_wp2_with fail
            go_meet
            exact ⟨_, rfl, rfl, HFIN, bE⟩
          ·
            go_simp
            obtain ⟨x3, hx3⟩ : ∃ x3, x3 = x2.alloc (.cells #[.string (Em.str bd1.nm), .slice va1 vk1 vc1, .string s1, .int .i64 n1, .slice ka1 kl1 kc1] 41) := ⟨_, rfl⟩
            have hc3 : Below x2.heap.size x2 x3 := by rw [hx3]; exact (Below.refl _ _).alloc (Nat.le_refl _) _
            have b3 := b2.trans (hc3.mono b2.size)
            obtain ⟨g1, hg1⟩ : ∃ g1, g1 = x2.heap.size := ⟨_, rfl⟩
            have hg1_3 : x3.heap[g1]? = some (.cells #[.string (Em.str bd1.nm), .slice va1 vk1 vc1, .string s1, .int .i64 n1, .slice ka1 kl1 kc1] 41 (0, 0)) := by rw [hx3, hg1]; exact World.alloc_heap_new x2 _
            have hgb_3 := (hc3.block _ (Array.getElem?_eq_some_iff.1 hgb_2).1).trans hgb_2
            have o3 : OwnBds x3 X.heap.size v0 [] := o2.below hc3
            have nb0 : some g1 ≠ v0.ownBlock := by
              intro e
              have := (World.ownsRow.lt (show x2.ownsRow X.heap.size 41 5 v0 _ (flat5 []) from o2) g1 e.symm).2
              omega
            rw [← hx3, ← hg1]
            clear hx3 hg1 hc3
            clear hgb_2 o2
            refine hK.out _ _ (HS.out _ b3) (fun hHeld => ?_)
            clear hK K
            refine wpAnyH_ready (rs := [2]) (by kernel_rfl) (by simp) (AllReadyH.cons rfl (fun K hK => ?_) AllReadyH.nil)
            refine step_app_bds (by rfl) _ _ (by rfl) X.heap.size v0 [] (by rfl) o3 _ cs (by rfl) (by first | exact (HSRC.out.below b3) | exact (HSRC.out.below b3)) (by have := HLEN.out; simp; omega) b3.size ?_
            intro v1 x4 o4 gr4 e4 d4
            have b4 := b3.trans d4
            rw [List.nil_append] at o4
            have hgb_4 := (gr4.block _ (Array.getElem?_eq_some_iff.1 hgb_3).1 (o3.ne hgb_3)).trans hgb_3
            have hg1_4 := (gr4.block _ (Array.getElem?_eq_some_iff.1 hg1_3).1 nb0).trans hg1_3
            have nb1 : some g1 ≠ v1.ownBlock := by
              rcases e4 with e | e
              · rw [e]; exact nb0
              · rw [e]; intro e2; have hlt := (Array.getElem?_eq_some_iff.1 hg1_3).1; simp at e2; omega
            clear gr4 e4 d4
            clear hgb_3 hg1_3 o3
            refine hK.out _ _ (HS.out _ b4) (fun hHeld => ?_)
            clear hK K
            refine wpAnyH_ready (rs := [5]) (by kernel_rfl) (by simp) (AllReadyH.cons rfl (fun K hK => ?_) AllReadyH.nil)
            refine step_app_bds (by rfl) _ _ (by rfl) X.heap.size v1 cs (by rfl) o4 _ [(.string (Em.str bd1.nm), .slice va1 vk1 vc1, .string s1, .int .i64 n1, .slice ka1 kl1 kc1)] (by rfl) (by first | exact (src_one5 hg1_4 HONE.out) | exact (src_one5 hg1_4 HONE.out)) (by have := HLEN.out; simp; omega) b4.size ?_
            intro v2 x5 o5 gr5 e5 d5
            have b5 := b4.trans d5
            have hgb_5 := (gr5.block _ (Array.getElem?_eq_some_iff.1 hgb_4).1 (o4.ne hgb_4)).trans hgb_4
            clear gr5 e5 d5
            clear hgb_4 hg1_4 o4
            obtain ⟨ra, rk, rc, hrf⟩ := o5.form
            subst hrf
            have HIB : Hid (IsBds x5 (.slice ra rk rc) (l ++ [bd1])) := o5.is (HARE.out.below b5)
            clear o5
            refine hK.out _ _ (HS.out _ b5) (fun hHeld => ?_)
            clear hK K
            refine wpAnyH_ready (rs := [8]) (by kernel_rfl) (by simp) (AllReadyH.cons rfl (fun K hK => ?_) AllReadyH.nil)
            go_simp
            go_at_call 11
            obtain ⟨lo, hlo⟩ : ∃ lo, lo = x5.heap.size := ⟨_, rfl⟩
            refine (sLook_any (l ++ [bd1]) ra rk rc bd1.nm HN.out x5 HIB.out HOKL.out).mono ?_
            rintro e x6 ⟨hc6, hls⟩
            obtain ⟨yy, va, vk, vc, s, n, ka, kl, kc, hyy, rfl, ho2, hi2, ht2⟩ := hls.resolve_right (fun h => by rw [HLB.out] at h; cases h.1)
            rw [HLB.out] at hyy
            cases hyy
            have b6 := b5.trans (hc6.mono b5.size)
            have lgb : gb < lo := by rw [hlo]; exact (Array.getElem?_eq_some_iff.1 hgb_5).1
            obtain ⟨hi, hhi⟩ : ∃ hi, hi = x6.heap.size := ⟨_, rfl⟩
            have HI2 : Hid (∀ y ∈ bd1.vs, Em5.I64 y) := hi2
            have O2 : Hid ((OwnInts x6 lo (.slice va vk vc) bd1.vs ∧ IsTyP (Btw lo hi) x6 bd1.ty (.agg #[.string s, .int .i64 n, .slice ka kl kc])) ∧ hi ≤ x6.heap.size) := by rw [Hid, hlo, hhi]; exact ⟨⟨ho2, isTyP_btw ht2⟩, Nat.le_refl _⟩
            clear ho2 hi2 ht2 hlo hhi
            have hgb_6 := (hc6.block _ (Array.getElem?_eq_some_iff.1 hgb_5).1).trans hgb_5
            clear hgb_5
            clear hc6
            (try dsimp only)
            refine hK.out _ _ (HS.out _ b6) (fun hHeld => ?_)
            clear hK K
            refine wpAnyH_take (i := 9) (v := ?_) rfl (by kernel_rfl) (by kernel_rfl) (by kernel_rfl) (fun _ _ _ h => h) (Or.inl ⟨by rfl, ?_⟩) (by assumption) ?_
            rotate_left
            · (intro w hSw; (try dsimp only at hSw); go_simp); all_goals (with_reducible rfl)
            simp only [List.getElem_toArray, List.getElem_cons_succ, List.getElem_cons_zero, Act.put, List.setIfInBounds_toArray, List.set_cons_zero, List.set_cons_succ]
            refine wpAnyH_take (i := 10) (v := ?_) rfl (by kernel_rfl) (by kernel_rfl) (by kernel_rfl) (fun _ _ _ h => h) (Or.inl ⟨by rfl, ?_⟩) (by assumption) ?_
            rotate_left
            · (intro w hSw; (try dsimp only at hSw); go_simp); all_goals (with_reducible rfl)
            simp only [List.getElem_toArray, List.getElem_cons_succ, List.getElem_cons_zero, Act.put, List.setIfInBounds_toArray, List.set_cons_zero, List.set_cons_succ]
            refine wpAnyH_take (i := 11) (v := ?_) rfl (by kernel_rfl) (by kernel_rfl) (by kernel_rfl) (fun _ _ _ h => h) (Or.inl ⟨by rfl, ?_⟩) (by assumption) ?_
            rotate_left
            · (intro w hSw; (try dsimp only at hSw); go_simp); all_goals (with_reducible rfl)
            simp only [List.getElem_toArray, List.getElem_cons_succ, List.getElem_cons_zero, Act.put, List.setIfInBounds_toArray, List.set_cons_zero, List.set_cons_succ]
            have HFIN : Hid _ := sbox_set (c := #[]) hgb_6 O2.out.1.1 HI2.out O2.out.1.2 (.inl lgb)
            have bE := below_set4 b6 mgb (.slice va vk vc) (.string s) (.int .i64 n) (.slice ka kl kc)
            obtain ⟨q0, q1, q2, q3, qf⟩ := box4_cells hgb_6
            refine wpAnyH_ready (rs := [13]) (by kernel_rfl) (by simp) (AllReadyH.cons rfl (fun K hK => ?_) AllReadyH.nil)
            go_simp
            refine hK.out _ _ (HS.out _ bE) (fun hHeld => ?_)
            clear hK K q0 q1 q2 q3 qf
            refine wpAnyH_take (i := 14) (v := ?_) rfl (by kernel_rfl) (by kernel_rfl) (by kernel_rfl) (fun _ _ _ h => h) (Or.inl ⟨by rfl, ?_⟩) (by assumption) ?_
            rotate_left
            · (intro w hSw; (try dsimp only at hSw); go_simp); all_goals (with_reducible rfl)
            simp only [List.getElem_toArray, List.getElem_cons_succ, List.getElem_cons_zero, Act.put, List.setIfInBounds_toArray, List.set_cons_zero, List.set_cons_succ]
            refine wpAnyH_done (by kernel_rfl) ?_ _
            go_wp2_with fail
            go_meet
            exact ⟨_, rfl, rfl, HFIN, bE⟩
        ·
          go_simp
          obtain ⟨x2, hx2⟩ : ∃ x2, x2 = x1.alloc (.cells #[.string (Em.str bd1.nm), .slice va1 vk1 vc1, .string s1, .int .i64 n1, .slice ka1 kl1 kc1] 41) := ⟨_, rfl⟩
          have hc2 : Below x1.heap.size x1 x2 := by rw [hx2]; exact (Below.refl _ _).alloc (Nat.le_refl _) _
          have b2 := b1.trans (hc2.mono b1.size)
          obtain ⟨g1, hg1⟩ : ∃ g1, g1 = x1.heap.size := ⟨_, rfl⟩
          have hg1_2 : x2.heap[g1]? = some (.cells #[.string (Em.str bd1.nm), .slice va1 vk1 vc1, .string s1, .int .i64 n1, .slice ka1 kl1 kc1] 41 (0, 0)) := by rw [hx2, hg1]; exact World.alloc_heap_new x1 _
          have hgb_2 := (hc2.block _ (Array.getElem?_eq_some_iff.1 hgb_1).1).trans hgb_1
          rw [← hx2, ← hg1]
          clear hx2 hg1 hc2
          clear hgb_1
          refine hK.out _ _ (HS.out _ b2) (fun hHeld => ?_)
          clear hK K
          refine wpAnyH_ready (rs := [0]) (by kernel_rfl) (by simp) (AllReadyH.cons rfl (fun K hK => ?_) AllReadyH.nil)
          go_simp
          obtain ⟨x3, hx3⟩ : ∃ x3, x3 = x2.alloc (.cells #[] 41) := ⟨_, rfl⟩
          have hc3 : Below x2.heap.size x2 x3 := by rw [hx3]; exact (Below.refl _ _).alloc (Nat.le_refl _) _
          have b3 := b2.trans (hc3.mono b2.size)
          have o3 : OwnBds x3 X.heap.size (.slice (some ⟨x2.heap.size, 0, none⟩) 0 0) [] := by rw [hx3]; exact own_empty5 x2 b2.size
          obtain ⟨v0, hv0⟩ : ∃ v0, v0 = (Value.slice (some ⟨x2.heap.size, 0, none⟩) 0 0) := ⟨_, rfl⟩
          have hgb_3 := (hc3.block _ (Array.getElem?_eq_some_iff.1 hgb_2).1).trans hgb_2
          have hg1_3 := (hc3.block _ (Array.getElem?_eq_some_iff.1 hg1_2).1).trans hg1_2
          have nb0 : some g1 ≠ v0.ownBlock := by rw [hv0]; intro e; have hlt := (Array.getElem?_eq_some_iff.1 hg1_2).1; simp [Value.ownBlock] at e; omega
          rw [← hx3, ← hv0]
          rw [← hv0] at o3
          clear hx3 hv0 hc3
          clear hgb_2 hg1_2
          refine hK.out _ _ (HS.out _ b3) (fun hHeld => ?_)
          clear hK K
          refine wpAnyH_ready (rs := [2]) (by kernel_rfl) (by simp) (AllReadyH.cons rfl (fun K hK => ?_) AllReadyH.nil)
          refine step_app_bds (by rfl) _ _ (by rfl) X.heap.size v0 [] (by rfl) o3 _ cs (by rfl) (by first | exact (HSRC.out.below b3) | exact (HSRC.out.below b3)) (by have := HLEN.out; simp; omega) b3.size ?_
          intro v1 x4 o4 gr4 e4 d4
          have b4 := b3.trans d4
          rw [List.nil_append] at o4
          have hgb_4 := (gr4.block _ (Array.getElem?_eq_some_iff.1 hgb_3).1 (o3.ne hgb_3)).trans hgb_3
          have hg1_4 := (gr4.block _ (Array.getElem?_eq_some_iff.1 hg1_3).1 nb0).trans hg1_3
          have nb1 : some g1 ≠ v1.ownBlock := by
            rcases e4 with e | e
            · rw [e]; exact nb0
            · rw [e]; intro e2; have hlt := (Array.getElem?_eq_some_iff.1 hg1_3).1; simp at e2; omega
          clear gr4 e4 d4
          clear hgb_3 hg1_3 o3
          refine hK.out _ _ (HS.out _ b4) (fun hHeld => ?_)
          clear hK K
          refine wpAnyH_ready (rs := [5]) (by kernel_rfl) (by simp) (AllReadyH.cons rfl (fun K hK => ?_) AllReadyH.nil)
          refine step_app_bds (by rfl) _ _ (by rfl) X.heap.size v1 cs (by rfl) o4 _ [(.string (Em.str bd1.nm), .slice va1 vk1 vc1, .string s1, .int .i64 n1, .slice ka1 kl1 kc1)] (by rfl) (by first | exact (src_one5 hg1_4 HONE.out) | exact (src_one5 hg1_4 HONE.out)) (by have := HLEN.out; simp; omega) b4.size ?_
          intro v2 x5 o5 gr5 e5 d5
          have b5 := b4.trans d5
          have hgb_5 := (gr5.block _ (Array.getElem?_eq_some_iff.1 hgb_4).1 (o4.ne hgb_4)).trans hgb_4
          clear gr5 e5 d5
          clear hgb_4 hg1_4 o4
          obtain ⟨ra, rk, rc, hrf⟩ := o5.form
          subst hrf
          have HIB : Hid (IsBds x5 (.slice ra rk rc) (l ++ [bd1])) := o5.is (HARE.out.below b5)
          clear o5
          refine hK.out _ _ (HS.out _ b5) (fun hHeld => ?_)
          clear hK K
          refine wpAnyH_ready (rs := [8]) (by kernel_rfl) (by simp) (AllReadyH.cons rfl (fun K hK => ?_) AllReadyH.nil)
          go_simp
          go_at_call 11
          obtain ⟨lo, hlo⟩ : ∃ lo, lo = x5.heap.size := ⟨_, rfl⟩
          refine (sLook_any (l ++ [bd1]) ra rk rc bd1.nm HN.out x5 HIB.out HOKL.out).mono ?_
          rintro e x6 ⟨hc6, hls⟩
          obtain ⟨yy, va, vk, vc, s, n, ka, kl, kc, hyy, rfl, ho2, hi2, ht2⟩ := hls.resolve_right (fun h => by rw [HLB.out] at h; cases h.1)
          rw [HLB.out] at hyy
          cases hyy
          have b6 := b5.trans (hc6.mono b5.size)
          have lgb : gb < lo := by rw [hlo]; exact (Array.getElem?_eq_some_iff.1 hgb_5).1
          obtain ⟨hi, hhi⟩ : ∃ hi, hi = x6.heap.size := ⟨_, rfl⟩
          have HI2 : Hid (∀ y ∈ bd1.vs, Em5.I64 y) := hi2
          have O2 : Hid ((OwnInts x6 lo (.slice va vk vc) bd1.vs ∧ IsTyP (Btw lo hi) x6 bd1.ty (.agg #[.string s, .int .i64 n, .slice ka kl kc])) ∧ hi ≤ x6.heap.size) := by rw [Hid, hlo, hhi]; exact ⟨⟨ho2, isTyP_btw ht2⟩, Nat.le_refl _⟩
          clear ho2 hi2 ht2 hlo hhi
          have hgb_6 := (hc6.block _ (Array.getElem?_eq_some_iff.1 hgb_5).1).trans hgb_5
          clear hgb_5
          clear hc6
          (try dsimp only)
          refine hK.out _ _ (HS.out _ b6) (fun hHeld => ?_)
          clear hK K
          refine wpAnyH_take (i := 9) (v := ?_) rfl (by kernel_rfl) (by kernel_rfl) (by kernel_rfl) (fun _ _ _ h => h) (Or.inl ⟨by rfl, ?_⟩) (by assumption) ?_
          rotate_left
          · (intro w hSw; (try dsimp only at hSw); go_simp); all_goals (with_reducible rfl)
          simp only [List.getElem_toArray, List.getElem_cons_succ, List.getElem_cons_zero, Act.put, List.setIfInBounds_toArray, List.set_cons_zero, List.set_cons_succ]
          refine wpAnyH_take (i := 10) (v := ?_) rfl (by kernel_rfl) (by kernel_rfl) (by kernel_rfl) (fun _ _ _ h => h) (Or.inl ⟨by rfl, ?_⟩) (by assumption) ?_
          rotate_left
          · (intro w hSw; (try dsimp only at hSw); go_simp); all_goals (with_reducible rfl)
          simp only [List.getElem_toArray, List.getElem_cons_succ, List.getElem_cons_zero, Act.put, List.setIfInBounds_toArray, List.set_cons_zero, List.set_cons_succ]
          refine wpAnyH_take (i := 11) (v := ?_) rfl (by kernel_rfl) (by kernel_rfl) (by kernel_rfl) (fun _ _ _ h => h) (Or.inl ⟨by rfl, ?_⟩) (by assumption) ?_
          rotate_left
          · (intro w hSw; (try dsimp only at hSw); go_simp); all_goals (with_reducible rfl)
          simp only [List.getElem_toArray, List.getElem_cons_succ, List.getElem_cons_zero, Act.put, List.setIfInBounds_toArray, List.set_cons_zero, List.set_cons_succ]
          have HFIN : Hid _ := sbox_set (c := #[]) hgb_6 O2.out.1.1 HI2.out O2.out.1.2 (.inl lgb)
          have bE := below_set4 b6 mgb (.slice va vk vc) (.string s) (.int .i64 n) (.slice ka kl kc)
          obtain ⟨q0, q1, q2, q3, qf⟩ := box4_cells hgb_6
          refine wpAnyH_ready (rs := [13]) (by kernel_rfl) (by simp) (AllReadyH.cons rfl (fun K hK => ?_) AllReadyH.nil)
          go_simp
          refine hK.out _ _ (HS.out _ bE) (fun hHeld => ?_)
          clear hK K q0 q1 q2 q3 qf
          refine wpAnyH_take (i := 14) (v := ?_) rfl (by kernel_rfl) (by kernel_rfl) (by kernel_rfl) (fun _ _ _ h => h) (Or.inl ⟨by rfl, ?_⟩) (by assumption) ?_
          rotate_left
          · (intro w hSw; (try dsimp only at hSw); go_simp); all_goals (with_reducible rfl)
          simp only [List.getElem_toArray, List.getElem_cons_succ, List.getElem_cons_zero, Act.put, List.setIfInBounds_toArray, List.set_cons_zero, List.set_cons_succ]
          refine wpAnyH_done (by kernel_rfl) ?_ _
          go_wp2_with fail
          go_meet
          exact ⟨_, rfl, rfl, HFIN, bE⟩

theorem schemeLast_own : ownKnob Try.prog.godebug = none := by kernel_rfl
theorem schemeLast_laidOut : laidOutB Try.prog = true := by kernel_rfl
set_option maxRecDepth 100000 in
theorem schemeLast_lifted (os : Os) (started : os.Started) (H : Type) (enc : TypeId × Value → H) :
    ReturnsInHanded {} Try.checked os 4 .any (Rows.schemeLastSpec.pre6 enc Try.prog Try.f4 Rows.schemeLastRow.domain false) (Rows.schemeLastSpec.post enc Try.prog Try.f4 false true false false) := by
  refine returnsInHanded_of_change_sized (C := Try.checked) schemeLast_own started (by kernel_rfl) Try.func4
    (ChangeSpec.witness6 (enc := enc) (C := Try.checked) false ⟨#[], #[.slice none 0 0, .agg #[.string ByteArray.empty, .slice none 0 0, .string ByteArray.empty, .int .i64 0, .slice none 0 0]], []⟩ 8 (by kernel_rfl) (by kernel_rfl) (by kernel_rfl) (by kernel_rfl)) ?_
  intro W base args ds gs before hval0 hW hcnd hsz0 _
  have hval : ∀ (j : Nat) t v, Try.f4.params[j]? = some t → args[j]? = some v → Value.okWide Try.prog W .any base t v := hval0
  have hW' := hW
  obtain ⟨p, q, hA0, hV, rfl, hfz, hnd⟩ := hW
  have hA : DataW.TrodAll enc Try.prog W 0 (fun _ => true) true Try.f4.params.toList args.toList ds p := hA0
  have hsz : (DataW.weightsEach Try.prog (Try.f4.params.toList ++ Rows.schemeLastSpec.plain.varTypes Try.prog) (ds ++ gs)).all (· ≤ reachBytes) = true := hsz0
  rw [Try.params4] at hA hval hsz
  obtain ⟨v0, vs0, d0, ds0, p0, q0, hargs, rfl, rfl, h0, r0⟩ := trodAll_cons hA
  obtain ⟨v1, vs1, d1, ds1, p1, q1, rfl, rfl, rfl, h1, r1⟩ := trodAll_cons r0
  obtain ⟨rfl, rfl, rfl⟩ := trodAll_nil r1
  obtain rfl : args = #[v0, v1] := by cases args; simp_all
  obtain ⟨rfl, rfl⟩ := trodVars_none hV
  have lt0 : ∀ x ∈ p0, x.block < W.heap.size := by obtain ⟨m, hm⟩ := h0; exact DataW.trod_lt m _ _ _ hm
  have o0 := open_bds (hval 0 22 v0 rfl rfl) h0 (Em.sized_arg hsz 0 rfl rfl)
  have lt1 : ∀ x ∈ p1, x.block < W.heap.size := by obtain ⟨m, hm⟩ := h1; exact DataW.trod_lt m _ _ _ hm
  have o1 := open_bd (hval 1 41 v1 rfl rfl) h1 (Em.sized_arg hsz 1 rfl rfl)
  clear hsz0 hsz
  clear hA0 hval0
  refine (walk_schemeLast W v0 v1 o0 o1).mono fun e W' ⟨he, bel⟩ => ?_
  subst he
  exact ⟨_, rfl, _, _, _, [], _, [], hW', trodAll_mk1 (shut_bool Try.underlying4 _), (trodAll_cons_mk (Below.trod schemeLast_laidOut (by kernel_rfl) (of_decide_eq_true (by kernel_rfl)) h0 bel lt0) (trodAll_cons_mk (Below.trod schemeLast_laidOut (by kernel_rfl) (of_decide_eq_true (by kernel_rfl)) h1 bel lt1) trodAll_mk0)), rfl, bel.frame _, fun h => by cases h⟩
theorem schemeLast_holds : Rows.SchemeLastSaid :=
  OpenClaim.holds_of_wide 4 Try.f4 rfl rfl rfl rfl rfl rfl rfl ⟨rfl, rfl, rfl, rfl, rfl⟩ rfl rfl rfl rfl rfl (by kernel_rfl) Try.func4 (by kernel_rfl)
    (of_decide_eq_true (by kernel_rfl)) (by unfold Func.isWrapper; first | (rw [if_pos (by decide +kernel)]; kernel_rfl) | (rw [if_neg (by decide +kernel)]; exact ⟨rfl, rfl⟩))
    (fun os started H enc _ => schemeLast_lifted os started H enc)
#print axioms schemeLast_holds
end Go.Proofs.Ytbiihiibebdjgaa

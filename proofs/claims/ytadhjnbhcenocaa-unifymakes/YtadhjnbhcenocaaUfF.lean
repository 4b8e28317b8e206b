/- What 'isFinite' of an attempt answers (package unify). -/
import Derived.Test.YtadhjnbhcenocaaUfE
namespace Go.Proofs.Ytadhjnbhcenocaa
open Go.RowKit Go.Em8 Go.Em9
set_option linter.unusedSimpArgs false
set_option linter.unusedVariables false

def visV (v : Nat × Bool) : Value × Value := (.pointer (some ⟨v.1, 0, none⟩), .bool v.2)
/-- What holds while isFinite is about. -/
structure FinI (w wr : World) (K : Nat → Prop) (F : Fo) (is : Nat → Option Nat) (E : Nat → Nat) (cm : Nat → Int) (N : Int) (sk : Nat → Prop) (x0 : Nat) (pv : Value) (V : List (Nat × Bool)) (sn : Nat → Int) : Prop where
  tms : Tms wr K F is cm sn
  walk : Walk F E N sk sn V x0
  rows : OwnTwo 72 wr w.heap.size pv (V.map visV)
  kept : Kept (fun k => k ∈ F.L) w wr
  bound : ∀ b ∈ F.L, -N ≤ sn b ∧ sn b ≤ N
  left : V.length + 2 * unseen F N sn ≤ 1 + 2 * F.L.length
section
variable {w wr wr' : World} {K : Nat → Prop} {F : Fo} {is : Nat → Option Nat} {E : Nat → Nat} {cm sn : Nat → Int} {N : Int} {sk : Nat → Prop} {x0 : Nat} {pv : Value} {V : List (Nat × Bool)}
theorem FinI.below (h : FinI w wr K F is E cm N sk x0 pv V sn) (hb : Below wr.heap.size wr wr') : FinI w wr' K F is E cm N sk x0 pv V sn :=
  ⟨h.tms.below hb, h.walk, h.rows.below hb, h.kept.trans (Q' := fun _ => False) (Kept.of hb) fun _ _ e => e.elim, h.bound, h.left⟩
theorem FinI.pop {a : Option Addr} {c n m : Nat} {v : Nat × Bool} {sn' : Nat → Int} (h : FinI w wr K F is E cm N sk x0 (.slice a n c) (V ++ [v]) sn) (hm : m = V.length) (hT : Tms wr' K F is cm sn') (hW : Walk F E N sk sn' V x0) (hk : Kept (fun k => k ∈ F.L) wr wr') (hF : ∀ b ∈ F.L, b < w.heap.size) (hb : ∀ b ∈ F.L, -N ≤ sn' b ∧ sn' b ≤ N) (hu : unseen F N sn' ≤ unseen F N sn) : FinI w wr' K F is E cm N sk x0 (.slice a m c) V sn' := by
  have hr := h.rows
  rw [List.map_append] at hr
  have hr2 := hr.pop (m := m) (by rw [hm, List.length_map])
  refine ⟨hT, hW, hr2.keep fun b hbk => hk.block b (hr2.lt hbk).2 fun e => ?_, h.kept.trans hk fun _ _ e => e, hb, ?_⟩
  · have := (hr2.lt hbk).1; have := hF b e; omega
  · have := h.left
    simp only [List.length_append, List.length_cons, List.length_nil] at this
    omega
end

set_option maxRecDepth 100000 in
set_option maxHeartbeats 8000000 in
/-- 'a.isFinite(x)'. O: the terms that came with earlier attempts. -/
theorem ufin_any {w : World} {K : Nat → Prop} {F : Fo} {is : Nat → Option Nat} {cm sn0 : Nat → Int} {E D : Nat → Nat} (hF : FoOk F) (hE : EndOk F E) (hT : Tms w K F is cm sn0) (hL : Leads F.L is E D) {B sb ab : Nat} {N : Int} {vv jv : Value} {Vl : List Int} {J : List Nat} (hA : Att w B sb ab N vv jv Vl J)
    (hs : ∀ k, AttOf ab vv jv k → k ∉ F.L ∧ ¬ K k) (hK : ∀ k, K k → k < w.heap.size) (hJL : ∀ j ∈ J, j ∈ F.L) (hJn : J.length ≤ 1000000) {x0 : Nat} (hx : x0 ∈ F.L) (hn : F.L.length ≤ 100000) (hN : 1 ≤ N ∧ N ≤ 1000000) (hsn : ∀ b ∈ F.L, -N < sn0 b ∧ sn0 b < N) (O : List Nat) (hO : ∀ b ∈ F.L, cm b < N ↔ b ∈ O) :
    Calls Try.prog 29 #[.pointer (some ⟨ab, 0, none⟩), .pointer (some ⟨x0, 0, none⟩)] w fun e w' => ∃ sn, Tms w' K F is cm sn ∧ Kept (fun k => k ∈ F.L) w w' ∧ (∀ b ∈ F.L, -N ≤ sn b ∧ sn b ≤ N) ∧
      ((e = .returned (.bool true) ∧ Walk F E N (fun b => pastB cm N J = true ∧ b ∈ O) sn [] x0) ∨ (e = .returned (.bool false) ∧ ∀ t, ¬ Sol F E t)) := by
  have HLP := ulp_any hT hA hJL hJn
  obtain ⟨pb, hpb⟩ : ∃ q, q = pastB cm N J := ⟨_, rfl⟩
  rw [← hpb] at HLP ⊢
  have HF : Hid (FoOk F ∧ EndOk F E ∧ Leads F.L is E D ∧ (∀ k, K k → k < w.heap.size) ∧ (∀ b ∈ F.L, b < w.heap.size) ∧ (∀ b ∈ F.L, cm b < N ↔ b ∈ O)) := ⟨hF, hE, hL, hK, fun b hb => hT.lt hb, hO⟩
  have HX : Hid (x0 ∈ F.L) := hx
  have HN : Hid (F.L.length ≤ 100000 ∧ 1 ≤ N ∧ N ≤ 1000000) := ⟨hn, hN⟩
  have HA : Hid (Att w B sb ab N vv jv Vl J ∧ ∀ k, AttOf ab vv jv k → k ∉ F.L ∧ ¬ K k) := ⟨hA, hs⟩
  have HST : Hid (∀ w1 : World, Below w.heap.size w w1 → FinI w (w1.alloc (.cells #[.pointer (some ⟨x0, 0, none⟩), .bool false] 72)) K F is E cm N (fun b => pb = true ∧ b ∈ O) x0 (.slice (some ⟨w1.heap.size, 0, none⟩) 1 1) [(x0, false)] sn0) := by
    intro w1 hb1
    have hb2 : Below w.heap.size w (w1.alloc (.cells #[.pointer (some ⟨x0, 0, none⟩), .bool false] 72)) := hb1.alloc hb1.size _
    refine ⟨hT.below hb2, Walk.start hx fun e he => ⟨by have := hsn e he; omega, by have := hsn e he; omega⟩, ?_, Kept.of hb2, fun b hb => ⟨by have := hsn b hb; omega, by have := hsn b hb; omega⟩, ?_⟩
    · have h := ownTwo_lit 72 w1 (.pointer (some ⟨x0, 0, none⟩)) (.bool false) (g := w1.heap.size) rfl
      exact ⟨h.1, h.2.elim .inl fun ⟨g, c, cur, e1, e2, e3⟩ => .inr ⟨g, c, cur, e1, Nat.le_trans hb1.size e2, e3⟩⟩
    · have : unseen F N sn0 ≤ F.L.length := List.length_filter_le _ _
      simp only [List.length_cons, List.length_nil]; omega
  clear hF hE hT hL hA hs hK hJL hx hn hN hsn hO hpb
  go_enter Try.func29, Try.ntmps29
  go_wp2_with (go_at_call 40; refine HLP.mono ?_; rintro e w1 ⟨rfl, hb1⟩; have HS1 : Hid _ := HST.out w1 hb1; clear hb1)
  clear HLP HST
  go_loopg [6] (unseen F N sn0 * 4 + 1) (fun k pv wr => ∃ V sn, Hid (FinI w wr K F is E cm N (fun b => pb = true ∧ b ∈ O) x0 pv V sn) ∧ Hid (k = unseen F N sn * 4 + V.length))
  case atStart => exact ⟨_, _, HS1, rfl⟩
  case round =>
    obtain ⟨V, sn, HI, HK⟩ := hrel
    clear HS1
    obtain ⟨pa, pc, hpe⟩ := HI.out.rows.form
    rw [List.length_map] at hpe
    rcases nil_or_snoc V with hS | ⟨V', ⟨p, lv⟩, hS⟩
    · subst hS
      subst hpe
      simp only [List.length_nil]
      go_wp2_with fail
      go_ret
      exact ⟨_, HI.out.tms, HI.out.kept, HI.out.bound, .inl ⟨rfl, HI.out.walk⟩⟩
    · subst hS
      subst hpe
      simp only [List.length_append, List.length_cons, List.length_nil, Nat.zero_add] at HI ⊢
      obtain ⟨n, hn⟩ : ∃ n, n = V'.length := ⟨_, rfl⟩
      obtain ⟨-, hpc1, -, hget⟩ := HI.out.rows.get
      obtain ⟨g, rfl, hg1, hg2, hcell⟩ := hget (by simp)
      obtain ⟨k0, k1⟩ := hcell n (visV (p, lv)) (by rw [List.map_append, List.getElem?_append_right (by simp [hn])]; simp [hn])
      simp only [visV] at k0 k1
      rw [← hn] at HI ⊢
      have hnB : n ≤ 300000 := by
        have h1 := HI.out.left
        have h3 := HN.out.1
        simp only [List.length_append, List.length_cons, List.length_nil] at h1
        omega
      have hpc : n + 1 ≤ pc := by
        rw [List.length_map, List.length_append, List.length_cons, List.length_nil] at hpc1
        omega
      have HNN : Hid (n = V'.length) := hn
      have hl1 : ((n : Int) + 1 - 1) = (n : Int) := by omega
      have hl2 : (0 : Int) ≤ (n : Int) := by omega
      have hl3 : (n : Int) < (n : Int) + 1 := by omega
      have hpc2 : (n : Int) ≤ (pc : Int) := by omega
      have hp : p ∈ F.L := HI.out.walk.mem (p, lv) (by simp)
      obtain ⟨W, hW⟩ : ∃ W, W = wr.alloc (.cells #[.pointer (some ⟨p, 0, none⟩), .bool lv] 72) := ⟨_, rfl⟩
      have hbW : Below wr.heap.size wr W := by rw [hW]; exact (Below.refl _ _).alloc (Nat.le_refl _) _
      have HIW : Hid (FinI w W K F is E cm N (fun b => pb = true ∧ b ∈ O) x0 (.slice (some ⟨g, 0, none⟩) (n + 1) pc) (V' ++ [(p, lv)]) sn) := HI.out.below hbW
      have v0 : W.cell? ⟨wr.heap.size, 0, none⟩ = some (.pointer (some ⟨p, 0, none⟩)) := by rw [hW]; simp
      have v1 : W.cell? ⟨wr.heap.size, 1, none⟩ = some (.bool lv) := by rw [hW]; simp
      have HEP := uend_any HIW.out.tms HF.out.2.2.1 hp
      obtain ⟨X, hX⟩ : ∃ X, X = E p := ⟨_, rfl⟩
      have hXL : X ∈ F.L := by rw [hX]; exact HF.out.2.1.mem p hp
      rw [← hX] at HEP
      have HXE : Hid (X = E p ∧ X ∈ F.L ∧ p ∈ F.L) := ⟨hX, hXL, hp⟩
      have HWE : Hid (wr.alloc (.cells #[.pointer (some ⟨p, 0, none⟩), .bool lv] 72) = W) := hW.symm
      obtain ⟨-, a1, -, -, -⟩ := (HA.out.1.turn HIW.out.kept fun b hb => (HA.out.2 b hb).1).get
      obtain ⟨xa, xc, xs, -, -, x2, -, -, x5, x6, fx, xk⟩ := (HIW.out.tms X hXL).2.cells
      have fx6 := fx 6
      have HXK : Hid (IsPtrs W K xa xc (F.ks X)) := xk
      have hlx : (F.ks X).length ≤ 2 := teach_two HF.out.1 hXL
      clear hX hW hbW hget hcell hn hp hXL HI hpc1 fx xk
      have hneg : wrap64 (-N) = -N := by
        have := HN.out
        unfold wrap64
        omega
      cases lv with
      | true =>
        have HPX : Hid (X = p ∧ sn p = -N) := by
          obtain ⟨h1, h2, -⟩ := HIW.out.walk.opn V'.length p (by simp)
          exact ⟨by rw [HXE.out.1]; exact h2, h1⟩
        go_upto_region 5 with fail
        rw [HWE.out]
        clear k0 k1 x2 x5 hneg
        go_wp2_with (go_at_call 37; refine HEP.mono ?_; rintro e w2 ⟨rfl, hw2⟩; rw [hw2]; clear hw2)
        go_roundg (unseen F N sn * 4 + V'.length)
        case measure => rw [HK.out]; simp
        case rel =>
          have hN := HN.out
          have h1 : upd sn X N p = N := by rw [HPX.out.1]; exact upd_same _ _ _
          have h2 : ∀ b, b ≠ p → upd sn X N b = sn b := fun b hb => upd_else _ _ (by rw [HPX.out.1]; exact hb)
          have hu := unseen_leave (F := F) HPX.out.2 h1 h2
          refine ⟨_, upd sn X N, HIW.out.pop HNN.out (HIW.out.tms.setSn HXE.out.2.1 N) (HIW.out.walk.leave HF.out.1 HF.out.2.1 (by omega) h1 h2) ((Kept.refl _ W).set X 6 _ fun _ => HXE.out.2.1) HF.out.2.2.2.2.1 (fun b hb => ?_) (by rw [hu]; exact Nat.le_refl _), by rw [Hid, hu]⟩
          by_cases e : b = p
          · subst e; rw [h1]; omega
          · rw [h2 b e]; exact HIW.out.bound b hb
      | false =>
        obtain ⟨q1, hq1⟩ : ∃ q, q = decide (sn X = -N) := ⟨_, rfl⟩
        obtain ⟨q2, hq2⟩ : ∃ q, q = decide (sn X = N) := ⟨_, rfl⟩
        obtain ⟨q3, hq3⟩ : ∃ q, q = decide (cm X < N) := ⟨_, rfl⟩
        have HQ : Hid (q1 = decide (sn X = -N) ∧ q2 = decide (sn X = N) ∧ q3 = decide (cm X < N)) := ⟨hq1, hq2, hq3⟩
        have t1 : (sn X == -N) = q1 := by rw [hq1]; rfl
        have t2 : (sn X == N) = q2 := by rw [hq2]; rfl
        have t3 : decide (cm X < N) = q3 := hq3.symm
        obtain ⟨s6, hs6⟩ : ∃ s, s = sn X := ⟨_, rfl⟩
        obtain ⟨s5, hs5⟩ : ∃ s, s = cm X := ⟨_, rfl⟩
        rw [← hs6] at t1 t2 x6
        rw [← hs5] at t3 x5
        clear hq1 hq2 hq3 hs6 hs5
        go_upto_region 5 with fail
        rw [HWE.out]
        clear k0 k1
        cases q1 with
        | true =>
          go_wp2_with (go_at_call 37; refine HEP.mono ?_; rintro e w2 ⟨rfl, hw2⟩; rw [hw2]; clear hw2)
          go_quiet (fail)
          go_wp2
          go_ret
          have e1 := of_decide_eq_true HQ.out.1.symm
          rw [HXE.out.1] at e1
          exact ⟨_, HIW.out.tms.dr _, HIW.out.kept.drewN _, HIW.out.bound, .inr ⟨rfl, HIW.out.walk.round HF.out.2.1 e1⟩⟩
        | false =>
          go_wp2_with (go_at_call 37; refine HEP.mono ?_; rintro e w2 ⟨rfl, hw2⟩; rw [hw2]; clear hw2)
          go_quiet (fail)
          obtain ⟨U, hU⟩ : ∃ U, U = W.drewN nq := ⟨_, rfl⟩
          rw [← hU]
          have HIU : Hid (FinI w U K F is E cm N (fun b => pb = true ∧ b ∈ O) x0 (.slice (some ⟨g, 0, none⟩) (n + 1) pc) (V' ++ [(p, false)]) sn) := by rw [hU]; exact HIW.out.below (below_drewN (Below.refl _ _) nq)
          have HNP : Hid (sn X ≠ -N) := of_decide_eq_false HQ.out.1.symm
          have hxU : ∀ o, U.cell? ⟨X, o, none⟩ = W.cell? ⟨X, o, none⟩ := fun o => by rw [hU]; rfl
          rw [← hxU] at x2 x5 x6
          have hfU : U.frozen? ⟨X, 6, none⟩ = false := by rw [hU]; exact fx6
          have haU : U.cell? ⟨ab, 1, none⟩ = some (.int .i64 N) := by rw [hU]; exact a1
          have HKU : Hid (IsPtrs U K xa xc (F.ks X)) := by rw [hU]; exact HXK.out
          clear hU hxU fx6 a1 v0 v1 HIW t1 HXK
          obtain ⟨q4, hq4⟩ : ∃ q, q = (q2 || (pb && q3)) := ⟨_, rfl⟩
          cases q4 with
          | true =>
            have HSK : Hid (sn (E p) = N ∨ (pb = true ∧ E p ∈ O)) := by
              rw [Hid, ← HXE.out.1]
              cases q2 with
              | true => exact .inl (of_decide_eq_true HQ.out.2.1.symm)
              | false =>
                right
                simp only [Bool.false_or] at hq4
                have h1 : pb = true ∧ q3 = true := by simpa using hq4.symm
                refine ⟨h1.1, (HF.out.2.2.2.2.2 X HXE.out.2.1).1 ?_⟩
                have h2 := HQ.out.2.2
                rw [h1.2] at h2
                exact of_decide_eq_true h2.symm
            have HEND : Hid (∀ m, FinI w (U.drewN m) K F is E cm N (fun b => pb = true ∧ b ∈ O) x0 (.slice (some ⟨g, 0, none⟩) n pc) V' sn) := fun m => HIU.out.pop HNN.out (HIU.out.tms.dr m) (HIU.out.walk.past HSK.out) ((Kept.refl _ U).drewN m) HF.out.2.2.2.2.1 HIU.out.bound (Nat.le_refl _)
            clear HQ
            cases q2 <;> cases pb <;> cases q3 <;> (try (simp at hq4; done))
            all_goals
              clear hq4
              go_wp2_with fail
              go_quiet (fail)
              go_wp2
              go_roundg (unseen F N sn * 4 + V'.length)
              case measure => rw [HK.out]; simp
              case rel => exact ⟨_, sn, HEND.out _, rfl⟩
          | false =>
            have HSN : Hid (sn X ≠ N) := by
              cases q2 with
              | true => simp at hq4
              | false => exact of_decide_eq_false HQ.out.2.1.symm
            go_upto_region 18 with fail
            go_cut [82] (fun c wx => ∃ m, c = .bool false ∧ wx = U.drewN m)
            case first =>
              clear HQ
              cases q2 <;> cases pb <;> cases q3 <;> (try (simp at hq4; done))
              all_goals
                clear hq4
                go_quiet (fail)
                go_wp2
                go_meet
                exact ⟨_, rfl, rfl⟩
            case rest =>
              obtain ⟨m, rfl, hwc⟩ := hcut
              rw [hwc]
              clear hwc hq4 t2 t3 x5 HQ HWE HEP
              obtain ⟨Z, hZ⟩ : ∃ Z, Z = (U.drewN m).setCell ⟨X, 6, none⟩ (.int .i64 (-N)) := ⟨_, rfl⟩
              have HTZ : Hid (Tms Z K F is cm (upd sn X (-N))) := by rw [hZ]; exact (HIU.out.tms.dr m).setSn HXE.out.2.1 _
              have HKZ : Hid (Kept (fun k => k ∈ F.L) U Z) := by rw [hZ]; exact ((Kept.refl _ U).drewN m).set X 6 _ fun _ => HXE.out.2.1
              have HRZ : Hid (OwnTwo 72 Z w.heap.size (.slice (some ⟨g, 0, none⟩) n pc) (V'.map visV)) := by
                have hr := HIU.out.rows
                rw [List.map_append] at hr
                have hr2 := hr.pop (m := n) (by rw [List.length_map]; exact HNN.out)
                refine hr2.keep fun b hb => HKZ.out.block b (hr2.lt hb).2 fun e => ?_
                have := (hr2.lt hb).1; have := HF.out.2.2.2.2.1 b e; omega
              have HPZ : Hid (IsPtrs Z K xa xc (F.ks X)) := by
                rw [Hid, hZ]
                exact isPtrs_set (HKU.out.keep (w' := U.drewN m) (Nat.le_refl _) fun _ h _ => ⟨rfl, h⟩) (HIU.out.tms X HXE.out.2.1).1 _ _
              have z2 : Z.cell? ⟨X, 2, none⟩ = some (.slice xa (F.ks X).length xc) := by rw [hZ, World.cell?_setCell_other _ _ _ _ (by simp)]; exact x2
              have HZE : Hid ((U.drewN m).setCell ⟨X, 6, none⟩ (.int .i64 (-N)) = Z) := hZ.symm
              have hfU2 : (U.drewN m).frozen? ⟨X, 6, none⟩ = false := hfU
              obtain ⟨lx, hlx'⟩ : ∃ o, o = (F.ks X).length := ⟨_, rfl⟩
              rw [← hlx'] at z2 hlx
              have HLX : Hid (lx = (F.ks X).length) := hlx'
              have hBZ : w.heap.size ≤ Z.heap.size := Nat.le_trans HIU.out.kept.size HKZ.out.size
              have HXR : Hid (some X ≠ (Value.slice (some ⟨g, 0, none⟩) n pc).ownBlock) := fun e => by have := (HRZ.out.lt e).1; have := HF.out.2.2.2.2.1 X HXE.out.2.1; omega
              clear hZ x2 hlx' HKU
              go_upto_region 8 with fail
              rw [HZE.out]
              clear x6 hfU hfU2 haU HZE
              go_wp2_with (at_builtin; refine wpList_app_two twoVisits rfl _ _ rfl w.heap.size _ (V'.map visV) rfl HRZ.out _ _ rfl rfl _ (by simp) rfl (by rw [List.length_map, ← HNN.out]; omega) hBZ ?_; intro v4 w4 o4 hg4; obtain ⟨va4, vc4, hv4⟩ := o4.form; rw [List.length_append, List.length_map, ← HNN.out, List.length_cons, List.length_nil] at hv4; subst hv4; have HS4 : Hid (OwnTwo 72 w4 w.heap.size (.slice va4 (n + (0 + 1)) vc4) (V'.map visV ++ [visV (X, true)]) ∧ Grew Z w4 (.slice (some ⟨g, 0, none⟩) n pc) (.slice va4 (n + (0 + 1)) vc4)) := ⟨o4, hg4⟩; have z24 : w4.cell? ⟨X, 2, none⟩ = some (.slice xa lx xc) := hg4.cell (a := ⟨X, 2, none⟩) z2 HXR.out; clear o4 hg4)
              obtain ⟨va, hva⟩ : ∃ va, va = va4 := ⟨_, rfl⟩
              have HZL : Hid (∀ b, b < w.heap.size → some b ≠ (Value.slice (some ⟨g, 0, none⟩) n pc).ownBlock) := fun b hb e => by have := (HRZ.out.lt e).1; omega
              clear z2 hva
              go_loopw [6, 51] (fun pv i wr2 => ∃ (j : Nat), j ≤ lx ∧ i = .int .i64 j ∧ Hid (OwnTwo 72 wr2 w.heap.size pv ((V' ++ [(X, true)] ++ ((F.ks X).take j).map fun k => (k, false)).map visV) ∧ Grew Z wr2 (.slice (some ⟨g, 0, none⟩) n pc) pv)) (fun _ i _ => lx - (intOf i).toNat)
              case atStart => exact ⟨0, Nat.zero_le _, rfl, by rw [List.take_zero]; simpa using HS4.out.1, HS4.out.2⟩
              case round =>
                obtain ⟨j, hj, rfl, HR⟩ := hrel
                clear HS4 z24
                obtain ⟨pa2, pc2, hpe2⟩ := HR.out.1.form
                obtain ⟨m2, hm2⟩ : ∃ m2, m2 = ((V' ++ [(X, true)] ++ ((F.ks X).take j).map fun k => (k, false)).map visV).length := ⟨_, rfl⟩
                rw [← hm2] at hpe2
                have far : ∀ k o, k < w.heap.size → wr.cell? ⟨k, o, none⟩ = Z.cell? ⟨k, o, none⟩ := fun k o hk => World.cell?_of_block (w := Z) (a := ⟨k, o, none⟩) (HR.out.2.1.block k (Nat.lt_of_lt_of_le hk hBZ) (HZL.out k hk))
                by_cases hlt : j < lx
                · obtain ⟨kx, hkx⟩ : ∃ k, (F.ks X)[j]? = some k := ⟨_, List.getElem?_eq_getElem (by have := HLX.out; omega)⟩
                  obtain ⟨bx', rfl, hbx1, hbx2, hcx⟩ := HPZ.out.2.2 (by have := HLX.out; omega)
                  have cx := hcx j kx hkx
                  rw [← far _ _ (HF.out.2.2.2.1 _ hbx2)] at cx
                  have HNX : Hid ((V' ++ [(X, true)] ++ ((F.ks X).take (j + 1)).map fun k => (k, false)).map visV = (V' ++ [(X, true)] ++ ((F.ks X).take j).map fun k => (k, false)).map visV ++ [visV (kx, false)]) := by
                    have hjl := (List.getElem?_eq_some_iff.1 hkx).1
                    rw [Hid, List.take_succ_eq_append_getElem hjl, (List.getElem?_eq_some_iff.1 hkx).2]
                    simp
                  have HM : Hid (m2 = ((V' ++ [(X, true)] ++ ((F.ks X).take j).map fun k => (k, false)).map visV).length) := hm2
                  have hml : m2 ≤ 1000000 := by
                    rw [hm2]
                    simp only [List.length_map, List.length_append, List.length_take, List.length_cons, List.length_nil]
                    have := HNN.out
                    omega
                  have hj0 : (0 : Int) ≤ (j : Int) := by omega
                  have hjl : (j : Int) < (lx : Int) := by omega
                  have hBz : w.heap.size ≤ wr.heap.size := Nat.le_trans hBZ HR.out.2.1.size
                  clear hkx hcx far hm2
                  subst hpe2
                  go_wp2_with (at_builtin; refine wpList_app_two twoVisits rfl _ _ rfl w.heap.size _ _ rfl HR.out.1 _ _ rfl rfl _ (by simp) rfl (by rw [← HM.out]; exact hml) hBz ?_; intro v4 w4 o4 hg4; obtain ⟨va4, vc4, hv4⟩ := o4.form; rw [List.length_append, ← HM.out, List.length_cons, List.length_nil] at hv4; subst hv4; have HS4 : Hid (OwnTwo 72 w4 w.heap.size (.slice va4 (m2 + (0 + 1)) vc4) ((V' ++ [(X, true)] ++ ((F.ks X).take j).map fun k => (k, false)).map visV ++ [visV (kx, false)]) ∧ Grew wr w4 (.slice pa2 m2 pc2) (.slice va4 (m2 + (0 + 1)) vc4)) := ⟨o4, hg4⟩; clear o4 hg4)
                  go_roundw
                  case rel => exact ⟨j + 1, by omega, by go_num, by rw [HNX.out]; exact HS4.out.1, HR.out.2.trans HS4.out.2⟩
                  case measure => simp [intOf]; omega
                · have hje : j = lx := by omega
                  have hT : (F.ks X).take j = F.ks X := by rw [List.take_of_length_le]; have := HLX.out; omega
                  have HRR : Hid (OwnTwo 72 wr w.heap.size (.slice pa2 m2 pc2) ((V' ++ [(X, true)] ++ (F.ks X).map fun k => (k, false)).map visV)) := by rw [← hpe2]; have h := HR.out.1; rwa [hT] at h
                  clear hT hm2 far
                  subst hpe2
                  go_wp2_with fail
                  have hu := unseen_enter (F := F) (n := N) HXE.out.2.1 ⟨HSN.out, HNP.out⟩ (upd_same sn X (-N)) (fun b hb => upd_else sn (-N) hb)
                  have HU : Hid (unseen F N (upd sn X (-N)) < unseen F N sn) := hu
                  go_roundg (unseen F N (upd sn X (-N)) * 4 + (V' ++ [(X, true)] ++ (F.ks X).map fun k => (k, false)).length)
                  case measure =>
                    have := HU.out
                    have := HLX.out
                    rw [HK.out]
                    simp only [List.length_map, List.length_append, List.length_cons, List.length_nil]
                    omega
                  case rel =>
                    have hkg : Kept (fun k => some k = (Value.slice (some ⟨g, 0, none⟩) n pc).ownBlock) Z wr := (Kept.refl _ Z).grown HR.out.2.1 fun b _ e => e.symm
                    have hw := HIU.out.walk.enter (sn' := upd sn X (-N)) HF.out.1 HF.out.2.1 (by have := HN.out; omega) (by rw [← HXE.out.1]; exact ⟨HSN.out, HNP.out⟩) (by rw [← HXE.out.1]; exact upd_same _ _ _) (fun b hb => upd_else _ _ (by rw [HXE.out.1]; exact hb))
                    rw [← HXE.out.1] at hw
                    refine ⟨_, _, ⟨HTZ.out.turn hkg (fun b hb => HZL.out b (HF.out.2.2.2.2.1 b hb)) (fun b hb => HZL.out b (HF.out.2.2.2.1 b hb)), hw, HRR.out, ?_, fun b hb => ?_, ?_⟩, rfl⟩
                    · exact (HIU.out.kept.trans HKZ.out fun _ _ e => e).trans hkg fun b hb e => absurd e (HZL.out b hb)
                    · by_cases e : b = X
                      · subst e; rw [upd_same]; have := HN.out; omega
                      · rw [upd_else _ _ e]; exact HIU.out.bound b hb
                    · have h1 := HIU.out.left
                      have := HU.out
                      have := HLX.out
                      simp only [List.length_map, List.length_append, List.length_cons, List.length_nil] at h1 ⊢
                      omega
end Go.Proofs.Ytadhjnbhcenocaa

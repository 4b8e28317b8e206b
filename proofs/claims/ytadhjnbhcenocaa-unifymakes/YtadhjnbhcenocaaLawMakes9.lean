/- UnifyMakes: of any pairs, one after the other, the program's Sub makes one what the document's makes one, till one can not; what any type is then is the same, up to new names. Written by genmakes9.py. -/
import Derived.Test.YtadhjnbhcenocaaRows
import Derived.Test.YtadhjnbhcenocaaMkG9
import Derived.Test.YtadhjnbhcenocaaUfG9
import Derived.Test.YtadhjnbhcenocaaRTypM
import Derived.Test.YtadhjnbhcenocaaFrameG9
import Derived.Deep.RegionHeld
import Derived.Deep.CutRange
namespace Go.Proofs.Ytadhjnbhcenocaa
open Go.ChangeShapes Go.WideShapes Go.ChangeAt Go.RowKit Go.Em8 Go.Em9
set_option linter.unusedVariables false
set_option linter.unusedSimpArgs false

theorem psz_take (l : List (Ty × Ty)) (j : Nat) : psz (l.take j) ≤ psz l := by
  have := psz_app (l.take j) (l.drop j)
  rw [List.take_append_drop] at this
  omega
/-- What both Subs need for Of. -/
def Rd (w : World) (sb xb : Nat) (d : Int → Ty) (D : Said) : Prop := Ready w sb d ∧ SubR w xb D
theorem Rd.below {w w' : World} {sb xb : Nat} {d : Int → Ty} {D : Said} (h : Rd w sb xb d D) (hb : Below w.heap.size w w') : Rd w' sb xb d D := ⟨Ready.below h.1 hb, h.2.below hb⟩
theorem M9s.rd {w : World} {b0 sb xb : Nat} {U : List Int} {l1 l2 : List (Ty × Ty)} {N : Int} {len : Nat} {Mn : Nat → Prop} {d : Int → Ty} {dom : Int → Prop} {Z : Nat → Prop} {vv tt : Value} {D : Said} (h : M9s w b0 sb xb U l1 l2 N len Mn d dom Z vv tt D) (hl : len ≤ 100000) : Rd w sb xb d D := ⟨h.uf.ready hl, h.x.sub.r⟩
/-- Two Subs that say nothing. -/
theorem m9_start {w3 w4 : World} {Mn : Nat → Prop} (hb : Below w3.heap.size w3 w4) (hU : Uf w4 w3.heap.size 0 0 Mn 0 tv (fun _ => False)) (hM : ∀ k, Mn k → k = w3.heap.size) (U : List Int) (X : World) (hX : X = w4.alloc (.cells #[.slice none 0 0, .slice none 0 0, .int .i64 0] 34)) :
    M9 X w3.heap.size w3.heap.size w4.heap.size U [] [] 0 0 := by
  have h1 : Below w4.heap.size w4 X := by rw [hX]; exact (Below.refl _ _).alloc (Nat.le_refl _) _
  have hl := hU.lt hU.mine
  refine ⟨Mn, tv, fun _ => False, fun _ => False, .slice none 0 0, .slice none 0 0, [], hU.below h1, (fun y hy => hy.elim), fun t => ⟨fun _ => slv_nil t, fun _ => tv_fac t⟩, ⟨by rw [hX]; exact sub_start0 w4 _ rfl hb.size, ?_, ?_, fun t => ⟨fun _ => slv_nil t, fun _ => tv_fac t⟩⟩, fun k hk e => ?_, fun k hk => hk.elim, fun k hk => by have := hM k hk; omega⟩
  · exact Em9.Good.nil
  · intro p hp; cases hp
  · have := hM k e
    rcases hk with rfl | hk | hk
    · omega
    · simp [Value.ownBlock] at hk
    · simp [Value.ownBlock] at hk

set_option maxRecDepth 100000 in
set_option maxHeartbeats 16000000 in
theorem walk_unifyMakes (w : World) (v u : Value) (hv : ∃ l, IsPairs w v l) (hu : ∃ T, IsTy w T u) :
    Calls Try.prog 3 #[v, u] w fun e w' => e = .returned (.bool true) ∧ Below w.heap.size w w' := by
  obtain ⟨l, hv⟩ := hv
  obtain ⟨T, hu⟩ := hu
  have hvf : ∃ pa pc, v = .slice pa l.length pc := by obtain ⟨a, c, e, -⟩ := hv; exact ⟨a, c, e⟩
  obtain ⟨pa, pc, rfl⟩ := hvf
  have HVW : Hid (IsPairs w (.slice pa l.length pc) l) := hv
  obtain ⟨op, tn, a, k, cap, rfl⟩ := isTyP_form (isTy_isP _ _ hu)
  have HTW : Hid (IsTy w T (.agg #[.string op, .int .i64 tn, .slice a k cap])) := hu
  have HU : Hid (∀ w', Below w.heap.size w w' → IsTy w' T (.agg #[.string op, .int .i64 tn, .slice a k cap])) := fun w' h => isTy_below h _ _ hu
  obtain ⟨W, hW⟩ : ∃ W, W = w.alloc (.cells #[.string op, .int .i64 tn, .slice a k cap] 25) := ⟨_, rfl⟩
  have hbW : Below w.heap.size w W := by rw [hW]; exact (Below.refl _ _).alloc (Nat.le_refl _) _
  have k0 : W.cell? ⟨w.heap.size, 0, none⟩ = some (.string op) := by rw [hW]; simp
  have k1 : W.cell? ⟨w.heap.size, 1, none⟩ = some (.int .i64 tn) := by rw [hW]; simp
  have k2 : W.cell? ⟨w.heap.size, 2, none⟩ = some (.slice a k cap) := by rw [hW]; simp
  have H3 : Hid (∀ w', Below W.heap.size W w' → w'.cell? ⟨w.heap.size, 0, none⟩ = some (.string op) ∧ w'.cell? ⟨w.heap.size, 1, none⟩ = some (.int .i64 tn) ∧ w'.cell? ⟨w.heap.size, 2, none⟩ = some (.slice a k cap)) := fun w' h => by
    have hl : w.heap.size < W.heap.size := by rw [hW]; simp
    have key : ∀ o, w'.cell? ⟨w.heap.size, o, none⟩ = W.cell? ⟨w.heap.size, o, none⟩ := fun o => h.cell (p := ⟨w.heap.size, o, none⟩) hl
    exact ⟨(key 0).trans k0, (key 1).trans k1, (key 2).trans k2⟩
  have HW : Hid (Below w.heap.size w W) := hbW
  have HWE : Hid (w.alloc (.cells #[.string op, .int .i64 tn, .slice a k cap] 25) = W) := hW.symm
  have HVX : Hid (∀ w', Below w.heap.size w w' → IsPairs w' (.slice pa l.length pc) l) := fun w' h => hv.below h
  clear hW hbW hu hv
  go_enter Try.func3, Try.ntmps3
  go_upto_region 1 with fail
  rw [HWE.out]
  clear HWE
  go_wp2_with fail
  refine (may9_any l pa l.length pc W (HVX.out _ HW.out)).mono ?_
  rintro e w1 ⟨r, rfl, hr, hb1⟩
  have HB1 : Hid (Below W.heap.size W w1) := hb1
  have HR : Hid (r = true → l.length < 20 ∧ psz l ≤ 60 ∧ ∀ p ∈ l, teach p.1 = true ∧ teach p.2 = true) := hr
  clear k0 k1 k2 hb1 hr
  obtain ⟨k0, k1, k2⟩ := H3.out _ HB1.out
  cases r with
  | false =>
    go_wp2_with fail
    go_ret
    exact ⟨rfl, HW.out.trans (HB1.out.mono HW.out.size)⟩
  | true =>
  have HL : Hid (l.length < 20 ∧ psz l ≤ 60 ∧ ∀ p ∈ l, teach p.1 = true ∧ teach p.2 = true) := HR.out rfl
  clear HR
  go_wp2_with fail
  refine (rtsize_any T _ _ 100 (HU.out _ (HW.out.trans (HB1.out.mono HW.out.size))) (by omega) (by omega)).mono ?_
  rintro e w2 ⟨rfl, hb2⟩
  have HB2 : Hid (Below W.heap.size W w2) := HB1.out.trans (hb2.mono HB1.out.size)
  obtain ⟨q, hq⟩ : ∃ q, q = decide (30 < T.size) := ⟨_, rfl⟩
  have HQ : Hid (decide ((30 : Int) < ((min T.size 100 : Nat) : Int)) = q) := by rw [Hid, hq, decide_eq_decide]; omega
  have HQ1 : Hid (q = decide (30 < T.size)) := hq
  generalize min T.size 100 = z at HQ
  clear k0 k1 k2 hb2 hq
  obtain ⟨k0, k1, k2⟩ := H3.out _ HB2.out
  have hz := HQ.out
  cases q with
  | true =>
    go_wp2_with fail
    go_ret
    exact ⟨rfl, HW.out.trans (HB2.out.mono HW.out.size)⟩
  | false =>
  have HS : Hid (T.size ≤ 30) := by have := of_decide_eq_false HQ1.out.symm; show _ ≤ _; omega
  go_wp2_with fail
  refine (rtIs_any T _ _ (HU.out _ (HW.out.trans (HB2.out.mono HW.out.size)))).mono ?_
  rintro e w3 ⟨rfl, hb3⟩
  have HB3 : Hid (Below W.heap.size W w3) := HB2.out.trans (hb3.mono HB2.out.size)
  have HW3 : Hid (Below w.heap.size w w3) := HW.out.trans (HB3.out.mono HW.out.size)
  clear k0 k1 k2 hb3 hz HQ
  cases hi : isTy T with
  | false =>
    go_wp2_with fail
    go_ret
    exact ⟨rfl, HW3.out⟩
  | true =>
  have HI : Hid (teach T = true) := isTy_teach9 hi
  obtain ⟨PT, hPT⟩ : ∃ PT, PT = allT l T := ⟨_, rfl⟩
  obtain ⟨U, hUe⟩ : ∃ U, U = tvars PT [] := ⟨_, rfl⟩
  have HPT : Hid (PT = allT l T) := hPT
  have HPK : Hid (teach PT = true ∧ Vin U PT ∧ Vin U T ∧ (∀ p ∈ l, Vin U p.1 ∧ Vin U p.2) ∧ U.length ≤ 200) := by
    refine ⟨by rw [hPT]; exact allT_ok l T HI.out HL.out.2.2, fun x hx => ?_, fun x hx => ?_, fun p hp => ⟨fun x hx => ?_, fun x hx => ?_⟩, ?_⟩
    · rw [hUe]; exact (tvars_iff PT [] x).2 (.inr hx)
    · rw [hUe]; exact (tvars_iff PT [] x).2 (.inr (by rw [hPT]; exact allT_occ l T x (.inl hx)))
    · rw [hUe]; exact (tvars_iff PT [] x).2 (.inr (by rw [hPT]; exact allT_occ l T x (.inr ⟨p, hp, .inl hx⟩)))
    · rw [hUe]; exact (tvars_iff PT [] x).2 (.inr (by rw [hPT]; exact allT_occ l T x (.inr ⟨p, hp, .inr hx⟩)))
    · have := allT_vars l T
      have h1 := HL.out
      have h2 := HS.out
      rw [hUe, hPT]; omega
  clear hi hPT hUe
  go_wp2_with fail
  refine (unew_any w3).mono ?_
  rintro e w4 ⟨rfl, hb4, Mn0, hU4, hMn⟩
  obtain ⟨X5, hX5⟩ : ∃ X, X = w4.alloc (.cells #[.slice none 0 0, .slice none 0 0, .int .i64 0] 34) := ⟨_, rfl⟩
  have HM5 : Hid (M9 X5 w3.heap.size w3.heap.size w4.heap.size U [] [] 0 0) := m9_start hb4 hU4 hMn U X5 hX5
  have HX5 : Hid (w4.alloc (.cells #[.slice none 0 0, .slice none 0 0, .int .i64 0] 34) = X5) := hX5.symm
  have HB5 : Hid (Below w3.heap.size w3 X5) := by rw [Hid, hX5]; exact hb4.alloc hb4.size _
  have HTB : Hid (∀ w', Below w3.heap.size w3 w' → w'.cell? ⟨w.heap.size, 0, none⟩ = some (.string op) ∧ w'.cell? ⟨w.heap.size, 1, none⟩ = some (.int .i64 tn) ∧ w'.cell? ⟨w.heap.size, 2, none⟩ = some (.slice a k cap)) := fun w' h => H3.out _ (HB3.out.trans (h.mono HB3.out.size))
  clear hb4 hU4 hMn hX5
  go_upto_region 4 with fail
  rw [HX5.out]
  clear HX5
  go_wp2_with fail
  go_loopw [7] (fun i wr => ∃ j : Nat, j ≤ l.length ∧ i = .int .i64 j ∧ Hid (M9 wr w3.heap.size w3.heap.size w4.heap.size U (l.take j) (l.take j) (j : Int) (psz (l.take j)) ∧ Below w3.heap.size w3 wr)) (fun i _ => l.length - (intOf i).toNat)
  case atStart => exact ⟨0, Nat.zero_le _, rfl, HM5.out, HB5.out⟩
  case round =>
    clear HM5 HB5
    obtain ⟨j, hj, rfl, HR⟩ := hrel
    by_cases hlt : j < l.length
    · obtain ⟨p, hp⟩ : ∃ p, l[j]? = some p := ⟨_, List.getElem?_eq_getElem hlt⟩
      obtain ⟨b, off, x0, x1, xa, xk, xc, y0, y1, ya, yk, yc, rfl, -, hc1, hc2, hb, m0, m1, m2, m3, m4, m5, gA, gB⟩ := HVW.out.get hp
      have HP : Hid (l[j]? = some p ∧ p ∈ l) := ⟨hp, List.mem_of_getElem? hp⟩
      have HC : Hid (∀ w', Below w3.heap.size w3 w' → w'.cell? ⟨b, off + j * 6, none⟩ = some (.string x0) ∧ w'.cell? ⟨b, off + j * 6 + 1, none⟩ = some (.int .i64 x1) ∧ w'.cell? ⟨b, off + j * 6 + 2, none⟩ = some (.slice xa xk xc) ∧ w'.cell? ⟨b, off + j * 6 + 3, none⟩ = some (.string y0) ∧ w'.cell? ⟨b, off + j * 6 + 4, none⟩ = some (.int .i64 y1) ∧ w'.cell? ⟨b, off + j * 6 + 5, none⟩ = some (.slice ya yk yc)) := fun w' h => by
        have key : ∀ o, w'.cell? ⟨b, o, none⟩ = w.cell? ⟨b, o, none⟩ := fun o => (HW3.out.trans (h.mono HW3.out.size)).cell (p := ⟨b, o, none⟩) hb
        exact ⟨(key _).trans m0, (key _).trans m1, (key _).trans m2, (key _).trans m3, (key _).trans m4, (key _).trans m5⟩
      have HPA : Hid (∀ w', Below w3.heap.size w3 w' → IsTyP (fun k => k < w3.heap.size) w' p.1 (.agg #[.string x0, .int .i64 x1, .slice xa xk xc])) := fun w' h => by
        have hh := HW3.out.trans (h.mono HW3.out.size)
        exact isTyP_keep hh.size (fun k hp hl => ⟨hh.block k hl, Nat.lt_of_lt_of_le hl HW3.out.size⟩) _ _ (isTy_isP _ _ gA)
      have HPB : Hid (∀ w', Below w3.heap.size w3 w' → IsTyP (fun k => k < w3.heap.size) w' p.2 (.agg #[.string y0, .int .i64 y1, .slice ya yk yc])) := fun w' h => by
        have hh := HW3.out.trans (h.mono HW3.out.size)
        exact isTyP_keep hh.size (fun k hp hl => ⟨hh.block k hl, Nat.lt_of_lt_of_le hl HW3.out.size⟩) _ _ (isTy_isP _ _ gB)
      have HLE : Hid (psz (l.take j) + p.1.size + p.2.size ≤ 60 ∧ psz (l.take (j + 1)) = psz (l.take j) + p.1.size + p.2.size) := by
        have h1 := psz_next hp
        have h2 := psz_take l (j + 1)
        have h3 := HL.out.2.1
        constructor <;> omega
      have c0 : Below w3.heap.size w3 wr.drew := HR.out.2.drew
      have HM0 : Hid (M9 wr.drew w3.heap.size w3.heap.size w4.heap.size U (l.take j) (l.take j) (j : Int) (psz (l.take j))) := HR.out.1.below (Below.refl _ _).drew
      have HJ : Hid ((j : Int) ≤ 900000 ∧ j < l.length) := ⟨by have := HL.out.1; omega, hlt⟩
      have hj0 : (0 : Int) ≤ (j : Int) := by omega
      have hjl : (j : Int) < (l.length : Int) := by omega
      clear hp gA gB m0 m1 m2 m3 m4 m5 hb
      go_wp2_with fail
      go_region_held (fun w' => w'.cell? ⟨b, off + j * 6, none⟩ = some (.string x0) ∧ w'.cell? ⟨b, off + j * 6 + 1, none⟩ = some (.int .i64 x1) ∧ w'.cell? ⟨b, off + j * 6 + 2, none⟩ = some (.slice xa xk xc) ∧ w'.cell? ⟨b, off + j * 6 + 3, none⟩ = some (.string y0) ∧ w'.cell? ⟨b, off + j * 6 + 4, none⟩ = some (.int .i64 y1) ∧ w'.cell? ⟨b, off + j * 6 + 5, none⟩ = some (.slice ya yk yc))
        (with_reducible (first | exact HC.out _ c2 | exact HC.out _ c1 | exact HC.out _ c0))
        (first
          | (go_at_call 13; refine (mk_x HS1.out (Nat.le_trans HPK.out.2.2.2.2 (by decide)) (HL.out.2.2 p HP.out.2).1 (HL.out.2.2 p HP.out.2).2 (HPK.out.2.2.2.1 p HP.out.2).1 (HPK.out.2.2.2.1 p HP.out.2).2 (HPA.out _ c1) (HPB.out _ c1)).mono ?_; rintro e v2 ⟨rfl, hb, hm, hn⟩; have HX2 : Hid ((r = true → M9 v2 w3.heap.size w3.heap.size w4.heap.size U (l.take j ++ [p]) (l.take j ++ [p]) ((j : Int) + 1) (psz (l.take j) + p.1.size + p.2.size))) := hm; have c2 := c1.trans hb; clear hb hm hn)
          | (go_at_call 12; refine (mk_s HM0.out ⟨hj0, HJ.out.1⟩ (HL.out.2.2 p HP.out.2).1 (HL.out.2.2 p HP.out.2).2 (Nat.le_trans HLE.out.1 (by decide)) (HPK.out.2.2.2.1 p HP.out.2).1 (HPK.out.2.2.2.1 p HP.out.2).2 (HPA.out _ c0) (HPB.out _ c0) c0.size).mono ?_; rintro e v1 ⟨r, rfl, hb, hst⟩; have HS1 : Hid (St9 r v1 w3.heap.size w3.heap.size w4.heap.size U (l.take j) p ((j : Int) + 1) (psz (l.take j) + p.1.size + p.2.size)) := hst; have c1 := c0.trans hb; clear hb hst))
      all_goals
        have HC2 : Hid (Below w3.heap.size w3 v2) := c2
        clear c0 c1 c2
        cases r with
        | false =>
          go_wp2_with fail
          refine (known9_any _).mono ?_
          rintro e v3 ⟨rfl, hc⟩
          have HC3 : Hid (Below w3.heap.size w3 v3) := HC2.out.trans (hc.mono HC2.out.size)
          clear hc
          go_wp2_with fail
          go_ret
          exact ⟨rfl, HW3.out.trans (HC3.out.mono HW3.out.size)⟩
        | true =>
        obtain ⟨Mn, d, dom, Z, vv, tt, D, hM⟩ := HX2.out rfl
        have HM2 : Hid (M9s v2 w3.heap.size w3.heap.size w4.heap.size U (l.take j ++ [p]) (l.take j ++ [p]) ((j : Int) + 1) (psz (l.take j) + p.1.size + p.2.size) Mn d dom Z vv tt D) := hM
        have HRD : Hid (Rd v2 w3.heap.size w4.heap.size d D) := hM.rd (Nat.le_trans HLE.out.1 (by decide))
        obtain ⟨A1, hA1⟩ : ∃ A, A = tsub d p.1 := ⟨_, rfl⟩
        have HA1 : Hid (tsub d p.1 = A1 ∧ tsub d p.2 = A1) := ⟨hA1.symm, by rw [hA1]; exact (hM.one (by simp)).symm⟩
        have HSA : Hid (tsame A1 A1 = true) := (tsame_iff _ _).2 rfl
        have R0 : Hid (Rd v2.drew w3.heap.size w4.heap.size d D) := HRD.out.below (Below.refl _ _).drew
        have f0 : Below w3.heap.size w3 v2.drew := HC2.out.drew
        have g0 : Below v2.heap.size v2 v2.drew := (Below.refl _ _).drew
        clear hM hA1 HX2
        go_wp2_with fail
        go_region_held (fun w' => w'.cell? ⟨b, off + j * 6, none⟩ = some (.string x0) ∧ w'.cell? ⟨b, off + j * 6 + 1, none⟩ = some (.int .i64 x1) ∧ w'.cell? ⟨b, off + j * 6 + 2, none⟩ = some (.slice xa xk xc) ∧ w'.cell? ⟨b, off + j * 6 + 3, none⟩ = some (.string y0) ∧ w'.cell? ⟨b, off + j * 6 + 4, none⟩ = some (.int .i64 y1) ∧ w'.cell? ⟨b, off + j * 6 + 5, none⟩ = some (.slice ya yk yc))
          (with_reducible (first | exact HC.out _ f3 | exact HC.out _ f2 | exact HC.out _ f1 | exact HC.out _ f0))
          (first
            | (go_at_call 15; refine (rtSame_any A1 A1 _ _ _ (isTy_below G2.out _ _ O1.out) O2.out).mono ?_; rintro e X0 ⟨rfl, hc⟩; rw [HSA.out]; have g3 := g2.trans (hc.mono g2.size); have f3 := f2.trans (hc.mono f2.size); clear hc)
            | (go_at_call 16; have dq := f1; clear dq; refine (uOf_any (some w3.heap.size) d p.2 (HL.out.2.2 p HP.out.2).2 _ _ (isTyP_is _ _ (HPB.out _ f1)) R1.out.1).mono ?_; rintro e u2 ⟨t2, rfl, ho2, hc⟩; rw [HA1.out.2] at ho2; obtain ⟨t20, t21, t2a, t2k, t2c, rfl⟩ := isTyP_form ho2; have O2 : Hid (IsTy u2 A1 (.agg #[.string t20, .int .i64 t21, .slice t2a t2k t2c])) := isTyP_is _ _ ho2; have G2 : Hid (Below u1.heap.size u1 u2) := hc; have g2 := g1.trans (hc.mono g1.size); have f2 := f1.trans (hc.mono f1.size); clear hc ho2)
            | (go_at_call 16; refine (uOf_any (some w3.heap.size) d p.1 (HL.out.2.2 p HP.out.2).1 _ _ (isTyP_is _ _ (HPA.out _ f0)) R0.out.1).mono ?_; rintro e u1 ⟨t1, rfl, ho1, hc⟩; rw [HA1.out.1] at ho1; obtain ⟨t10, t11, t1a, t1k, t1c, rfl⟩ := isTyP_form ho1; have O1 : Hid (IsTy u1 A1 (.agg #[.string t10, .int .i64 t11, .slice t1a t1k t1c])) := isTyP_is _ _ ho1; have R1 : Hid (Rd u1 w3.heap.size w4.heap.size d D) := R0.out.below hc; have g1 := g0.trans (hc.mono g0.size); have f1 := f0.trans (hc.mono f0.size); clear hc ho1))
        all_goals
          have HF3 : Hid (Below w3.heap.size w3 X0) := f3
          have HG3 : Hid (Below v2.heap.size v2 X0) := g3
          clear f0 f1 f2 f3 g0 g1 g2 g3
          have HW0 : Hid (Below w.heap.size w X0) := HW3.out.trans (HF3.out.mono HW3.out.size)
          have HTX : Hid (∀ w', Below X0.heap.size X0 w' → w'.cell? ⟨w.heap.size, 0, none⟩ = some (.string op) ∧ w'.cell? ⟨w.heap.size, 1, none⟩ = some (.int .i64 tn) ∧ w'.cell? ⟨w.heap.size, 2, none⟩ = some (.slice a k cap)) := fun w' h => HTB.out _ (HF3.out.trans (h.mono HF3.out.size))
          go_wp2_with fail
          go_cut [10, 11] from 28 to 95 (fun s10 s11 wx => ∃ ga gb, s10 = .pointer (some ⟨ga, 0, none⟩) ∧ s11 = .pointer (some ⟨gb, 0, none⟩) ∧ Hid (Pq2 X0 wx ga gb PT))
          case first =>
            clear HU H3 HW HB1 HL HB2 HQ1 HS HB3 HW3 HI HPK HTB HR HVX HP HC HPA HPB HLE HM0 HJ hj0 hjl HC2 HS1 HM2 HRD HA1 HSA R0 O1 R1 O2 G2 HF3 HG3 hlt hj hc1 hc2
            refine wp_region_held_drew (S := fun w' => w'.cell? ⟨w.heap.size, 0, none⟩ = some (.string op) ∧ w'.cell? ⟨w.heap.size, 1, none⟩ = some (.int .i64 tn) ∧ w'.cell? ⟨w.heap.size, 2, none⟩ = some (.slice a k cap)) (by kernel_rfl) (HTX.out _ (Below.refl _ _).drew) (fun hHeld => ?_)
            refine wpAnyH_take (i := 0) (v := ?_) rfl (by kernel_rfl) (by kernel_rfl) (by kernel_rfl) (fun _ _ _ h => h) (Or.inl ⟨by rfl, ?_⟩) (by assumption) ?_
            rotate_left
            · (intro w hSw; (try dsimp only at hSw); go_simp); all_goals (with_reducible rfl)
            simp only [List.getElem_toArray, List.getElem_cons_succ, List.getElem_cons_zero, Act.put, List.setIfInBounds_toArray, List.set_cons_zero, List.set_cons_succ]
            refine wpAnyH_take (i := 1) (v := ?_) rfl (by kernel_rfl) (by kernel_rfl) (by kernel_rfl) (fun _ _ _ h => h) (Or.inl ⟨by rfl, ?_⟩) (by assumption) ?_
            rotate_left
            · (intro w hSw; (try dsimp only at hSw); go_simp); all_goals (with_reducible rfl)
            simp only [List.getElem_toArray, List.getElem_cons_succ, List.getElem_cons_zero, Act.put, List.setIfInBounds_toArray, List.set_cons_zero, List.set_cons_succ]
            refine wpAnyH_take (i := 3) (v := ?_) rfl (by kernel_rfl) (by kernel_rfl) (by kernel_rfl) (fun _ _ _ h => h) (Or.inl ⟨by rfl, ?_⟩) (by assumption) ?_
            rotate_left
            · (intro w hSw; (try dsimp only at hSw); go_simp); all_goals (with_reducible rfl)
            simp only [List.getElem_toArray, List.getElem_cons_succ, List.getElem_cons_zero, Act.put, List.setIfInBounds_toArray, List.set_cons_zero, List.set_cons_succ]
            refine wpAnyH_take (i := 4) (v := ?_) rfl (by kernel_rfl) (by kernel_rfl) (by kernel_rfl) (fun _ _ _ h => h) (Or.inl ⟨by rfl, ?_⟩) (by assumption) ?_
            rotate_left
            · (intro w hSw; (try dsimp only at hSw); go_simp); all_goals (with_reducible rfl)
            simp only [List.getElem_toArray, List.getElem_cons_succ, List.getElem_cons_zero, Act.put, List.setIfInBounds_toArray, List.set_cons_zero, List.set_cons_succ]
            refine forgetH (fun W' => Pq X0 W' [] [] PT) (Pq.start X0 PT) (fun Y0 hq => ?_)
            have HQ0 : Hid (Pq X0 Y0 [] [] PT) := hq
            clear hq hHeld
            refine wpAnyH_ready (rs := [2, 6, 7]) (by kernel_rfl) (by simp) (AllReadyH.cons rfl (fun K hK => ?_) (AllReadyH.cons rfl (fun K hK => ?_) (AllReadyH.cons rfl (fun K hK => ?_) AllReadyH.nil)))
            ·
              go_simp
              go_at_call 17; refine (all9_any l T _ l.length pc _ w Y0 HVW.out HTW.out (HW0.out.trans (HQ0.out.low.mono HW0.out.size))).mono ?_; rintro e Y1 ⟨v, rfl, hv, hc⟩; obtain ⟨s0_2, s1_2, sa_2, sk_2, sc_2, rfl⟩ := isTyP_form hv; rw [← HPT.out] at hv
              have HQ1 : Hid (Pq X0 Y1 [] [(.agg #[.string s0_2, .int .i64 s1_2, .slice sa_2 sk_2 sc_2])] PT) := HQ0.out.call HW0.out.size hv hc
              clear hv hc
              (try dsimp only)
              refine hK.out _ _ (HTX.out _ HQ1.out.low) (fun hHeld => ?_)
              clear hK K hHeld
              refine wpAnyH_ready (rs := [5, 6, 7]) (by kernel_rfl) (by simp) (AllReadyH.cons rfl (fun K hK => ?_) (AllReadyH.cons rfl (fun K hK => ?_) (AllReadyH.cons rfl (fun K hK => ?_) AllReadyH.nil)))
              ·
                go_simp
                go_at_call 17; refine (all9_any l T _ l.length pc _ w Y1 HVW.out HTW.out (HW0.out.trans (HQ1.out.low.mono HW0.out.size))).mono ?_; rintro e Y2 ⟨v, rfl, hv, hc⟩; obtain ⟨s0_5, s1_5, sa_5, sk_5, sc_5, rfl⟩ := isTyP_form hv; rw [← HPT.out] at hv
                have HQ2 : Hid (Pq X0 Y2 [] [(.agg #[.string s0_5, .int .i64 s1_5, .slice sa_5 sk_5 sc_5]), (.agg #[.string s0_2, .int .i64 s1_2, .slice sa_2 sk_2 sc_2])] PT) := HQ1.out.call HW0.out.size hv hc
                clear hv hc
                (try dsimp only)
                refine hK.out _ _ (HTX.out _ HQ2.out.low) (fun hHeld => ?_)
                clear hK K hHeld
                refine wpAnyH_ready (rs := [6, 7]) (by kernel_rfl) (by simp) (AllReadyH.cons rfl (fun K hK => ?_) (AllReadyH.cons rfl (fun K hK => ?_) AllReadyH.nil))
                ·
                  go_simp
                  refine hK.out _ _ (HTX.out _ HQ2.out.alloc.low) (fun hHeld => ?_)
                  clear hK K
                  refine forgetH (fun W' => Pq X0 W' [Y2.heap.size] [(.agg #[.string s0_5, .int .i64 s1_5, .slice sa_5 sk_5 sc_5]), (.agg #[.string s0_2, .int .i64 s1_2, .slice sa_2 sk_2 sc_2])] PT) HQ2.out.alloc (fun Y3 hq => ?_)
                  have HQ3 : Hid (Pq X0 Y3 [Y2.heap.size] [(.agg #[.string s0_5, .int .i64 s1_5, .slice sa_5 sk_5 sc_5]), (.agg #[.string s0_2, .int .i64 s1_2, .slice sa_2 sk_2 sc_2])] PT) := hq
                  clear hq hHeld
                  refine wpAnyH_ready (rs := [7]) (by kernel_rfl) (by simp) (AllReadyH.cons rfl (fun K hK => ?_) AllReadyH.nil)
                  go_simp
                  refine hK.out _ _ (HTX.out _ HQ3.out.alloc.low) (fun hHeld => ?_)
                  clear hK K
                  refine forgetH (fun W' => Pq X0 W' [Y3.heap.size, Y2.heap.size] [(.agg #[.string s0_5, .int .i64 s1_5, .slice sa_5 sk_5 sc_5]), (.agg #[.string s0_2, .int .i64 s1_2, .slice sa_2 sk_2 sc_2])] PT) HQ3.out.alloc (fun Y4 hq => ?_)
                  have HQ4 : Hid (Pq X0 Y4 [Y3.heap.size, Y2.heap.size] [(.agg #[.string s0_5, .int .i64 s1_5, .slice sa_5 sk_5 sc_5]), (.agg #[.string s0_2, .int .i64 s1_2, .slice sa_2 sk_2 sc_2])] PT) := hq
                  clear hq hHeld
                  refine wpAnyH_ready (rs := [8]) (by kernel_rfl) (by simp) (AllReadyH.cons rfl (fun K hK => ?_) AllReadyH.nil)
                  obtain ⟨z0, z1, z2, zf⟩ := (HQ4.out.zr (Y2.heap.size) (by simp)).2
                  have h1 := HQ4.out.store (ga := Y2.heap.size) (gb := Y3.heap.size) (c0 := .string s0_2) (c1 := .int .i64 s1_2) (c2 := .slice sa_2 sk_2 sc_2) (e0 := .string s0_5) (e1 := .int .i64 s1_5) (e2 := .slice sa_5 sk_5 sc_5) (by simp) (by simp) (by have := HQ4.out.nd; simp at this; omega) (by simp) (by simp)
                  have H1 : Hid (Pq1 X0 (set3 Y4 (Y2.heap.size) (.string s0_2) (.int .i64 s1_2) (.slice sa_2 sk_2 sc_2)) (Y2.heap.size) (Y3.heap.size) (.string s0_2) (.int .i64 s1_2) (.slice sa_2 sk_2 sc_2) (.string s0_5) (.int .i64 s1_5) (.slice sa_5 sk_5 sc_5) PT) := h1
                  clear h1
                  go_simp
                  refine hK.out _ _ (HTX.out _ H1.out.low) (fun hHeld => ?_)
                  clear hK K
                  refine forgetH (fun W' => Pq1 X0 W' (Y2.heap.size) (Y3.heap.size) (.string s0_2) (.int .i64 s1_2) (.slice sa_2 sk_2 sc_2) (.string s0_5) (.int .i64 s1_5) (.slice sa_5 sk_5 sc_5) PT) H1.out (fun Y5 hq => ?_)
                  have HQ5 : Hid (Pq1 X0 Y5 (Y2.heap.size) (Y3.heap.size) (.string s0_2) (.int .i64 s1_2) (.slice sa_2 sk_2 sc_2) (.string s0_5) (.int .i64 s1_5) (.slice sa_5 sk_5 sc_5) PT) := hq
                  clear hq H1 hHeld z0 z1 z2 zf
                  refine wpAnyH_ready (rs := [9]) (by kernel_rfl) (by simp) (AllReadyH.cons rfl (fun K hK => ?_) AllReadyH.nil)
                  obtain ⟨z0, z1, z2, zf⟩ := HQ5.out.zr
                  go_simp
                  refine hK.out _ _ (HTX.out _ HQ5.out.store.1) (fun hHeld => ?_)
                  clear hK K
                  refine wpAnyH_done (by kernel_rfl) ?_ _
                  go_wp2_with fail
                  go_meet
                  exact ⟨_, _, rfl, rfl, HQ5.out.store⟩
                ·
                  go_simp
                  refine hK.out _ _ (HTX.out _ HQ2.out.alloc.low) (fun hHeld => ?_)
                  clear hK K
                  refine forgetH (fun W' => Pq X0 W' [Y2.heap.size] [(.agg #[.string s0_5, .int .i64 s1_5, .slice sa_5 sk_5 sc_5]), (.agg #[.string s0_2, .int .i64 s1_2, .slice sa_2 sk_2 sc_2])] PT) HQ2.out.alloc (fun Y3 hq => ?_)
                  have HQ3 : Hid (Pq X0 Y3 [Y2.heap.size] [(.agg #[.string s0_5, .int .i64 s1_5, .slice sa_5 sk_5 sc_5]), (.agg #[.string s0_2, .int .i64 s1_2, .slice sa_2 sk_2 sc_2])] PT) := hq
                  clear hq hHeld
                  refine wpAnyH_ready (rs := [6]) (by kernel_rfl) (by simp) (AllReadyH.cons rfl (fun K hK => ?_) AllReadyH.nil)
                  go_simp
                  refine hK.out _ _ (HTX.out _ HQ3.out.alloc.low) (fun hHeld => ?_)
                  clear hK K
                  refine forgetH (fun W' => Pq X0 W' [Y3.heap.size, Y2.heap.size] [(.agg #[.string s0_5, .int .i64 s1_5, .slice sa_5 sk_5 sc_5]), (.agg #[.string s0_2, .int .i64 s1_2, .slice sa_2 sk_2 sc_2])] PT) HQ3.out.alloc (fun Y4 hq => ?_)
                  have HQ4 : Hid (Pq X0 Y4 [Y3.heap.size, Y2.heap.size] [(.agg #[.string s0_5, .int .i64 s1_5, .slice sa_5 sk_5 sc_5]), (.agg #[.string s0_2, .int .i64 s1_2, .slice sa_2 sk_2 sc_2])] PT) := hq
                  clear hq hHeld
                  refine wpAnyH_ready (rs := [8]) (by kernel_rfl) (by simp) (AllReadyH.cons rfl (fun K hK => ?_) AllReadyH.nil)
                  obtain ⟨z0, z1, z2, zf⟩ := (HQ4.out.zr (Y3.heap.size) (by simp)).2
                  have h1 := HQ4.out.store (ga := Y3.heap.size) (gb := Y2.heap.size) (c0 := .string s0_2) (c1 := .int .i64 s1_2) (c2 := .slice sa_2 sk_2 sc_2) (e0 := .string s0_5) (e1 := .int .i64 s1_5) (e2 := .slice sa_5 sk_5 sc_5) (by simp) (by simp) (by have := HQ4.out.nd; simp at this; omega) (by simp) (by simp)
                  have H1 : Hid (Pq1 X0 (set3 Y4 (Y3.heap.size) (.string s0_2) (.int .i64 s1_2) (.slice sa_2 sk_2 sc_2)) (Y3.heap.size) (Y2.heap.size) (.string s0_2) (.int .i64 s1_2) (.slice sa_2 sk_2 sc_2) (.string s0_5) (.int .i64 s1_5) (.slice sa_5 sk_5 sc_5) PT) := h1
                  clear h1
                  go_simp
                  refine hK.out _ _ (HTX.out _ H1.out.low) (fun hHeld => ?_)
                  clear hK K
                  refine forgetH (fun W' => Pq1 X0 W' (Y3.heap.size) (Y2.heap.size) (.string s0_2) (.int .i64 s1_2) (.slice sa_2 sk_2 sc_2) (.string s0_5) (.int .i64 s1_5) (.slice sa_5 sk_5 sc_5) PT) H1.out (fun Y5 hq => ?_)
                  have HQ5 : Hid (Pq1 X0 Y5 (Y3.heap.size) (Y2.heap.size) (.string s0_2) (.int .i64 s1_2) (.slice sa_2 sk_2 sc_2) (.string s0_5) (.int .i64 s1_5) (.slice sa_5 sk_5 sc_5) PT) := hq
                  clear hq H1 hHeld z0 z1 z2 zf
                  refine wpAnyH_ready (rs := [9]) (by kernel_rfl) (by simp) (AllReadyH.cons rfl (fun K hK => ?_) AllReadyH.nil)
                  obtain ⟨z0, z1, z2, zf⟩ := HQ5.out.zr
                  go_simp
                  refine hK.out _ _ (HTX.out _ HQ5.out.store.1) (fun hHeld => ?_)
                  clear hK K
                  refine wpAnyH_done (by kernel_rfl) ?_ _
                  go_wp2_with fail
                  go_meet
                  exact ⟨_, _, rfl, rfl, HQ5.out.store⟩
              ·
                go_simp
                refine hK.out _ _ (HTX.out _ HQ1.out.alloc.low) (fun hHeld => ?_)
                clear hK K
                refine forgetH (fun W' => Pq X0 W' [Y1.heap.size] [(.agg #[.string s0_2, .int .i64 s1_2, .slice sa_2 sk_2 sc_2])] PT) HQ1.out.alloc (fun Y2 hq => ?_)
                have HQ2 : Hid (Pq X0 Y2 [Y1.heap.size] [(.agg #[.string s0_2, .int .i64 s1_2, .slice sa_2 sk_2 sc_2])] PT) := hq
                clear hq hHeld
                refine wpAnyH_ready (rs := [5, 7]) (by kernel_rfl) (by simp) (AllReadyH.cons rfl (fun K hK => ?_) (AllReadyH.cons rfl (fun K hK => ?_) AllReadyH.nil))
                ·
                  go_simp
                  go_at_call 17; refine (all9_any l T _ l.length pc _ w Y2 HVW.out HTW.out (HW0.out.trans (HQ2.out.low.mono HW0.out.size))).mono ?_; rintro e Y3 ⟨v, rfl, hv, hc⟩; obtain ⟨s0_5, s1_5, sa_5, sk_5, sc_5, rfl⟩ := isTyP_form hv; rw [← HPT.out] at hv
                  have HQ3 : Hid (Pq X0 Y3 [Y1.heap.size] [(.agg #[.string s0_5, .int .i64 s1_5, .slice sa_5 sk_5 sc_5]), (.agg #[.string s0_2, .int .i64 s1_2, .slice sa_2 sk_2 sc_2])] PT) := HQ2.out.call HW0.out.size hv hc
                  clear hv hc
                  (try dsimp only)
                  refine hK.out _ _ (HTX.out _ HQ3.out.low) (fun hHeld => ?_)
                  clear hK K hHeld
                  refine wpAnyH_ready (rs := [7]) (by kernel_rfl) (by simp) (AllReadyH.cons rfl (fun K hK => ?_) AllReadyH.nil)
                  go_simp
                  refine hK.out _ _ (HTX.out _ HQ3.out.alloc.low) (fun hHeld => ?_)
                  clear hK K
                  refine forgetH (fun W' => Pq X0 W' [Y3.heap.size, Y1.heap.size] [(.agg #[.string s0_5, .int .i64 s1_5, .slice sa_5 sk_5 sc_5]), (.agg #[.string s0_2, .int .i64 s1_2, .slice sa_2 sk_2 sc_2])] PT) HQ3.out.alloc (fun Y4 hq => ?_)
                  have HQ4 : Hid (Pq X0 Y4 [Y3.heap.size, Y1.heap.size] [(.agg #[.string s0_5, .int .i64 s1_5, .slice sa_5 sk_5 sc_5]), (.agg #[.string s0_2, .int .i64 s1_2, .slice sa_2 sk_2 sc_2])] PT) := hq
                  clear hq hHeld
                  refine wpAnyH_ready (rs := [8]) (by kernel_rfl) (by simp) (AllReadyH.cons rfl (fun K hK => ?_) AllReadyH.nil)
                  obtain ⟨z0, z1, z2, zf⟩ := (HQ4.out.zr (Y1.heap.size) (by simp)).2
                  have h1 := HQ4.out.store (ga := Y1.heap.size) (gb := Y3.heap.size) (c0 := .string s0_2) (c1 := .int .i64 s1_2) (c2 := .slice sa_2 sk_2 sc_2) (e0 := .string s0_5) (e1 := .int .i64 s1_5) (e2 := .slice sa_5 sk_5 sc_5) (by simp) (by simp) (by have := HQ4.out.nd; simp at this; omega) (by simp) (by simp)
                  have H1 : Hid (Pq1 X0 (set3 Y4 (Y1.heap.size) (.string s0_2) (.int .i64 s1_2) (.slice sa_2 sk_2 sc_2)) (Y1.heap.size) (Y3.heap.size) (.string s0_2) (.int .i64 s1_2) (.slice sa_2 sk_2 sc_2) (.string s0_5) (.int .i64 s1_5) (.slice sa_5 sk_5 sc_5) PT) := h1
                  clear h1
                  go_simp
                  refine hK.out _ _ (HTX.out _ H1.out.low) (fun hHeld => ?_)
                  clear hK K
                  refine forgetH (fun W' => Pq1 X0 W' (Y1.heap.size) (Y3.heap.size) (.string s0_2) (.int .i64 s1_2) (.slice sa_2 sk_2 sc_2) (.string s0_5) (.int .i64 s1_5) (.slice sa_5 sk_5 sc_5) PT) H1.out (fun Y5 hq => ?_)
                  have HQ5 : Hid (Pq1 X0 Y5 (Y1.heap.size) (Y3.heap.size) (.string s0_2) (.int .i64 s1_2) (.slice sa_2 sk_2 sc_2) (.string s0_5) (.int .i64 s1_5) (.slice sa_5 sk_5 sc_5) PT) := hq
                  clear hq H1 hHeld z0 z1 z2 zf
                  refine wpAnyH_ready (rs := [9]) (by kernel_rfl) (by simp) (AllReadyH.cons rfl (fun K hK => ?_) AllReadyH.nil)
                  obtain ⟨z0, z1, z2, zf⟩ := HQ5.out.zr
                  go_simp
                  refine hK.out _ _ (HTX.out _ HQ5.out.store.1) (fun hHeld => ?_)
                  clear hK K
                  refine wpAnyH_done (by kernel_rfl) ?_ _
                  go_wp2_with fail
                  go_meet
                  exact ⟨_, _, rfl, rfl, HQ5.out.store⟩
                ·
                  go_simp
                  refine hK.out _ _ (HTX.out _ HQ2.out.alloc.low) (fun hHeld => ?_)
                  clear hK K
                  refine forgetH (fun W' => Pq X0 W' [Y2.heap.size, Y1.heap.size] [(.agg #[.string s0_2, .int .i64 s1_2, .slice sa_2 sk_2 sc_2])] PT) HQ2.out.alloc (fun Y3 hq => ?_)
                  have HQ3 : Hid (Pq X0 Y3 [Y2.heap.size, Y1.heap.size] [(.agg #[.string s0_2, .int .i64 s1_2, .slice sa_2 sk_2 sc_2])] PT) := hq
                  clear hq hHeld
                  refine wpAnyH_ready (rs := [5]) (by kernel_rfl) (by simp) (AllReadyH.cons rfl (fun K hK => ?_) AllReadyH.nil)
                  go_simp
                  go_at_call 17; refine (all9_any l T _ l.length pc _ w Y3 HVW.out HTW.out (HW0.out.trans (HQ3.out.low.mono HW0.out.size))).mono ?_; rintro e Y4 ⟨v, rfl, hv, hc⟩; obtain ⟨s0_5, s1_5, sa_5, sk_5, sc_5, rfl⟩ := isTyP_form hv; rw [← HPT.out] at hv
                  have HQ4 : Hid (Pq X0 Y4 [Y2.heap.size, Y1.heap.size] [(.agg #[.string s0_5, .int .i64 s1_5, .slice sa_5 sk_5 sc_5]), (.agg #[.string s0_2, .int .i64 s1_2, .slice sa_2 sk_2 sc_2])] PT) := HQ3.out.call HW0.out.size hv hc
                  clear hv hc
                  (try dsimp only)
                  refine hK.out _ _ (HTX.out _ HQ4.out.low) (fun hHeld => ?_)
                  clear hK K hHeld
                  refine wpAnyH_ready (rs := [8]) (by kernel_rfl) (by simp) (AllReadyH.cons rfl (fun K hK => ?_) AllReadyH.nil)
                  obtain ⟨z0, z1, z2, zf⟩ := (HQ4.out.zr (Y1.heap.size) (by simp)).2
                  have h1 := HQ4.out.store (ga := Y1.heap.size) (gb := Y2.heap.size) (c0 := .string s0_2) (c1 := .int .i64 s1_2) (c2 := .slice sa_2 sk_2 sc_2) (e0 := .string s0_5) (e1 := .int .i64 s1_5) (e2 := .slice sa_5 sk_5 sc_5) (by simp) (by simp) (by have := HQ4.out.nd; simp at this; omega) (by simp) (by simp)
                  have H1 : Hid (Pq1 X0 (set3 Y4 (Y1.heap.size) (.string s0_2) (.int .i64 s1_2) (.slice sa_2 sk_2 sc_2)) (Y1.heap.size) (Y2.heap.size) (.string s0_2) (.int .i64 s1_2) (.slice sa_2 sk_2 sc_2) (.string s0_5) (.int .i64 s1_5) (.slice sa_5 sk_5 sc_5) PT) := h1
                  clear h1
                  go_simp
                  refine hK.out _ _ (HTX.out _ H1.out.low) (fun hHeld => ?_)
                  clear hK K
                  refine forgetH (fun W' => Pq1 X0 W' (Y1.heap.size) (Y2.heap.size) (.string s0_2) (.int .i64 s1_2) (.slice sa_2 sk_2 sc_2) (.string s0_5) (.int .i64 s1_5) (.slice sa_5 sk_5 sc_5) PT) H1.out (fun Y5 hq => ?_)
                  have HQ5 : Hid (Pq1 X0 Y5 (Y1.heap.size) (Y2.heap.size) (.string s0_2) (.int .i64 s1_2) (.slice sa_2 sk_2 sc_2) (.string s0_5) (.int .i64 s1_5) (.slice sa_5 sk_5 sc_5) PT) := hq
                  clear hq H1 hHeld z0 z1 z2 zf
                  refine wpAnyH_ready (rs := [9]) (by kernel_rfl) (by simp) (AllReadyH.cons rfl (fun K hK => ?_) AllReadyH.nil)
                  obtain ⟨z0, z1, z2, zf⟩ := HQ5.out.zr
                  go_simp
                  refine hK.out _ _ (HTX.out _ HQ5.out.store.1) (fun hHeld => ?_)
                  clear hK K
                  refine wpAnyH_done (by kernel_rfl) ?_ _
                  go_wp2_with fail
                  go_meet
                  exact ⟨_, _, rfl, rfl, HQ5.out.store⟩
              ·
                go_simp
                refine hK.out _ _ (HTX.out _ HQ1.out.alloc.low) (fun hHeld => ?_)
                clear hK K
                refine forgetH (fun W' => Pq X0 W' [Y1.heap.size] [(.agg #[.string s0_2, .int .i64 s1_2, .slice sa_2 sk_2 sc_2])] PT) HQ1.out.alloc (fun Y2 hq => ?_)
                have HQ2 : Hid (Pq X0 Y2 [Y1.heap.size] [(.agg #[.string s0_2, .int .i64 s1_2, .slice sa_2 sk_2 sc_2])] PT) := hq
                clear hq hHeld
                refine wpAnyH_ready (rs := [5, 6]) (by kernel_rfl) (by simp) (AllReadyH.cons rfl (fun K hK => ?_) (AllReadyH.cons rfl (fun K hK => ?_) AllReadyH.nil))
                ·
                  go_simp
                  go_at_call 17; refine (all9_any l T _ l.length pc _ w Y2 HVW.out HTW.out (HW0.out.trans (HQ2.out.low.mono HW0.out.size))).mono ?_; rintro e Y3 ⟨v, rfl, hv, hc⟩; obtain ⟨s0_5, s1_5, sa_5, sk_5, sc_5, rfl⟩ := isTyP_form hv; rw [← HPT.out] at hv
                  have HQ3 : Hid (Pq X0 Y3 [Y1.heap.size] [(.agg #[.string s0_5, .int .i64 s1_5, .slice sa_5 sk_5 sc_5]), (.agg #[.string s0_2, .int .i64 s1_2, .slice sa_2 sk_2 sc_2])] PT) := HQ2.out.call HW0.out.size hv hc
                  clear hv hc
                  (try dsimp only)
                  refine hK.out _ _ (HTX.out _ HQ3.out.low) (fun hHeld => ?_)
                  clear hK K hHeld
                  refine wpAnyH_ready (rs := [6]) (by kernel_rfl) (by simp) (AllReadyH.cons rfl (fun K hK => ?_) AllReadyH.nil)
                  go_simp
                  refine hK.out _ _ (HTX.out _ HQ3.out.alloc.low) (fun hHeld => ?_)
                  clear hK K
                  refine forgetH (fun W' => Pq X0 W' [Y3.heap.size, Y1.heap.size] [(.agg #[.string s0_5, .int .i64 s1_5, .slice sa_5 sk_5 sc_5]), (.agg #[.string s0_2, .int .i64 s1_2, .slice sa_2 sk_2 sc_2])] PT) HQ3.out.alloc (fun Y4 hq => ?_)
                  have HQ4 : Hid (Pq X0 Y4 [Y3.heap.size, Y1.heap.size] [(.agg #[.string s0_5, .int .i64 s1_5, .slice sa_5 sk_5 sc_5]), (.agg #[.string s0_2, .int .i64 s1_2, .slice sa_2 sk_2 sc_2])] PT) := hq
                  clear hq hHeld
                  refine wpAnyH_ready (rs := [8]) (by kernel_rfl) (by simp) (AllReadyH.cons rfl (fun K hK => ?_) AllReadyH.nil)
                  obtain ⟨z0, z1, z2, zf⟩ := (HQ4.out.zr (Y3.heap.size) (by simp)).2
                  have h1 := HQ4.out.store (ga := Y3.heap.size) (gb := Y1.heap.size) (c0 := .string s0_2) (c1 := .int .i64 s1_2) (c2 := .slice sa_2 sk_2 sc_2) (e0 := .string s0_5) (e1 := .int .i64 s1_5) (e2 := .slice sa_5 sk_5 sc_5) (by simp) (by simp) (by have := HQ4.out.nd; simp at this; omega) (by simp) (by simp)
                  have H1 : Hid (Pq1 X0 (set3 Y4 (Y3.heap.size) (.string s0_2) (.int .i64 s1_2) (.slice sa_2 sk_2 sc_2)) (Y3.heap.size) (Y1.heap.size) (.string s0_2) (.int .i64 s1_2) (.slice sa_2 sk_2 sc_2) (.string s0_5) (.int .i64 s1_5) (.slice sa_5 sk_5 sc_5) PT) := h1
                  clear h1
                  go_simp
                  refine hK.out _ _ (HTX.out _ H1.out.low) (fun hHeld => ?_)
                  clear hK K
                  refine forgetH (fun W' => Pq1 X0 W' (Y3.heap.size) (Y1.heap.size) (.string s0_2) (.int .i64 s1_2) (.slice sa_2 sk_2 sc_2) (.string s0_5) (.int .i64 s1_5) (.slice sa_5 sk_5 sc_5) PT) H1.out (fun Y5 hq => ?_)
                  have HQ5 : Hid (Pq1 X0 Y5 (Y3.heap.size) (Y1.heap.size) (.string s0_2) (.int .i64 s1_2) (.slice sa_2 sk_2 sc_2) (.string s0_5) (.int .i64 s1_5) (.slice sa_5 sk_5 sc_5) PT) := hq
                  clear hq H1 hHeld z0 z1 z2 zf
                  refine wpAnyH_ready (rs := [9]) (by kernel_rfl) (by simp) (AllReadyH.cons rfl (fun K hK => ?_) AllReadyH.nil)
                  obtain ⟨z0, z1, z2, zf⟩ := HQ5.out.zr
                  go_simp
                  refine hK.out _ _ (HTX.out _ HQ5.out.store.1) (fun hHeld => ?_)
                  clear hK K
                  refine wpAnyH_done (by kernel_rfl) ?_ _
                  go_wp2_with fail
                  go_meet
                  exact ⟨_, _, rfl, rfl, HQ5.out.store⟩
                ·
                  go_simp
                  refine hK.out _ _ (HTX.out _ HQ2.out.alloc.low) (fun hHeld => ?_)
                  clear hK K
                  refine forgetH (fun W' => Pq X0 W' [Y2.heap.size, Y1.heap.size] [(.agg #[.string s0_2, .int .i64 s1_2, .slice sa_2 sk_2 sc_2])] PT) HQ2.out.alloc (fun Y3 hq => ?_)
                  have HQ3 : Hid (Pq X0 Y3 [Y2.heap.size, Y1.heap.size] [(.agg #[.string s0_2, .int .i64 s1_2, .slice sa_2 sk_2 sc_2])] PT) := hq
                  clear hq hHeld
                  refine wpAnyH_ready (rs := [5]) (by kernel_rfl) (by simp) (AllReadyH.cons rfl (fun K hK => ?_) AllReadyH.nil)
                  go_simp
                  go_at_call 17; refine (all9_any l T _ l.length pc _ w Y3 HVW.out HTW.out (HW0.out.trans (HQ3.out.low.mono HW0.out.size))).mono ?_; rintro e Y4 ⟨v, rfl, hv, hc⟩; obtain ⟨s0_5, s1_5, sa_5, sk_5, sc_5, rfl⟩ := isTyP_form hv; rw [← HPT.out] at hv
                  have HQ4 : Hid (Pq X0 Y4 [Y2.heap.size, Y1.heap.size] [(.agg #[.string s0_5, .int .i64 s1_5, .slice sa_5 sk_5 sc_5]), (.agg #[.string s0_2, .int .i64 s1_2, .slice sa_2 sk_2 sc_2])] PT) := HQ3.out.call HW0.out.size hv hc
                  clear hv hc
                  (try dsimp only)
                  refine hK.out _ _ (HTX.out _ HQ4.out.low) (fun hHeld => ?_)
                  clear hK K hHeld
                  refine wpAnyH_ready (rs := [8]) (by kernel_rfl) (by simp) (AllReadyH.cons rfl (fun K hK => ?_) AllReadyH.nil)
                  obtain ⟨z0, z1, z2, zf⟩ := (HQ4.out.zr (Y2.heap.size) (by simp)).2
                  have h1 := HQ4.out.store (ga := Y2.heap.size) (gb := Y1.heap.size) (c0 := .string s0_2) (c1 := .int .i64 s1_2) (c2 := .slice sa_2 sk_2 sc_2) (e0 := .string s0_5) (e1 := .int .i64 s1_5) (e2 := .slice sa_5 sk_5 sc_5) (by simp) (by simp) (by have := HQ4.out.nd; simp at this; omega) (by simp) (by simp)
                  have H1 : Hid (Pq1 X0 (set3 Y4 (Y2.heap.size) (.string s0_2) (.int .i64 s1_2) (.slice sa_2 sk_2 sc_2)) (Y2.heap.size) (Y1.heap.size) (.string s0_2) (.int .i64 s1_2) (.slice sa_2 sk_2 sc_2) (.string s0_5) (.int .i64 s1_5) (.slice sa_5 sk_5 sc_5) PT) := h1
                  clear h1
                  go_simp
                  refine hK.out _ _ (HTX.out _ H1.out.low) (fun hHeld => ?_)
                  clear hK K
                  refine forgetH (fun W' => Pq1 X0 W' (Y2.heap.size) (Y1.heap.size) (.string s0_2) (.int .i64 s1_2) (.slice sa_2 sk_2 sc_2) (.string s0_5) (.int .i64 s1_5) (.slice sa_5 sk_5 sc_5) PT) H1.out (fun Y5 hq => ?_)
                  have HQ5 : Hid (Pq1 X0 Y5 (Y2.heap.size) (Y1.heap.size) (.string s0_2) (.int .i64 s1_2) (.slice sa_2 sk_2 sc_2) (.string s0_5) (.int .i64 s1_5) (.slice sa_5 sk_5 sc_5) PT) := hq
                  clear hq H1 hHeld z0 z1 z2 zf
                  refine wpAnyH_ready (rs := [9]) (by kernel_rfl) (by simp) (AllReadyH.cons rfl (fun K hK => ?_) AllReadyH.nil)
                  obtain ⟨z0, z1, z2, zf⟩ := HQ5.out.zr
                  go_simp
                  refine hK.out _ _ (HTX.out _ HQ5.out.store.1) (fun hHeld => ?_)
                  clear hK K
                  refine wpAnyH_done (by kernel_rfl) ?_ _
                  go_wp2_with fail
                  go_meet
                  exact ⟨_, _, rfl, rfl, HQ5.out.store⟩
            ·
              go_simp
              refine hK.out _ _ (HTX.out _ HQ0.out.alloc.low) (fun hHeld => ?_)
              clear hK K
              refine forgetH (fun W' => Pq X0 W' [Y0.heap.size] [] PT) HQ0.out.alloc (fun Y1 hq => ?_)
              have HQ1 : Hid (Pq X0 Y1 [Y0.heap.size] [] PT) := hq
              clear hq hHeld
              refine wpAnyH_ready (rs := [2, 7]) (by kernel_rfl) (by simp) (AllReadyH.cons rfl (fun K hK => ?_) (AllReadyH.cons rfl (fun K hK => ?_) AllReadyH.nil))
              ·
                go_simp
                go_at_call 17; refine (all9_any l T _ l.length pc _ w Y1 HVW.out HTW.out (HW0.out.trans (HQ1.out.low.mono HW0.out.size))).mono ?_; rintro e Y2 ⟨v, rfl, hv, hc⟩; obtain ⟨s0_2, s1_2, sa_2, sk_2, sc_2, rfl⟩ := isTyP_form hv; rw [← HPT.out] at hv
                have HQ2 : Hid (Pq X0 Y2 [Y0.heap.size] [(.agg #[.string s0_2, .int .i64 s1_2, .slice sa_2 sk_2 sc_2])] PT) := HQ1.out.call HW0.out.size hv hc
                clear hv hc
                (try dsimp only)
                refine hK.out _ _ (HTX.out _ HQ2.out.low) (fun hHeld => ?_)
                clear hK K hHeld
                refine wpAnyH_ready (rs := [5, 7]) (by kernel_rfl) (by simp) (AllReadyH.cons rfl (fun K hK => ?_) (AllReadyH.cons rfl (fun K hK => ?_) AllReadyH.nil))
                ·
                  go_simp
                  go_at_call 17; refine (all9_any l T _ l.length pc _ w Y2 HVW.out HTW.out (HW0.out.trans (HQ2.out.low.mono HW0.out.size))).mono ?_; rintro e Y3 ⟨v, rfl, hv, hc⟩; obtain ⟨s0_5, s1_5, sa_5, sk_5, sc_5, rfl⟩ := isTyP_form hv; rw [← HPT.out] at hv
                  have HQ3 : Hid (Pq X0 Y3 [Y0.heap.size] [(.agg #[.string s0_5, .int .i64 s1_5, .slice sa_5 sk_5 sc_5]), (.agg #[.string s0_2, .int .i64 s1_2, .slice sa_2 sk_2 sc_2])] PT) := HQ2.out.call HW0.out.size hv hc
                  clear hv hc
                  (try dsimp only)
                  refine hK.out _ _ (HTX.out _ HQ3.out.low) (fun hHeld => ?_)
                  clear hK K hHeld
                  refine wpAnyH_ready (rs := [7]) (by kernel_rfl) (by simp) (AllReadyH.cons rfl (fun K hK => ?_) AllReadyH.nil)
                  go_simp
                  refine hK.out _ _ (HTX.out _ HQ3.out.alloc.low) (fun hHeld => ?_)
                  clear hK K
                  refine forgetH (fun W' => Pq X0 W' [Y3.heap.size, Y0.heap.size] [(.agg #[.string s0_5, .int .i64 s1_5, .slice sa_5 sk_5 sc_5]), (.agg #[.string s0_2, .int .i64 s1_2, .slice sa_2 sk_2 sc_2])] PT) HQ3.out.alloc (fun Y4 hq => ?_)
                  have HQ4 : Hid (Pq X0 Y4 [Y3.heap.size, Y0.heap.size] [(.agg #[.string s0_5, .int .i64 s1_5, .slice sa_5 sk_5 sc_5]), (.agg #[.string s0_2, .int .i64 s1_2, .slice sa_2 sk_2 sc_2])] PT) := hq
                  clear hq hHeld
                  refine wpAnyH_ready (rs := [8]) (by kernel_rfl) (by simp) (AllReadyH.cons rfl (fun K hK => ?_) AllReadyH.nil)
                  obtain ⟨z0, z1, z2, zf⟩ := (HQ4.out.zr (Y0.heap.size) (by simp)).2
                  have h1 := HQ4.out.store (ga := Y0.heap.size) (gb := Y3.heap.size) (c0 := .string s0_2) (c1 := .int .i64 s1_2) (c2 := .slice sa_2 sk_2 sc_2) (e0 := .string s0_5) (e1 := .int .i64 s1_5) (e2 := .slice sa_5 sk_5 sc_5) (by simp) (by simp) (by have := HQ4.out.nd; simp at this; omega) (by simp) (by simp)
                  have H1 : Hid (Pq1 X0 (set3 Y4 (Y0.heap.size) (.string s0_2) (.int .i64 s1_2) (.slice sa_2 sk_2 sc_2)) (Y0.heap.size) (Y3.heap.size) (.string s0_2) (.int .i64 s1_2) (.slice sa_2 sk_2 sc_2) (.string s0_5) (.int .i64 s1_5) (.slice sa_5 sk_5 sc_5) PT) := h1
                  clear h1
                  go_simp
                  refine hK.out _ _ (HTX.out _ H1.out.low) (fun hHeld => ?_)
                  clear hK K
                  refine forgetH (fun W' => Pq1 X0 W' (Y0.heap.size) (Y3.heap.size) (.string s0_2) (.int .i64 s1_2) (.slice sa_2 sk_2 sc_2) (.string s0_5) (.int .i64 s1_5) (.slice sa_5 sk_5 sc_5) PT) H1.out (fun Y5 hq => ?_)
                  have HQ5 : Hid (Pq1 X0 Y5 (Y0.heap.size) (Y3.heap.size) (.string s0_2) (.int .i64 s1_2) (.slice sa_2 sk_2 sc_2) (.string s0_5) (.int .i64 s1_5) (.slice sa_5 sk_5 sc_5) PT) := hq
                  clear hq H1 hHeld z0 z1 z2 zf
                  refine wpAnyH_ready (rs := [9]) (by kernel_rfl) (by simp) (AllReadyH.cons rfl (fun K hK => ?_) AllReadyH.nil)
                  obtain ⟨z0, z1, z2, zf⟩ := HQ5.out.zr
                  go_simp
                  refine hK.out _ _ (HTX.out _ HQ5.out.store.1) (fun hHeld => ?_)
                  clear hK K
                  refine wpAnyH_done (by kernel_rfl) ?_ _
                  go_wp2_with fail
                  go_meet
                  exact ⟨_, _, rfl, rfl, HQ5.out.store⟩
                ·
                  go_simp
                  refine hK.out _ _ (HTX.out _ HQ2.out.alloc.low) (fun hHeld => ?_)
                  clear hK K
                  refine forgetH (fun W' => Pq X0 W' [Y2.heap.size, Y0.heap.size] [(.agg #[.string s0_2, .int .i64 s1_2, .slice sa_2 sk_2 sc_2])] PT) HQ2.out.alloc (fun Y3 hq => ?_)
                  have HQ3 : Hid (Pq X0 Y3 [Y2.heap.size, Y0.heap.size] [(.agg #[.string s0_2, .int .i64 s1_2, .slice sa_2 sk_2 sc_2])] PT) := hq
                  clear hq hHeld
                  refine wpAnyH_ready (rs := [5]) (by kernel_rfl) (by simp) (AllReadyH.cons rfl (fun K hK => ?_) AllReadyH.nil)
                  go_simp
                  go_at_call 17; refine (all9_any l T _ l.length pc _ w Y3 HVW.out HTW.out (HW0.out.trans (HQ3.out.low.mono HW0.out.size))).mono ?_; rintro e Y4 ⟨v, rfl, hv, hc⟩; obtain ⟨s0_5, s1_5, sa_5, sk_5, sc_5, rfl⟩ := isTyP_form hv; rw [← HPT.out] at hv
                  have HQ4 : Hid (Pq X0 Y4 [Y2.heap.size, Y0.heap.size] [(.agg #[.string s0_5, .int .i64 s1_5, .slice sa_5 sk_5 sc_5]), (.agg #[.string s0_2, .int .i64 s1_2, .slice sa_2 sk_2 sc_2])] PT) := HQ3.out.call HW0.out.size hv hc
                  clear hv hc
                  (try dsimp only)
                  refine hK.out _ _ (HTX.out _ HQ4.out.low) (fun hHeld => ?_)
                  clear hK K hHeld
                  refine wpAnyH_ready (rs := [8]) (by kernel_rfl) (by simp) (AllReadyH.cons rfl (fun K hK => ?_) AllReadyH.nil)
                  obtain ⟨z0, z1, z2, zf⟩ := (HQ4.out.zr (Y0.heap.size) (by simp)).2
                  have h1 := HQ4.out.store (ga := Y0.heap.size) (gb := Y2.heap.size) (c0 := .string s0_2) (c1 := .int .i64 s1_2) (c2 := .slice sa_2 sk_2 sc_2) (e0 := .string s0_5) (e1 := .int .i64 s1_5) (e2 := .slice sa_5 sk_5 sc_5) (by simp) (by simp) (by have := HQ4.out.nd; simp at this; omega) (by simp) (by simp)
                  have H1 : Hid (Pq1 X0 (set3 Y4 (Y0.heap.size) (.string s0_2) (.int .i64 s1_2) (.slice sa_2 sk_2 sc_2)) (Y0.heap.size) (Y2.heap.size) (.string s0_2) (.int .i64 s1_2) (.slice sa_2 sk_2 sc_2) (.string s0_5) (.int .i64 s1_5) (.slice sa_5 sk_5 sc_5) PT) := h1
                  clear h1
                  go_simp
                  refine hK.out _ _ (HTX.out _ H1.out.low) (fun hHeld => ?_)
                  clear hK K
                  refine forgetH (fun W' => Pq1 X0 W' (Y0.heap.size) (Y2.heap.size) (.string s0_2) (.int .i64 s1_2) (.slice sa_2 sk_2 sc_2) (.string s0_5) (.int .i64 s1_5) (.slice sa_5 sk_5 sc_5) PT) H1.out (fun Y5 hq => ?_)
                  have HQ5 : Hid (Pq1 X0 Y5 (Y0.heap.size) (Y2.heap.size) (.string s0_2) (.int .i64 s1_2) (.slice sa_2 sk_2 sc_2) (.string s0_5) (.int .i64 s1_5) (.slice sa_5 sk_5 sc_5) PT) := hq
                  clear hq H1 hHeld z0 z1 z2 zf
                  refine wpAnyH_ready (rs := [9]) (by kernel_rfl) (by simp) (AllReadyH.cons rfl (fun K hK => ?_) AllReadyH.nil)
                  obtain ⟨z0, z1, z2, zf⟩ := HQ5.out.zr
                  go_simp
                  refine hK.out _ _ (HTX.out _ HQ5.out.store.1) (fun hHeld => ?_)
                  clear hK K
                  refine wpAnyH_done (by kernel_rfl) ?_ _
                  go_wp2_with fail
                  go_meet
                  exact ⟨_, _, rfl, rfl, HQ5.out.store⟩
              ·
                go_simp
                refine hK.out _ _ (HTX.out _ HQ1.out.alloc.low) (fun hHeld => ?_)
                clear hK K
                refine forgetH (fun W' => Pq X0 W' [Y1.heap.size, Y0.heap.size] [] PT) HQ1.out.alloc (fun Y2 hq => ?_)
                have HQ2 : Hid (Pq X0 Y2 [Y1.heap.size, Y0.heap.size] [] PT) := hq
                clear hq hHeld
                refine wpAnyH_ready (rs := [2]) (by kernel_rfl) (by simp) (AllReadyH.cons rfl (fun K hK => ?_) AllReadyH.nil)
                go_simp
                go_at_call 17; refine (all9_any l T _ l.length pc _ w Y2 HVW.out HTW.out (HW0.out.trans (HQ2.out.low.mono HW0.out.size))).mono ?_; rintro e Y3 ⟨v, rfl, hv, hc⟩; obtain ⟨s0_2, s1_2, sa_2, sk_2, sc_2, rfl⟩ := isTyP_form hv; rw [← HPT.out] at hv
                have HQ3 : Hid (Pq X0 Y3 [Y1.heap.size, Y0.heap.size] [(.agg #[.string s0_2, .int .i64 s1_2, .slice sa_2 sk_2 sc_2])] PT) := HQ2.out.call HW0.out.size hv hc
                clear hv hc
                (try dsimp only)
                refine hK.out _ _ (HTX.out _ HQ3.out.low) (fun hHeld => ?_)
                clear hK K hHeld
                refine wpAnyH_ready (rs := [5]) (by kernel_rfl) (by simp) (AllReadyH.cons rfl (fun K hK => ?_) AllReadyH.nil)
                go_simp
                go_at_call 17; refine (all9_any l T _ l.length pc _ w Y3 HVW.out HTW.out (HW0.out.trans (HQ3.out.low.mono HW0.out.size))).mono ?_; rintro e Y4 ⟨v, rfl, hv, hc⟩; obtain ⟨s0_5, s1_5, sa_5, sk_5, sc_5, rfl⟩ := isTyP_form hv; rw [← HPT.out] at hv
                have HQ4 : Hid (Pq X0 Y4 [Y1.heap.size, Y0.heap.size] [(.agg #[.string s0_5, .int .i64 s1_5, .slice sa_5 sk_5 sc_5]), (.agg #[.string s0_2, .int .i64 s1_2, .slice sa_2 sk_2 sc_2])] PT) := HQ3.out.call HW0.out.size hv hc
                clear hv hc
                (try dsimp only)
                refine hK.out _ _ (HTX.out _ HQ4.out.low) (fun hHeld => ?_)
                clear hK K hHeld
                refine wpAnyH_ready (rs := [8]) (by kernel_rfl) (by simp) (AllReadyH.cons rfl (fun K hK => ?_) AllReadyH.nil)
                obtain ⟨z0, z1, z2, zf⟩ := (HQ4.out.zr (Y0.heap.size) (by simp)).2
                have h1 := HQ4.out.store (ga := Y0.heap.size) (gb := Y1.heap.size) (c0 := .string s0_2) (c1 := .int .i64 s1_2) (c2 := .slice sa_2 sk_2 sc_2) (e0 := .string s0_5) (e1 := .int .i64 s1_5) (e2 := .slice sa_5 sk_5 sc_5) (by simp) (by simp) (by have := HQ4.out.nd; simp at this; omega) (by simp) (by simp)
                have H1 : Hid (Pq1 X0 (set3 Y4 (Y0.heap.size) (.string s0_2) (.int .i64 s1_2) (.slice sa_2 sk_2 sc_2)) (Y0.heap.size) (Y1.heap.size) (.string s0_2) (.int .i64 s1_2) (.slice sa_2 sk_2 sc_2) (.string s0_5) (.int .i64 s1_5) (.slice sa_5 sk_5 sc_5) PT) := h1
                clear h1
                go_simp
                refine hK.out _ _ (HTX.out _ H1.out.low) (fun hHeld => ?_)
                clear hK K
                refine forgetH (fun W' => Pq1 X0 W' (Y0.heap.size) (Y1.heap.size) (.string s0_2) (.int .i64 s1_2) (.slice sa_2 sk_2 sc_2) (.string s0_5) (.int .i64 s1_5) (.slice sa_5 sk_5 sc_5) PT) H1.out (fun Y5 hq => ?_)
                have HQ5 : Hid (Pq1 X0 Y5 (Y0.heap.size) (Y1.heap.size) (.string s0_2) (.int .i64 s1_2) (.slice sa_2 sk_2 sc_2) (.string s0_5) (.int .i64 s1_5) (.slice sa_5 sk_5 sc_5) PT) := hq
                clear hq H1 hHeld z0 z1 z2 zf
                refine wpAnyH_ready (rs := [9]) (by kernel_rfl) (by simp) (AllReadyH.cons rfl (fun K hK => ?_) AllReadyH.nil)
                obtain ⟨z0, z1, z2, zf⟩ := HQ5.out.zr
                go_simp
                refine hK.out _ _ (HTX.out _ HQ5.out.store.1) (fun hHeld => ?_)
                clear hK K
                refine wpAnyH_done (by kernel_rfl) ?_ _
                go_wp2_with fail
                go_meet
                exact ⟨_, _, rfl, rfl, HQ5.out.store⟩
            ·
              go_simp
              refine hK.out _ _ (HTX.out _ HQ0.out.alloc.low) (fun hHeld => ?_)
              clear hK K
              refine forgetH (fun W' => Pq X0 W' [Y0.heap.size] [] PT) HQ0.out.alloc (fun Y1 hq => ?_)
              have HQ1 : Hid (Pq X0 Y1 [Y0.heap.size] [] PT) := hq
              clear hq hHeld
              refine wpAnyH_ready (rs := [2, 6]) (by kernel_rfl) (by simp) (AllReadyH.cons rfl (fun K hK => ?_) (AllReadyH.cons rfl (fun K hK => ?_) AllReadyH.nil))
              ·
                go_simp
                go_at_call 17; refine (all9_any l T _ l.length pc _ w Y1 HVW.out HTW.out (HW0.out.trans (HQ1.out.low.mono HW0.out.size))).mono ?_; rintro e Y2 ⟨v, rfl, hv, hc⟩; obtain ⟨s0_2, s1_2, sa_2, sk_2, sc_2, rfl⟩ := isTyP_form hv; rw [← HPT.out] at hv
                have HQ2 : Hid (Pq X0 Y2 [Y0.heap.size] [(.agg #[.string s0_2, .int .i64 s1_2, .slice sa_2 sk_2 sc_2])] PT) := HQ1.out.call HW0.out.size hv hc
                clear hv hc
                (try dsimp only)
                refine hK.out _ _ (HTX.out _ HQ2.out.low) (fun hHeld => ?_)
                clear hK K hHeld
                refine wpAnyH_ready (rs := [5, 6]) (by kernel_rfl) (by simp) (AllReadyH.cons rfl (fun K hK => ?_) (AllReadyH.cons rfl (fun K hK => ?_) AllReadyH.nil))
                ·
                  go_simp
                  go_at_call 17; refine (all9_any l T _ l.length pc _ w Y2 HVW.out HTW.out (HW0.out.trans (HQ2.out.low.mono HW0.out.size))).mono ?_; rintro e Y3 ⟨v, rfl, hv, hc⟩; obtain ⟨s0_5, s1_5, sa_5, sk_5, sc_5, rfl⟩ := isTyP_form hv; rw [← HPT.out] at hv
                  have HQ3 : Hid (Pq X0 Y3 [Y0.heap.size] [(.agg #[.string s0_5, .int .i64 s1_5, .slice sa_5 sk_5 sc_5]), (.agg #[.string s0_2, .int .i64 s1_2, .slice sa_2 sk_2 sc_2])] PT) := HQ2.out.call HW0.out.size hv hc
                  clear hv hc
                  (try dsimp only)
                  refine hK.out _ _ (HTX.out _ HQ3.out.low) (fun hHeld => ?_)
                  clear hK K hHeld
                  refine wpAnyH_ready (rs := [6]) (by kernel_rfl) (by simp) (AllReadyH.cons rfl (fun K hK => ?_) AllReadyH.nil)
                  go_simp
                  refine hK.out _ _ (HTX.out _ HQ3.out.alloc.low) (fun hHeld => ?_)
                  clear hK K
                  refine forgetH (fun W' => Pq X0 W' [Y3.heap.size, Y0.heap.size] [(.agg #[.string s0_5, .int .i64 s1_5, .slice sa_5 sk_5 sc_5]), (.agg #[.string s0_2, .int .i64 s1_2, .slice sa_2 sk_2 sc_2])] PT) HQ3.out.alloc (fun Y4 hq => ?_)
                  have HQ4 : Hid (Pq X0 Y4 [Y3.heap.size, Y0.heap.size] [(.agg #[.string s0_5, .int .i64 s1_5, .slice sa_5 sk_5 sc_5]), (.agg #[.string s0_2, .int .i64 s1_2, .slice sa_2 sk_2 sc_2])] PT) := hq
                  clear hq hHeld
                  refine wpAnyH_ready (rs := [8]) (by kernel_rfl) (by simp) (AllReadyH.cons rfl (fun K hK => ?_) AllReadyH.nil)
                  obtain ⟨z0, z1, z2, zf⟩ := (HQ4.out.zr (Y3.heap.size) (by simp)).2
                  have h1 := HQ4.out.store (ga := Y3.heap.size) (gb := Y0.heap.size) (c0 := .string s0_2) (c1 := .int .i64 s1_2) (c2 := .slice sa_2 sk_2 sc_2) (e0 := .string s0_5) (e1 := .int .i64 s1_5) (e2 := .slice sa_5 sk_5 sc_5) (by simp) (by simp) (by have := HQ4.out.nd; simp at this; omega) (by simp) (by simp)
                  have H1 : Hid (Pq1 X0 (set3 Y4 (Y3.heap.size) (.string s0_2) (.int .i64 s1_2) (.slice sa_2 sk_2 sc_2)) (Y3.heap.size) (Y0.heap.size) (.string s0_2) (.int .i64 s1_2) (.slice sa_2 sk_2 sc_2) (.string s0_5) (.int .i64 s1_5) (.slice sa_5 sk_5 sc_5) PT) := h1
                  clear h1
                  go_simp
                  refine hK.out _ _ (HTX.out _ H1.out.low) (fun hHeld => ?_)
                  clear hK K
                  refine forgetH (fun W' => Pq1 X0 W' (Y3.heap.size) (Y0.heap.size) (.string s0_2) (.int .i64 s1_2) (.slice sa_2 sk_2 sc_2) (.string s0_5) (.int .i64 s1_5) (.slice sa_5 sk_5 sc_5) PT) H1.out (fun Y5 hq => ?_)
                  have HQ5 : Hid (Pq1 X0 Y5 (Y3.heap.size) (Y0.heap.size) (.string s0_2) (.int .i64 s1_2) (.slice sa_2 sk_2 sc_2) (.string s0_5) (.int .i64 s1_5) (.slice sa_5 sk_5 sc_5) PT) := hq
                  clear hq H1 hHeld z0 z1 z2 zf
                  refine wpAnyH_ready (rs := [9]) (by kernel_rfl) (by simp) (AllReadyH.cons rfl (fun K hK => ?_) AllReadyH.nil)
                  obtain ⟨z0, z1, z2, zf⟩ := HQ5.out.zr
                  go_simp
                  refine hK.out _ _ (HTX.out _ HQ5.out.store.1) (fun hHeld => ?_)
                  clear hK K
                  refine wpAnyH_done (by kernel_rfl) ?_ _
                  go_wp2_with fail
                  go_meet
                  exact ⟨_, _, rfl, rfl, HQ5.out.store⟩
                ·
                  go_simp
                  refine hK.out _ _ (HTX.out _ HQ2.out.alloc.low) (fun hHeld => ?_)
                  clear hK K
                  refine forgetH (fun W' => Pq X0 W' [Y2.heap.size, Y0.heap.size] [(.agg #[.string s0_2, .int .i64 s1_2, .slice sa_2 sk_2 sc_2])] PT) HQ2.out.alloc (fun Y3 hq => ?_)
                  have HQ3 : Hid (Pq X0 Y3 [Y2.heap.size, Y0.heap.size] [(.agg #[.string s0_2, .int .i64 s1_2, .slice sa_2 sk_2 sc_2])] PT) := hq
                  clear hq hHeld
                  refine wpAnyH_ready (rs := [5]) (by kernel_rfl) (by simp) (AllReadyH.cons rfl (fun K hK => ?_) AllReadyH.nil)
                  go_simp
                  go_at_call 17; refine (all9_any l T _ l.length pc _ w Y3 HVW.out HTW.out (HW0.out.trans (HQ3.out.low.mono HW0.out.size))).mono ?_; rintro e Y4 ⟨v, rfl, hv, hc⟩; obtain ⟨s0_5, s1_5, sa_5, sk_5, sc_5, rfl⟩ := isTyP_form hv; rw [← HPT.out] at hv
                  have HQ4 : Hid (Pq X0 Y4 [Y2.heap.size, Y0.heap.size] [(.agg #[.string s0_5, .int .i64 s1_5, .slice sa_5 sk_5 sc_5]), (.agg #[.string s0_2, .int .i64 s1_2, .slice sa_2 sk_2 sc_2])] PT) := HQ3.out.call HW0.out.size hv hc
                  clear hv hc
                  (try dsimp only)
                  refine hK.out _ _ (HTX.out _ HQ4.out.low) (fun hHeld => ?_)
                  clear hK K hHeld
                  refine wpAnyH_ready (rs := [8]) (by kernel_rfl) (by simp) (AllReadyH.cons rfl (fun K hK => ?_) AllReadyH.nil)
                  obtain ⟨z0, z1, z2, zf⟩ := (HQ4.out.zr (Y2.heap.size) (by simp)).2
                  have h1 := HQ4.out.store (ga := Y2.heap.size) (gb := Y0.heap.size) (c0 := .string s0_2) (c1 := .int .i64 s1_2) (c2 := .slice sa_2 sk_2 sc_2) (e0 := .string s0_5) (e1 := .int .i64 s1_5) (e2 := .slice sa_5 sk_5 sc_5) (by simp) (by simp) (by have := HQ4.out.nd; simp at this; omega) (by simp) (by simp)
                  have H1 : Hid (Pq1 X0 (set3 Y4 (Y2.heap.size) (.string s0_2) (.int .i64 s1_2) (.slice sa_2 sk_2 sc_2)) (Y2.heap.size) (Y0.heap.size) (.string s0_2) (.int .i64 s1_2) (.slice sa_2 sk_2 sc_2) (.string s0_5) (.int .i64 s1_5) (.slice sa_5 sk_5 sc_5) PT) := h1
                  clear h1
                  go_simp
                  refine hK.out _ _ (HTX.out _ H1.out.low) (fun hHeld => ?_)
                  clear hK K
                  refine forgetH (fun W' => Pq1 X0 W' (Y2.heap.size) (Y0.heap.size) (.string s0_2) (.int .i64 s1_2) (.slice sa_2 sk_2 sc_2) (.string s0_5) (.int .i64 s1_5) (.slice sa_5 sk_5 sc_5) PT) H1.out (fun Y5 hq => ?_)
                  have HQ5 : Hid (Pq1 X0 Y5 (Y2.heap.size) (Y0.heap.size) (.string s0_2) (.int .i64 s1_2) (.slice sa_2 sk_2 sc_2) (.string s0_5) (.int .i64 s1_5) (.slice sa_5 sk_5 sc_5) PT) := hq
                  clear hq H1 hHeld z0 z1 z2 zf
                  refine wpAnyH_ready (rs := [9]) (by kernel_rfl) (by simp) (AllReadyH.cons rfl (fun K hK => ?_) AllReadyH.nil)
                  obtain ⟨z0, z1, z2, zf⟩ := HQ5.out.zr
                  go_simp
                  refine hK.out _ _ (HTX.out _ HQ5.out.store.1) (fun hHeld => ?_)
                  clear hK K
                  refine wpAnyH_done (by kernel_rfl) ?_ _
                  go_wp2_with fail
                  go_meet
                  exact ⟨_, _, rfl, rfl, HQ5.out.store⟩
              ·
                go_simp
                refine hK.out _ _ (HTX.out _ HQ1.out.alloc.low) (fun hHeld => ?_)
                clear hK K
                refine forgetH (fun W' => Pq X0 W' [Y1.heap.size, Y0.heap.size] [] PT) HQ1.out.alloc (fun Y2 hq => ?_)
                have HQ2 : Hid (Pq X0 Y2 [Y1.heap.size, Y0.heap.size] [] PT) := hq
                clear hq hHeld
                refine wpAnyH_ready (rs := [2]) (by kernel_rfl) (by simp) (AllReadyH.cons rfl (fun K hK => ?_) AllReadyH.nil)
                go_simp
                go_at_call 17; refine (all9_any l T _ l.length pc _ w Y2 HVW.out HTW.out (HW0.out.trans (HQ2.out.low.mono HW0.out.size))).mono ?_; rintro e Y3 ⟨v, rfl, hv, hc⟩; obtain ⟨s0_2, s1_2, sa_2, sk_2, sc_2, rfl⟩ := isTyP_form hv; rw [← HPT.out] at hv
                have HQ3 : Hid (Pq X0 Y3 [Y1.heap.size, Y0.heap.size] [(.agg #[.string s0_2, .int .i64 s1_2, .slice sa_2 sk_2 sc_2])] PT) := HQ2.out.call HW0.out.size hv hc
                clear hv hc
                (try dsimp only)
                refine hK.out _ _ (HTX.out _ HQ3.out.low) (fun hHeld => ?_)
                clear hK K hHeld
                refine wpAnyH_ready (rs := [5]) (by kernel_rfl) (by simp) (AllReadyH.cons rfl (fun K hK => ?_) AllReadyH.nil)
                go_simp
                go_at_call 17; refine (all9_any l T _ l.length pc _ w Y3 HVW.out HTW.out (HW0.out.trans (HQ3.out.low.mono HW0.out.size))).mono ?_; rintro e Y4 ⟨v, rfl, hv, hc⟩; obtain ⟨s0_5, s1_5, sa_5, sk_5, sc_5, rfl⟩ := isTyP_form hv; rw [← HPT.out] at hv
                have HQ4 : Hid (Pq X0 Y4 [Y1.heap.size, Y0.heap.size] [(.agg #[.string s0_5, .int .i64 s1_5, .slice sa_5 sk_5 sc_5]), (.agg #[.string s0_2, .int .i64 s1_2, .slice sa_2 sk_2 sc_2])] PT) := HQ3.out.call HW0.out.size hv hc
                clear hv hc
                (try dsimp only)
                refine hK.out _ _ (HTX.out _ HQ4.out.low) (fun hHeld => ?_)
                clear hK K hHeld
                refine wpAnyH_ready (rs := [8]) (by kernel_rfl) (by simp) (AllReadyH.cons rfl (fun K hK => ?_) AllReadyH.nil)
                obtain ⟨z0, z1, z2, zf⟩ := (HQ4.out.zr (Y1.heap.size) (by simp)).2
                have h1 := HQ4.out.store (ga := Y1.heap.size) (gb := Y0.heap.size) (c0 := .string s0_2) (c1 := .int .i64 s1_2) (c2 := .slice sa_2 sk_2 sc_2) (e0 := .string s0_5) (e1 := .int .i64 s1_5) (e2 := .slice sa_5 sk_5 sc_5) (by simp) (by simp) (by have := HQ4.out.nd; simp at this; omega) (by simp) (by simp)
                have H1 : Hid (Pq1 X0 (set3 Y4 (Y1.heap.size) (.string s0_2) (.int .i64 s1_2) (.slice sa_2 sk_2 sc_2)) (Y1.heap.size) (Y0.heap.size) (.string s0_2) (.int .i64 s1_2) (.slice sa_2 sk_2 sc_2) (.string s0_5) (.int .i64 s1_5) (.slice sa_5 sk_5 sc_5) PT) := h1
                clear h1
                go_simp
                refine hK.out _ _ (HTX.out _ H1.out.low) (fun hHeld => ?_)
                clear hK K
                refine forgetH (fun W' => Pq1 X0 W' (Y1.heap.size) (Y0.heap.size) (.string s0_2) (.int .i64 s1_2) (.slice sa_2 sk_2 sc_2) (.string s0_5) (.int .i64 s1_5) (.slice sa_5 sk_5 sc_5) PT) H1.out (fun Y5 hq => ?_)
                have HQ5 : Hid (Pq1 X0 Y5 (Y1.heap.size) (Y0.heap.size) (.string s0_2) (.int .i64 s1_2) (.slice sa_2 sk_2 sc_2) (.string s0_5) (.int .i64 s1_5) (.slice sa_5 sk_5 sc_5) PT) := hq
                clear hq H1 hHeld z0 z1 z2 zf
                refine wpAnyH_ready (rs := [9]) (by kernel_rfl) (by simp) (AllReadyH.cons rfl (fun K hK => ?_) AllReadyH.nil)
                obtain ⟨z0, z1, z2, zf⟩ := HQ5.out.zr
                go_simp
                refine hK.out _ _ (HTX.out _ HQ5.out.store.1) (fun hHeld => ?_)
                clear hK K
                refine wpAnyH_done (by kernel_rfl) ?_ _
                go_wp2_with fail
                go_meet
                exact ⟨_, _, rfl, rfl, HQ5.out.store⟩
          case rest =>
            obtain ⟨ga, gb, rfl, rfl, HPQ⟩ := hcut
            obtain ⟨x7, hx7⟩ : ∃ x, x = wc := ⟨_, rfl⟩
            rw [← hx7] at HPQ
            rw [← hx7]
            clear hx7
            obtain ⟨hl7, e0, e1, ea, ek, ec, n0, n1, na, nk, nc, hxa, hxb, hta, htb⟩ := HPQ.out
            have HL7 : Hid (Below X0.heap.size X0 x7) := hl7
            have HBA : Hid (∀ w', Below x7.heap.size x7 w' → w'.cell? ⟨ga, 0, none⟩ = some (.string e0) ∧ w'.cell? ⟨ga, 1, none⟩ = some (.int .i64 e1) ∧ w'.cell? ⟨ga, 2, none⟩ = some (.slice ea ek ec) ∧ w'.cell? ⟨gb, 0, none⟩ = some (.string n0) ∧ w'.cell? ⟨gb, 1, none⟩ = some (.int .i64 n1) ∧ w'.cell? ⟨gb, 2, none⟩ = some (.slice na nk nc)) := fun w' h => by
              have h1 := hxa.below h
              have h2 := hxb.below h
              exact ⟨h1.c0, h1.c1, h1.c2, h2.c0, h2.c1, h2.c2⟩
            have HTA : Hid (∀ w', Below x7.heap.size x7 w' → IsTy w' PT (.agg #[.string e0, .int .i64 e1, .slice ea ek ec]) ∧ IsTy w' PT (.agg #[.string n0, .int .i64 n1, .slice na nk nc])) := fun w' h => ⟨isTy_below h _ _ hta, isTy_below h _ _ htb⟩
            have HGX : Hid (Below v2.heap.size v2 x7) := HG3.out.trans (hl7.mono HG3.out.size)
            have HFX : Hid (Below w3.heap.size w3 x7) := HF3.out.trans (hl7.mono HF3.out.size)
            have HM7 : Hid (M9s x7 w3.heap.size w3.heap.size w4.heap.size U (l.take j ++ [p]) (l.take j ++ [p]) ((j : Int) + 1) (psz (l.take j) + p.1.size + p.2.size) Mn d dom Z vv tt D) := HM2.out.below HGX.out
            clear R0
            have f0 : Below x7.heap.size x7 x7.drew := (Below.refl _ _).drew
            have R0 : Hid (Rd x7.drew w3.heap.size w4.heap.size d D) := (HRD.out.below HGX.out).below f0
            have HNE : Hid (tsame (tnorm (tsub d PT)) (tnorm (tsub (ofD D) PT)) = true) := (tsame_iff _ _).2 (HM7.out.fac HPK.out.1)
            have HN1 : Hid (thin (tsub d PT) = true ∧ (tvars (tsub d PT) []).length ≤ 1000000) := ⟨thin_of_teach _ (HM7.out.teachS HPK.out.1), Nat.le_trans (HM7.out.varsS HPK.out.1 HPK.out.2.1) (Nat.le_trans HPK.out.2.2.2.2 (by decide))⟩
            have HN2 : Hid (thin (tsub (ofD D) PT) = true ∧ (tvars (tsub (ofD D) PT) []).length ≤ 1000000) := ⟨thin_of_teach _ (of_teach HM7.out.x.good HPK.out.1), Nat.le_trans (vars_len (HM7.out.x.din.sub HM7.out.x.good HPK.out.1 HPK.out.2.1)) (Nat.le_trans HPK.out.2.2.2.2 (by decide))⟩
            have HOX : Hid (OfOk D w4.heap.size PT) := rOf_any D HM7.out.x.good w4.heap.size PT HPK.out.1
            clear hl7 hxa hxb hta htb HPQ HU H3 HW HB1 HB2 HQ1 HS HB3 HI HTX HTB HC HPA HPB HR HVX HM0 hc1 hc2 hj hlt hj0 hjl HS1 HA1 HSA O1 R1 O2 G2 HC2 HG3 HF3 HM2
            go_wp2_with fail
            go_region_held (fun w' => w'.cell? ⟨ga, 0, none⟩ = some (.string e0) ∧ w'.cell? ⟨ga, 1, none⟩ = some (.int .i64 e1) ∧ w'.cell? ⟨ga, 2, none⟩ = some (.slice ea ek ec) ∧ w'.cell? ⟨gb, 0, none⟩ = some (.string n0) ∧ w'.cell? ⟨gb, 1, none⟩ = some (.int .i64 n1) ∧ w'.cell? ⟨gb, 2, none⟩ = some (.slice na nk nc))
              (with_reducible (first | exact HBA.out _ f5 | exact HBA.out _ f4 | exact HBA.out _ f3 | exact HBA.out _ f2 | exact HBA.out _ f1 | exact HBA.out _ f0))
              (first
                | (go_at_call 15; refine (rtSame_any _ _ _ _ _ (isTy_below (Q3.out.trans (Q4.out.mono Q3.out.size)) _ _ O2.out) O4.out).mono ?_; rintro e z5 ⟨rfl, hc⟩; rw [HNE.out]; have f5 := f4.trans (hc.mono f4.size); clear hc)
                | (go_at_call 18; have dq := f3; clear dq; refine (rtNorm_thin (tsub (ofD D) PT) _ _ O3.out HN2.out.1 HN2.out.2).mono ?_; rintro e z4 ⟨t4, rfl, ho, hc⟩; obtain ⟨t40, t41, t4a, t4k, t4c, rfl⟩ := isTyP_form ho; have O4 : Hid (IsTy z4 (tnorm (tsub (ofD D) PT)) (.agg #[.string t40, .int .i64 t41, .slice t4a t4k t4c])) := isTyP_is _ _ ho; have Q4 : Hid (Below z3.heap.size z3 z4) := hc; have f4 := f3.trans (hc.mono f3.size); clear hc ho)
                | (go_at_call 19; refine (HOX.out _ _ (HTA.out _ f2).2 R2.out.2).mono ?_; rintro e z3 ⟨t3, rfl, ho, hc⟩; obtain ⟨t30, t31, t3a, t3k, t3c, rfl⟩ := isTyP_form ho; have O3 : Hid (IsTy z3 (tsub (ofD D) PT) (.agg #[.string t30, .int .i64 t31, .slice t3a t3k t3c])) := isTyP_is _ _ ho; have Q3 : Hid (Below z2.heap.size z2 z3) := hc; have f3 := f2.trans (hc.mono f2.size); clear hc ho)
                | (go_at_call 18; refine (rtNorm_thin (tsub d PT) _ _ O1.out HN1.out.1 HN1.out.2).mono ?_; rintro e z2 ⟨t2, rfl, ho, hc⟩; obtain ⟨t20, t21, t2a, t2k, t2c, rfl⟩ := isTyP_form ho; have O2 : Hid (IsTy z2 (tnorm (tsub d PT)) (.agg #[.string t20, .int .i64 t21, .slice t2a t2k t2c])) := isTyP_is _ _ ho; have R2 : Hid (Rd z2 w3.heap.size w4.heap.size d D) := R1.out.below hc; have f2 := f1.trans (hc.mono f1.size); clear hc ho)
                | (go_at_call 16; refine (uOf_any (some w3.heap.size) d PT HPK.out.1 _ _ (HTA.out _ f0).1 R0.out.1).mono ?_; rintro e z1 ⟨t1, rfl, ho, hc⟩; obtain ⟨t10, t11, t1a, t1k, t1c, rfl⟩ := isTyP_form ho; have O1 : Hid (IsTy z1 (tsub d PT) (.agg #[.string t10, .int .i64 t11, .slice t1a t1k t1c])) := isTyP_is _ _ ho; have R1 : Hid (Rd z1 w3.heap.size w4.heap.size d D) := R0.out.below hc; have f1 := f0.trans (hc.mono f0.size); clear hc ho))
            all_goals
              have HF5 : Hid (Below x7.heap.size x7 z5) := f5
              clear f0 f1 f2 f3 f4 f5
              have HME : Hid (M9 z5 w3.heap.size w3.heap.size w4.heap.size U (l.take (j + 1)) (l.take (j + 1)) ((j : Int) + 1) (psz (l.take (j + 1)))) := by
                rw [Hid, take_next HP.out.1, ← take_next HP.out.1, HLE.out.2, take_next HP.out.1]
                exact ⟨_, _, _, _, _, _, _, HM7.out.below HF5.out⟩
              have hj0 : (0 : Int) ≤ (j : Int) := by omega
              have hj20 : (j : Int) < 20 := by have := HJ.out; have := HL.out.1; omega
              go_wp2_with fail
              go_roundw
              case rel => exact ⟨j + 1, by have := HJ.out; omega, by go_num, HME.out, HFX.out.trans (HF5.out.mono HFX.out.size)⟩
              case measure => have := HJ.out; simp [intOf]; omega
    · obtain rfl : j = l.length := by omega
      obtain ⟨Mn, d, dom, Z, vv, tt, D, hM⟩ := HR.out.1
      have HM7 : Hid (M9s wr w3.heap.size w3.heap.size w4.heap.size U (l.take l.length) (l.take l.length) ((l.length : Nat) : Int) (psz (l.take l.length)) Mn d dom Z vv tt D) := hM
      have HRD : Hid (Rd wr w3.heap.size w4.heap.size d D) := hM.rd (Nat.le_trans (psz_take l _) (Nat.le_trans HL.out.2.1 (by decide)))
      have f0 : Below w3.heap.size w3 wr.drew := HR.out.2.drew
      have R0 : Hid (Rd wr.drew w3.heap.size w4.heap.size d D) := HRD.out.below (Below.refl _ _).drew
      have HNE : Hid (tsame (tnorm (tsub d T)) (tnorm (tsub (ofD D) T)) = true) := (tsame_iff _ _).2 (hM.fac HI.out)
      have HN1 : Hid (thin (tsub d T) = true ∧ (tvars (tsub d T) []).length ≤ 1000000) := ⟨thin_of_teach _ (hM.teachS HI.out), Nat.le_trans (hM.varsS HI.out HPK.out.2.2.1) (Nat.le_trans HPK.out.2.2.2.2 (by decide))⟩
      have HN2 : Hid (thin (tsub (ofD D) T) = true ∧ (tvars (tsub (ofD D) T) []).length ≤ 1000000) := ⟨thin_of_teach _ (of_teach hM.x.good HI.out), Nat.le_trans (vars_len (hM.x.din.sub hM.x.good HI.out HPK.out.2.2.1)) (Nat.le_trans HPK.out.2.2.2.2 (by decide))⟩
      have HOX : Hid (OfOk D w4.heap.size T) := rOf_any D hM.x.good w4.heap.size T HI.out
      have HTT : Hid (∀ w', Below w3.heap.size w3 w' → IsTy w' T (.agg #[.string op, .int .i64 tn, .slice a k cap])) := fun w' h => HU.out _ (HW3.out.trans (h.mono HW3.out.size))
      clear hM hj hlt
      go_wp2_with fail
      go_region_held (fun w' => w'.cell? ⟨w.heap.size, 0, none⟩ = some (.string op) ∧ w'.cell? ⟨w.heap.size, 1, none⟩ = some (.int .i64 tn) ∧ w'.cell? ⟨w.heap.size, 2, none⟩ = some (.slice a k cap))
        (with_reducible (first | exact HTB.out _ f6 | exact HTB.out _ f5 | exact HTB.out _ f4 | exact HTB.out _ f3 | exact HTB.out _ f2 | exact HTB.out _ f1 | exact HTB.out _ f0))
        (first
          | (go_at_call 14; refine (known9_any _).mono ?_; rintro e z6 ⟨rfl, hc⟩; have f6 := f5.trans (hc.mono f5.size); clear hc)
          | (go_at_call 15; refine (rtSame_any _ _ _ _ _ (isTy_below (Q3.out.trans (Q4.out.mono Q3.out.size)) _ _ O2.out) O4.out).mono ?_; rintro e z5 ⟨rfl, hc⟩; rw [HNE.out]; have f5 := f4.trans (hc.mono f4.size); clear hc)
          | (go_at_call 18; have dq := f3; clear dq; refine (rtNorm_thin (tsub (ofD D) T) _ _ O3.out HN2.out.1 HN2.out.2).mono ?_; rintro e z4 ⟨t4, rfl, ho, hc⟩; obtain ⟨t40, t41, t4a, t4k, t4c, rfl⟩ := isTyP_form ho; have O4 : Hid (IsTy z4 (tnorm (tsub (ofD D) T)) (.agg #[.string t40, .int .i64 t41, .slice t4a t4k t4c])) := isTyP_is _ _ ho; have Q4 : Hid (Below z3.heap.size z3 z4) := hc; have f4 := f3.trans (hc.mono f3.size); clear hc ho)
          | (go_at_call 19; refine (HOX.out _ _ (HTT.out _ f2) R2.out.2).mono ?_; rintro e z3 ⟨t3, rfl, ho, hc⟩; obtain ⟨t30, t31, t3a, t3k, t3c, rfl⟩ := isTyP_form ho; have O3 : Hid (IsTy z3 (tsub (ofD D) T) (.agg #[.string t30, .int .i64 t31, .slice t3a t3k t3c])) := isTyP_is _ _ ho; have Q3 : Hid (Below z2.heap.size z2 z3) := hc; have f3 := f2.trans (hc.mono f2.size); clear hc ho)
          | (go_at_call 18; refine (rtNorm_thin (tsub d T) _ _ O1.out HN1.out.1 HN1.out.2).mono ?_; rintro e z2 ⟨t2, rfl, ho, hc⟩; obtain ⟨t20, t21, t2a, t2k, t2c, rfl⟩ := isTyP_form ho; have O2 : Hid (IsTy z2 (tnorm (tsub d T)) (.agg #[.string t20, .int .i64 t21, .slice t2a t2k t2c])) := isTyP_is _ _ ho; have R2 : Hid (Rd z2 w3.heap.size w4.heap.size d D) := R1.out.below hc; have f2 := f1.trans (hc.mono f1.size); clear hc ho)
          | (go_at_call 16; refine (uOf_any (some w3.heap.size) d T HI.out _ _ (HTT.out _ f0) R0.out.1).mono ?_; rintro e z1 ⟨t1, rfl, ho, hc⟩; obtain ⟨t10, t11, t1a, t1k, t1c, rfl⟩ := isTyP_form ho; have O1 : Hid (IsTy z1 (tsub d T) (.agg #[.string t10, .int .i64 t11, .slice t1a t1k t1c])) := isTyP_is _ _ ho; have R1 : Hid (Rd z1 w3.heap.size w4.heap.size d D) := R0.out.below hc; have f1 := f0.trans (hc.mono f0.size); clear hc ho))
      all_goals
        go_wp2_with fail
        go_ret
        exact ⟨rfl, HW3.out.trans (f6.mono HW3.out.size)⟩

theorem unifyMakes_own : ownKnob Try.prog.godebug = none := by kernel_rfl
theorem unifyMakes_laidOut : laidOutB Try.prog = true := by kernel_rfl
set_option maxRecDepth 100000 in
theorem unifyMakes_lifted (os : Os) (started : os.Started) (H : Type) (enc : TypeId × Value → H) :
    ReturnsInHanded {} Try.checked os 3 .any (Rows.unifyMakesSpec.pre6 enc Try.prog Try.f3 Rows.unifyMakesRow.domain false) (Rows.unifyMakesSpec.post enc Try.prog Try.f3 false true false false) := by
  refine returnsInHanded_of_change_sized (C := Try.checked) unifyMakes_own started (by kernel_rfl) Try.func3
    (ChangeSpec.witness6 (enc := enc) (C := Try.checked) false ⟨#[], #[.slice none 0 0, .agg #[.string ByteArray.empty, .int .i64 0, .slice none 0 0]], []⟩ 8 (by kernel_rfl) (by kernel_rfl) (by kernel_rfl) (by kernel_rfl)) ?_
  intro W base args ds gs before hval0 hW hcnd hsz0 _
  have hval : ∀ (j : Nat) t v, Try.f3.params[j]? = some t → args[j]? = some v → Value.okWide Try.prog W .any base t v := hval0
  have hW' := hW
  obtain ⟨p, q, hA0, hV, rfl, hfz, hnd⟩ := hW
  have hA : DataW.TrodAll enc Try.prog W 0 (fun _ => true) true Try.f3.params.toList args.toList ds p := hA0
  have hsz : (DataW.weightsEach Try.prog (Try.f3.params.toList ++ Rows.unifyMakesSpec.plain.varTypes Try.prog) (ds ++ gs)).all (· ≤ reachBytes) = true := hsz0
  rw [Try.params3] at hA hval hsz
  obtain ⟨v0, vs0, d0, ds0, p0, q0, hargs, rfl, rfl, h0, r0⟩ := trodAll_cons hA
  obtain ⟨v1, vs1, d1, ds1, p1, q1, rfl, rfl, rfl, h1, r1⟩ := trodAll_cons r0
  obtain ⟨rfl, rfl, rfl⟩ := trodAll_nil r1
  obtain rfl : args = #[v0, v1] := by cases args; simp_all
  obtain ⟨rfl, rfl⟩ := trodVars_none hV
  have lt0 : ∀ x ∈ p0, x.block < W.heap.size := by obtain ⟨m, hm⟩ := h0; exact DataW.trod_lt m _ _ _ hm
  have o0 := open_pairs (hval 0 22 v0 rfl rfl) h0 (Em.sized_arg hsz 0 rfl rfl)
  have lt1 : ∀ x ∈ p1, x.block < W.heap.size := by obtain ⟨m, hm⟩ := h1; exact DataW.trod_lt m _ _ _ hm
  have o1 := open_ty (hval 1 25 v1 rfl rfl) h1 (Em.sized_arg hsz 1 rfl rfl)
  clear hsz0 hsz
  clear hA0 hval0
  refine (walk_unifyMakes W v0 v1 o0 o1).mono fun e W' ⟨he, bel⟩ => ?_
  subst he
  exact ⟨_, rfl, _, _, _, [], _, [], hW', trodAll_mk1 (shut_bool Try.underlying4 _), (trodAll_cons_mk (Below.trod unifyMakes_laidOut (by kernel_rfl) (of_decide_eq_true (by kernel_rfl)) h0 bel lt0) (trodAll_cons_mk (Below.trod unifyMakes_laidOut (by kernel_rfl) (of_decide_eq_true (by kernel_rfl)) h1 bel lt1) trodAll_mk0)), rfl, bel.frame _, fun h => by cases h⟩
theorem unifyMakes_holds : Rows.UnifyMakesSaid :=
  OpenClaim.holds_of_wide 3 Try.f3 rfl rfl rfl rfl rfl rfl rfl ⟨rfl, rfl, rfl, rfl, rfl⟩ rfl rfl rfl rfl rfl (by kernel_rfl) Try.func3 (by kernel_rfl)
    (of_decide_eq_true (by kernel_rfl)) (by unfold Func.isWrapper; first | (rw [if_pos (by decide +kernel)]; kernel_rfl) | (rw [if_neg (by decide +kernel)]; exact ⟨rfl, rfl⟩))
    (fun os started H enc _ => unifyMakes_lifted os started H enc)
#print axioms unifyMakes_holds
end Go.Proofs.Ytadhjnbhcenocaa

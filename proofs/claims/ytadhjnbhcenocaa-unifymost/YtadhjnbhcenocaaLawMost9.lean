/- UnifyMost: what makes a type and the same with types put for its vars one gives those types. -/
import Derived.Test.YtadhjnbhcenocaaRows
import Derived.Test.YtadhjnbhcenocaaUfW
import Derived.Test.YtadhjnbhcenocaaRTypC
import Derived.Test.YtadhjnbhcenocaaRTypV
import Derived.Test.YtadhjnbhcenocaaRTypP
import Derived.Test.YtadhjnbhcenocaaMath9j
import Derived.Test.YtadhjnbhcenocaaFrameP
import Derived.Test.YtadhjnbhcenocaaFrame
import Derived.Test.YtadhjnbhcenocaaFrame2
import Derived.Test.YtadhjnbhcenocaaFrameT
import Derived.Deep.RegionHeld
namespace Go.Proofs.Ytadhjnbhcenocaa
open Go.ChangeShapes Go.WideShapes Go.ChangeAt Go.RowKit Go.Em8 Go.Em9
set_option linter.unusedVariables false
set_option linter.unusedSimpArgs false

theorem isTy_teach {T : Ty} (h : isTy T = true) : teach T = true := by
  unfold isTy at h
  simp only [Bool.and_eq_true] at h
  exact h.2
/-- Where a type that lies below may lie. -/
theorem isTy_far {w w' : World} {T : Ty} {v : Value} (h : IsTy w T v) (hb : Below w.heap.size w w') {Mn : Nat → Prop} (hM : ∀ k, Mn k → w.heap.size ≤ k) : IsTyP (fun k => ¬ Mn k) w' T v :=
  isTyP_keep hb.size (fun k hp hl => ⟨hb.block k hl, fun e => absurd (hM k e) (by omega)⟩) _ _ (isTy_isP _ _ h)

set_option maxRecDepth 100000 in
set_option maxHeartbeats 8000000 in
theorem walk_unifyMost (w : World) (u vb : Value) (hu : ∃ T, IsTy w T u) (hb : ∃ l, IsTys w vb l) :
    Calls Try.prog 6 #[u, vb] w fun e w' => e = .returned (.bool true) ∧ Below w.heap.size w w' := by
  obtain ⟨T, hu⟩ := hu
  obtain ⟨l, hb⟩ := hb
  have HU : Hid (∀ w', Below w.heap.size w w' → IsTy w' T u) := fun w' h => isTy_below h _ _ hu
  obtain ⟨op, tn, a, k, cap, rfl⟩ := isTyP_form (isTy_isP _ _ hu)
  obtain ⟨ba, bc, rfl, hbc1, hbc2, hbel⟩ := hb
  have HBY : Hid (0 < l.length → ∃ b off, ba = some ⟨b, off, none⟩ ∧ b < w.heap.size ∧ TysAt w b off l) := hbel
  have HBC : Hid (l.length ≤ bc ∧ bc ≤ 9223372036854775807) := ⟨hbc1, hbc2⟩
  obtain ⟨W, hW⟩ : ∃ W, W = w.alloc (.cells #[.string op, .int .i64 tn, .slice a k cap] 25) := ⟨_, rfl⟩
  have hbW : Below w.heap.size w W := by rw [hW]; exact (Below.refl _ _).alloc (Nat.le_refl _) _
  have k0 : W.cell? ⟨w.heap.size, 0, none⟩ = some (.string op) := by rw [hW]; simp
  have k1 : W.cell? ⟨w.heap.size, 1, none⟩ = some (.int .i64 tn) := by rw [hW]; simp
  have k2 : W.cell? ⟨w.heap.size, 2, none⟩ = some (.slice a k cap) := by rw [hW]; simp
  have H3 : Hid (∀ w', Below W.heap.size W w' → w'.cell? ⟨w.heap.size, 0, none⟩ = some (.string op) ∧ w'.cell? ⟨w.heap.size, 1, none⟩ = some (.int .i64 tn) ∧ w'.cell? ⟨w.heap.size, 2, none⟩ = some (.slice a k cap)) := fun w' h => by
    have hl : w.heap.size < W.heap.size := by rw [hW]; simp
    have key : ∀ o, w'.cell? ⟨w.heap.size, o, none⟩ = W.cell? ⟨w.heap.size, o, none⟩ := fun o => h.cell (p := ⟨w.heap.size, o, none⟩) hl
    exact ⟨(key 0).trans k0, (key 1).trans k1, (key 2).trans k2⟩
  have HW : Hid (Below w.heap.size w W ∧ W.heap.size = w.heap.size + 1) := ⟨hbW, by rw [hW]; simp⟩
  have HWE : Hid (w.alloc (.cells #[.string op, .int .i64 tn, .slice a k cap] 25) = W) := hW.symm
  clear hW hbW hu hbel hbc1 hbc2
  go_enter Try.func6, Try.ntmps6
  go_upto_region 1 with fail
  rw [HWE.out]
  clear HWE
  go_wp2_with fail
  refine (rtsize_any T _ _ 100 (HU.out _ HW.out.1) (by omega) (by omega)).mono ?_
  rintro e w1 ⟨rfl, hb1⟩
  have HB1 : Hid (Below W.heap.size W w1) := hb1
  obtain ⟨q, hq⟩ : ∃ q, q = decide (25 < T.size) := ⟨_, rfl⟩
  have HQ : Hid (decide ((25 : Int) < ((min T.size 100 : Nat) : Int)) = q) := by rw [Hid, hq, decide_eq_decide]; omega
  have HQ1 : Hid (q = decide (25 < T.size)) := hq
  generalize min T.size 100 = z at HQ
  clear k0 k1 k2 hb1 hq
  obtain ⟨k0, k1, k2⟩ := H3.out _ HB1.out
  have hz := HQ.out
  cases q with
  | true =>
    go_wp2_with fail
    go_ret
    exact ⟨rfl, HW.out.1.trans (HB1.out.mono HW.out.1.size)⟩
  | false =>
  have HS : Hid (T.size ≤ 25) := by have := of_decide_eq_false HQ1.out.symm; show _ ≤ _; omega
  go_wp2_with fail
  refine (rtIs_any T _ _ (HU.out _ (HW.out.1.trans (HB1.out.mono HW.out.1.size)))).mono ?_
  rintro e w2 ⟨rfl, hb2⟩
  have HB2 : Hid (Below W.heap.size W w2) := HB1.out.trans (hb2.mono HB1.out.size)
  have HB2w : Hid (Below w.heap.size w w2) := HW.out.1.trans (HB2.out.mono HW.out.1.size)
  clear k0 k1 k2 hb2 hz HQ
  obtain ⟨k0, k1, k2⟩ := H3.out _ HB2.out
  cases hi : isTy T with
  | false =>
    go_wp2_with fail
    go_ret
    exact ⟨rfl, HB2w.out⟩
  | true =>
  have HI : Hid (teach T = true) := isTy_teach hi
  clear hi
  by_cases hby6 : (6 : Int) < (l.length : Int)
  · go_wp2_with fail
    go_ret
    exact ⟨rfl, HB2w.out⟩
  have HL6 : Hid (l.length ≤ 6) := by show _ ≤ _; omega
  go_wp2_with fail
  refine (rtVars_any T _ _ (HU.out _ HB2w.out) (by have := HS.out; omega)).mono ?_
  rintro e w3 ⟨uv, rfl, hov, hiv, hb3⟩
  have HB3 : Hid (Below W.heap.size W w3) := HB2.out.trans (hb3.mono HB2.out.size)
  have HB3w : Hid (Below w.heap.size w w3) := HW.out.1.trans (HB3.out.mono HW.out.1.size)
  obtain ⟨va, vc, hve⟩ := hov.form
  subst hve
  obtain ⟨L, hL⟩ : ∃ L, L = tvars T [] := ⟨_, rfl⟩
  rw [← hL] at hov hiv
  rw [← hL]
  have HLE : Hid (L = tvars T []) := hL
  have HVL : Hid (L.length ≤ 25) := by have := tvars_len T []; have := HS.out; show _ ≤ _; rw [hL]; simp at *; omega
  have HOV : Hid (OwnInts w3 w2.heap.size (.slice va L.length vc) L ∧ ∀ x ∈ L, Em5.I64 x) := ⟨hov, hiv⟩
  clear hb3 hov hiv hL k0 k1 k2 hby6
  go_wp2_with fail
  go_loopw [6, 7] (fun bv i wr => ∃ (j : Nat) (TO : List Ty), j ≤ L.length ∧ TO.length = j ∧ i = .int .i64 j ∧ Hid (OwnTys (fun b => b < w.heap.size) 25 wr w3.heap.size bv TO ∧ (∀ b ∈ TO, (teach b = true ∧ tvars b [] = []) ∧ b.size ≤ 8) ∧ Below w3.heap.size w3 wr)) (fun _ i _ => L.length - (intOf i).toNat)
  case atStart => exact ⟨0, [], Nat.zero_le _, rfl, rfl, Em8.OwnTys.nil _ _ _ _, by simp, Below.refl _ _⟩
  case round =>
    obtain ⟨j, TO, hj, hTO, rfl, HR⟩ := hrel
    obtain ⟨ta, tc, hbv, -, -⟩ := ownTys_form HR.out.1
    rw [hTO] at hbv
    subst hbv
    have HRW : Hid (Below w.heap.size w wr) := HB3w.out.trans (HR.out.2.2.mono HB3w.out.size)
    have HTO : Hid (TO.length = j) := hTO
    have hL25 : L.length ≤ 25 := HVL.out
    clear hTO
    by_cases hlt : j < L.length
    · have HJ : Hid (j < L.length) := hlt
      by_cases hjl : (j : Int) < (l.length : Int)
      · obtain ⟨D, hD⟩ : ∃ D, l[j]? = some D := ⟨_, List.getElem?_eq_getElem (by omega)⟩
        obtain ⟨bb, boff, hbe, hbl, hat⟩ := HBY.out (by omega)
        obtain ⟨c0, c1, c2, m0, m1, m2, hk⟩ := tysAt_get l boff j D hat hD
        obtain ⟨d0, d1, da, dk, dc, hde⟩ := isTyP_form (isTy_isP _ _ hk)
        simp only [Value.agg.injEq, Array.mk.injEq, List.cons.injEq, and_true] at hde
        obtain ⟨rfl, rfl, rfl⟩ := hde
        subst hbe
        have key : ∀ o, wr.cell? ⟨bb, o, none⟩ = w.cell? ⟨bb, o, none⟩ := fun o => HRW.out.cell (p := ⟨bb, o, none⟩) hbl
        rw [← key] at m0 m1 m2
        have hj0 : (0 : Int) ≤ (j : Int) := by omega
        go_upto_region 10 with fail
        obtain ⟨X0, hX0⟩ : ∃ X, X = wr.alloc (.cells #[.string ⟨#[105, 110, 116]⟩, .int .i64 0, .slice none 0 0] 25) := ⟨_, rfl⟩
        rw [← hX0]
        have bX0 : Below wr.heap.size wr X0 := by rw [hX0]; exact (Below.refl _ _).alloc (Nat.le_refl _) _
        have zX0 : X0.heap.size = wr.heap.size + 1 := by rw [hX0]; simp
        have o0 : X0.cell? ⟨wr.heap.size, 0, none⟩ = some (.string ⟨#[105, 110, 116]⟩) := by rw [hX0]; simp
        have o1 : X0.cell? ⟨wr.heap.size, 1, none⟩ = some (.int .i64 0) := by rw [hX0]; simp
        have o2 : X0.cell? ⟨wr.heap.size, 2, none⟩ = some (.slice none 0 0) := by rw [hX0]; simp
        have of : ∀ o, X0.frozen? ⟨wr.heap.size, o, none⟩ = false := fun o => by rw [hX0]; simp [go_sem]
        have key0 : ∀ o, X0.cell? ⟨bb, o, none⟩ = wr.cell? ⟨bb, o, none⟩ := fun o => bX0.cell (p := ⟨bb, o, none⟩) (by have := HRW.out.size; simp only; omega)
        rw [← key0] at m0 m1 m2
        have BX0 : Hid (Below wr.heap.size wr X0 ∧ X0.heap.size = wr.heap.size + 1) := ⟨bX0, zX0⟩
        clear hX0 bX0 zX0
        go_upto_region 11 with fail
        obtain ⟨X, hX⟩ : ∃ X, X = ((X0.setCell ⟨wr.heap.size, 0, none⟩ (.string d0)).setCell ⟨wr.heap.size, 1, none⟩ (.int .i64 d1)).setCell ⟨wr.heap.size, 2, none⟩ (.slice da dk dc) := ⟨_, rfl⟩
        rw [← hX]
        have bX : Below wr.heap.size wr X := by rw [hX]; exact below_set3 (g := wr.heap.size) BX0.out.1 (Nat.le_refl _) _ _ _
        have zX : X.heap.size = wr.heap.size + 1 := by rw [hX]; simp; exact BX0.out.2
        have x0 : X.cell? ⟨wr.heap.size, 0, none⟩ = some (.string d0) := by rw [hX]; simp [go_sem, o0, o1, o2]
        have x1 : X.cell? ⟨wr.heap.size, 1, none⟩ = some (.int .i64 d1) := by rw [hX]; simp [go_sem, o0, o1, o2]
        have x2 : X.cell? ⟨wr.heap.size, 2, none⟩ = some (.slice da dk dc) := by rw [hX]; simp [go_sem, o0, o1, o2]
        have hkP := isTy_isP _ _ hk
        clear m0 m1 m2 key hat hk o0 o1 o2 of key0
        have HXD : Hid (∀ w', Below w.heap.size w w' → IsTyP (fun b => b < w.heap.size) w' D (.agg #[.string d0, .int .i64 d1, .slice da dk dc])) := fun w' h => isTyP_keep h.size (fun b hp hl => ⟨h.block b hl, hp⟩) _ _ hkP
        have HXC : Hid (∀ w', Below X.heap.size X w' → w'.cell? ⟨wr.heap.size, 0, none⟩ = some (.string d0) ∧ w'.cell? ⟨wr.heap.size, 1, none⟩ = some (.int .i64 d1) ∧ w'.cell? ⟨wr.heap.size, 2, none⟩ = some (.slice da dk dc)) := fun w' h => by
          have hl : wr.heap.size < X.heap.size := by rw [zX]; omega
          have key : ∀ o, w'.cell? ⟨wr.heap.size, o, none⟩ = X.cell? ⟨wr.heap.size, o, none⟩ := fun o => h.cell (p := ⟨wr.heap.size, o, none⟩) hl
          exact ⟨(key 0).trans x0, (key 1).trans x1, (key 2).trans x2⟩
        have HXB : Hid (Below wr.heap.size wr X) := bX
        have HXW : Hid (Below w.heap.size w X) := HRW.out.trans (bX.mono HRW.out.size)
        clear bX zX hX
        go_wp2_with fail
        refine (rtsize_any D _ _ 100 (isTyP_is _ _ (HXD.out _ HXW.out)) (by omega) (by omega)).mono ?_
        rintro e y1 ⟨rfl, hc1⟩
        have HY1 : Hid (Below X.heap.size X y1) := hc1
        obtain ⟨q, hq⟩ : ∃ q, q = decide (8 < D.size) := ⟨_, rfl⟩
        have HQ : Hid (decide ((8 : Int) < ((min D.size 100 : Nat) : Int)) = q) := by rw [Hid, hq, decide_eq_decide]; omega
        have HQ2 : Hid (q = decide (8 < D.size)) := hq
        generalize min D.size 100 = z2 at HQ
        clear x0 x1 x2 hc1 hq
        obtain ⟨x0, x1, x2⟩ := HXC.out _ HY1.out
        have hz := HQ.out
        cases q with
        | true =>
          go_wp2_with fail
          go_ret
          exact ⟨rfl, HXW.out.trans (HY1.out.mono HXW.out.size)⟩
        | false =>
        have HDS : Hid (D.size ≤ 8) := by have := of_decide_eq_false HQ2.out.symm; show _ ≤ _; omega
        go_wp2_with fail
        refine (rtIs_any D _ _ (isTyP_is _ _ (HXD.out _ (HXW.out.trans (HY1.out.mono HXW.out.size))))).mono ?_
        rintro e y2 ⟨rfl, hc2⟩
        have HY2 : Hid (Below X.heap.size X y2) := HY1.out.trans (hc2.mono HY1.out.size)
        have HY2w : Hid (Below w.heap.size w y2) := HXW.out.trans (HY2.out.mono HXW.out.size)
        clear x0 x1 x2 hc2 hz HQ
        obtain ⟨x0, x1, x2⟩ := HXC.out _ HY2.out
        cases hi : isTy D with
        | false =>
          go_wp2_with fail
          go_ret
          exact ⟨rfl, HY2w.out⟩
        | true =>
        have HDI : Hid (teach D = true) := isTy_teach hi
        clear hi
        go_wp2_with fail
        refine (rtVars_any D _ _ (isTyP_is _ _ (HXD.out _ HY2w.out)) (by have := HDS.out; omega)).mono ?_
        rintro e y3 ⟨uv, rfl, hov, -, hc3⟩
        have HY3 : Hid (Below X.heap.size X y3) := HY2.out.trans (hc3.mono HY2.out.size)
        have HY3w : Hid (Below w.heap.size w y3) := HXW.out.trans (HY3.out.mono HXW.out.size)
        obtain ⟨va2, vc2, hve2⟩ := hov.form
        subst hve2
        obtain ⟨m, hm⟩ : ∃ m, m = (tvars D []).length := ⟨_, rfl⟩
        rw [← hm]
        have HMV : Hid (m = (tvars D []).length) := hm
        clear hov hc3 x0 x1 x2 hm
        obtain ⟨x0, x1, x2⟩ := HXC.out _ HY3.out
        by_cases hm0 : (0 : Int) < (m : Int)
        · go_wp2_with fail
          go_ret
          exact ⟨rfl, HY3w.out⟩
        have HD0 : Hid (tvars D [] = []) := List.eq_nil_of_length_eq_zero (by have := HMV.out; omega)
        have HB9 : Hid (Below w3.heap.size w3 y3) := HR.out.2.2.trans ((HXB.out.trans (HY3.out.mono HXB.out.size)).mono HR.out.2.2.size)
        have HO9 : Hid (OwnTys (fun b => b < w.heap.size) 25 y3 w3.heap.size (.slice ta j tc) TO) := ownTys_below HR.out.1 (HXB.out.trans (HY3.out.mono HXB.out.size))
        have HT9 : Hid (IsTyP (fun b => b < w.heap.size ∧ some b ≠ (Value.slice ta j tc).ownBlock) y3 D (.agg #[.string d0, .int .i64 d1, .slice da dk dc])) := isTyP_wide (HXD.out _ HY3w.out) fun b hb _ => ⟨hb, fun e => by
          obtain ⟨cs, -, hrow, -⟩ := HO9.out
          have h1 := (World.ownsRow.lt hrow b e.symm).1
          have h2 := HB3w.out.size
          omega⟩
        have htl : TO.length ≤ 1000000 := by have := HTO.out; omega
        go_wp2_with (at_builtin; refine wpList_app_ty (P := fun b => b < w.heap.size) (w := y3) (by rfl) _ _ (by rfl) w3.heap.size (.slice ta j tc) TO (by rfl) HO9.out D _ _ _ HT9.out _ (by first | rfl | simp) (by rfl) htl HB9.out.size ?_; intro v5 y5 o5 hb5; have HB5 : Hid (Below w3.heap.size w3 y5) := HB9.out.trans hb5; clear hb5)
        go_roundw
        case rel => exact ⟨j + 1, TO ++ [D], by have := HJ.out; omega, by simp [HTO.out], by go_num, o5, fun b hb => by
          rcases List.mem_append.1 hb with hb | hb
          · exact HR.out.2.1 b hb
          · simp at hb; subst hb; exact ⟨⟨HDI.out, HD0.out⟩, HDS.out⟩, HB5.out⟩
        case measure => have := HJ.out; simp [intOf]; omega
      · go_upto_region 11 with fail
        obtain ⟨D, hDe⟩ : ∃ D, D = Ty.mk tInt 0 [] := ⟨_, rfl⟩
        obtain ⟨d0, hd0⟩ : ∃ d, d = (⟨#[105, 110, 116]⟩ : ByteArray) := ⟨_, rfl⟩
        obtain ⟨d1, hd1⟩ : ∃ d : Int, d = 0 := ⟨_, rfl⟩
        obtain ⟨da, hda⟩ : ∃ d : Option Addr, d = none := ⟨_, rfl⟩
        obtain ⟨dk, hdk⟩ : ∃ d : Nat, d = 0 := ⟨_, rfl⟩
        obtain ⟨dc, hdc⟩ : ∃ d : Nat, d = 0 := ⟨_, rfl⟩
        obtain ⟨X, hX⟩ : ∃ X, X = wr.alloc (.cells #[.string ⟨#[105, 110, 116]⟩, .int .i64 0, .slice none 0 0] 25) := ⟨_, rfl⟩
        rw [← hX]
        have bX : Below wr.heap.size wr X := by rw [hX]; exact (Below.refl _ _).alloc (Nat.le_refl _) _
        have zX : X.heap.size = wr.heap.size + 1 := by rw [hX]; simp
        have x0 : X.cell? ⟨wr.heap.size, 0, none⟩ = some (.string d0) := by rw [hX, hd0]; simp
        have x1 : X.cell? ⟨wr.heap.size, 1, none⟩ = some (.int .i64 d1) := by rw [hX, hd1]; simp
        have x2 : X.cell? ⟨wr.heap.size, 2, none⟩ = some (.slice da dk dc) := by rw [hX, hda, hdk, hdc]; simp
        have hkP : ∀ w', IsTyP (fun b => b < w.heap.size) w' D (.agg #[.string d0, .int .i64 d1, .slice da dk dc]) := fun w' => by
          rw [hDe, hd0, hd1, hda, hdk, hdc]; exact isTyP_leaf _ w' (op := tInt) ⟨by decide, by decide⟩ (by unfold Em5.I64; decide)
        clear hDe hd0 hd1 hda hdk hdc
        have HXD : Hid (∀ w', Below w.heap.size w w' → IsTyP (fun b => b < w.heap.size) w' D (.agg #[.string d0, .int .i64 d1, .slice da dk dc])) := fun w' _ => hkP w'
        have HXC : Hid (∀ w', Below X.heap.size X w' → w'.cell? ⟨wr.heap.size, 0, none⟩ = some (.string d0) ∧ w'.cell? ⟨wr.heap.size, 1, none⟩ = some (.int .i64 d1) ∧ w'.cell? ⟨wr.heap.size, 2, none⟩ = some (.slice da dk dc)) := fun w' h => by
          have hl : wr.heap.size < X.heap.size := by rw [zX]; omega
          have key : ∀ o, w'.cell? ⟨wr.heap.size, o, none⟩ = X.cell? ⟨wr.heap.size, o, none⟩ := fun o => h.cell (p := ⟨wr.heap.size, o, none⟩) hl
          exact ⟨(key 0).trans x0, (key 1).trans x1, (key 2).trans x2⟩
        have HXB : Hid (Below wr.heap.size wr X) := bX
        have HXW : Hid (Below w.heap.size w X) := HRW.out.trans (bX.mono HRW.out.size)
        clear bX zX hX
        go_wp2_with fail
        refine (rtsize_any D _ _ 100 (isTyP_is _ _ (HXD.out _ HXW.out)) (by omega) (by omega)).mono ?_
        rintro e y1 ⟨rfl, hc1⟩
        have HY1 : Hid (Below X.heap.size X y1) := hc1
        obtain ⟨q, hq⟩ : ∃ q, q = decide (8 < D.size) := ⟨_, rfl⟩
        have HQ : Hid (decide ((8 : Int) < ((min D.size 100 : Nat) : Int)) = q) := by rw [Hid, hq, decide_eq_decide]; omega
        have HQ2 : Hid (q = decide (8 < D.size)) := hq
        generalize min D.size 100 = z2 at HQ
        clear x0 x1 x2 hc1 hq
        obtain ⟨x0, x1, x2⟩ := HXC.out _ HY1.out
        have hz := HQ.out
        cases q with
        | true =>
          go_wp2_with fail
          go_ret
          exact ⟨rfl, HXW.out.trans (HY1.out.mono HXW.out.size)⟩
        | false =>
        have HDS : Hid (D.size ≤ 8) := by have := of_decide_eq_false HQ2.out.symm; show _ ≤ _; omega
        go_wp2_with fail
        refine (rtIs_any D _ _ (isTyP_is _ _ (HXD.out _ (HXW.out.trans (HY1.out.mono HXW.out.size))))).mono ?_
        rintro e y2 ⟨rfl, hc2⟩
        have HY2 : Hid (Below X.heap.size X y2) := HY1.out.trans (hc2.mono HY1.out.size)
        have HY2w : Hid (Below w.heap.size w y2) := HXW.out.trans (HY2.out.mono HXW.out.size)
        clear x0 x1 x2 hc2 hz HQ
        obtain ⟨x0, x1, x2⟩ := HXC.out _ HY2.out
        cases hi : isTy D with
        | false =>
          go_wp2_with fail
          go_ret
          exact ⟨rfl, HY2w.out⟩
        | true =>
        have HDI : Hid (teach D = true) := isTy_teach hi
        clear hi
        go_wp2_with fail
        refine (rtVars_any D _ _ (isTyP_is _ _ (HXD.out _ HY2w.out)) (by have := HDS.out; omega)).mono ?_
        rintro e y3 ⟨uv, rfl, hov, -, hc3⟩
        have HY3 : Hid (Below X.heap.size X y3) := HY2.out.trans (hc3.mono HY2.out.size)
        have HY3w : Hid (Below w.heap.size w y3) := HXW.out.trans (HY3.out.mono HXW.out.size)
        obtain ⟨va2, vc2, hve2⟩ := hov.form
        subst hve2
        obtain ⟨m, hm⟩ : ∃ m, m = (tvars D []).length := ⟨_, rfl⟩
        rw [← hm]
        have HMV : Hid (m = (tvars D []).length) := hm
        clear hov hc3 x0 x1 x2 hm
        obtain ⟨x0, x1, x2⟩ := HXC.out _ HY3.out
        by_cases hm0 : (0 : Int) < (m : Int)
        · go_wp2_with fail
          go_ret
          exact ⟨rfl, HY3w.out⟩
        have HD0 : Hid (tvars D [] = []) := List.eq_nil_of_length_eq_zero (by have := HMV.out; omega)
        have HB9 : Hid (Below w3.heap.size w3 y3) := HR.out.2.2.trans ((HXB.out.trans (HY3.out.mono HXB.out.size)).mono HR.out.2.2.size)
        have HO9 : Hid (OwnTys (fun b => b < w.heap.size) 25 y3 w3.heap.size (.slice ta j tc) TO) := ownTys_below HR.out.1 (HXB.out.trans (HY3.out.mono HXB.out.size))
        have HT9 : Hid (IsTyP (fun b => b < w.heap.size ∧ some b ≠ (Value.slice ta j tc).ownBlock) y3 D (.agg #[.string d0, .int .i64 d1, .slice da dk dc])) := isTyP_wide (HXD.out _ HY3w.out) fun b hb _ => ⟨hb, fun e => by
          obtain ⟨cs, -, hrow, -⟩ := HO9.out
          have h1 := (World.ownsRow.lt hrow b e.symm).1
          have h2 := HB3w.out.size
          omega⟩
        have htl : TO.length ≤ 1000000 := by have := HTO.out; omega
        go_wp2_with (at_builtin; refine wpList_app_ty (P := fun b => b < w.heap.size) (w := y3) (by rfl) _ _ (by rfl) w3.heap.size (.slice ta j tc) TO (by rfl) HO9.out D _ _ _ HT9.out _ (by first | rfl | simp) (by rfl) htl HB9.out.size ?_; intro v5 y5 o5 hb5; have HB5 : Hid (Below w3.heap.size w3 y5) := HB9.out.trans hb5; clear hb5)
        go_roundw
        case rel => exact ⟨j + 1, TO ++ [D], by have := HJ.out; omega, by simp [HTO.out], by go_num, o5, fun b hb => by
          rcases List.mem_append.1 hb with hb | hb
          · exact HR.out.2.1 b hb
          · simp at hb; subst hb; exact ⟨⟨HDI.out, HD0.out⟩, HDS.out⟩, HB5.out⟩
        case measure => have := HJ.out; simp [intOf]; omega
    · obtain rfl : j = L.length := by omega
      have hbW : Below W.heap.size W wr := HB3.out.trans (HR.out.2.2.mono HB3.out.size)
      obtain ⟨k0, k1, k2⟩ := H3.out wr hbW
      have HI2 : Hid (IsInts wr (.slice va L.length vc) L) := OwnInts.is (HOV.out.1.below HR.out.2.2) HOV.out.2
      have HT : Hid (IsTysP (fun b => b < w.heap.size) wr (.slice ta L.length tc) TO) := ownTys_isP HR.out.1
      have HTP : Hid (IsTyP (fun b => b < w.heap.size) wr T (.agg #[.string op, .int .i64 tn, .slice a k cap])) := isTyP_keep HRW.out.size (fun b hp hl => ⟨HRW.out.block b hl, hp⟩) _ _ (isTy_isP _ _ (HU.out _ (Below.refl _ _)))
      have HTL : Hid (TO.length = L.length) := HTO.out
      have HTG : Hid (∀ b ∈ TO, (teach b = true ∧ tvars b [] = []) ∧ b.size ≤ 8) := HR.out.2.1
      have HZ : Hid (w.heap.size < wr.heap.size) := by have := HW.out.2; have := hbW.size; show _ < _; omega
      clear hbW
      go_wp2_with fail
      refine (rtPut_any (fun b => b < w.heap.size) L TO _ _ wr HI2.out HT.out (by rw [HTL.out]; exact Nat.le_refl _) (fun b hb => Nat.lt_trans hb HZ.out) T _ wr HTP.out (Below.refl _ _) (thin_of_teach T HI.out)).mono ?_
      rintro e w4 ⟨u4, rfl, hu4, hb4⟩
      obtain ⟨z0, z1, za, zk, zc, rfl⟩ := isTyP_form hu4
      obtain ⟨Bt, hBt⟩ : ∃ Bt, Bt = tput L TO T := ⟨_, rfl⟩
      rw [← hBt] at hu4
      have HU4 : Hid (IsTy w4 Bt (.agg #[.string z0, .int .i64 z1, .slice za zk zc])) := isTyP_is _ _ hu4
      have HB4 : Hid (Below wr.heap.size wr w4) := hb4
      have HPL : Hid (TO.length = (tvars T []).length) := by rw [Hid, HTL.out, HLE.out]
      have HBE : Hid (Bt = tput (tvars T []) TO T) := by rw [Hid, hBt, HLE.out]
      have HBT : Hid (teach Bt = true ∧ Bt.size ≤ 200) := by
        have h1 := put_ok HI.out HPL.out (fun b hb => (HTG.out b hb).1)
        have h2 := put_size (M := 8) (by decide) HI.out HPL.out (fun b hb => (HTG.out b hb).2)
        rw [← HBE.out] at h1 h2
        exact ⟨h1.1, Nat.le_trans h2 (by have := HS.out; omega)⟩
      obtain ⟨X4, hX4⟩ : ∃ X, X = w4.alloc (.cells #[.string z0, .int .i64 z1, .slice za zk zc] 25) := ⟨_, rfl⟩
      have HX4E : Hid (w4.alloc (.cells #[.string z0, .int .i64 z1, .slice za zk zc] 25) = X4) := hX4.symm
      have bX4 : Below w4.heap.size w4 X4 := by rw [hX4]; exact (Below.refl _ _).alloc (Nat.le_refl _) _
      have n0 : X4.cell? ⟨w4.heap.size, 0, none⟩ = some (.string z0) := by rw [hX4]; simp
      have n1 : X4.cell? ⟨w4.heap.size, 1, none⟩ = some (.int .i64 z1) := by rw [hX4]; simp
      have n2 : X4.cell? ⟨w4.heap.size, 2, none⟩ = some (.slice za zk zc) := by rw [hX4]; simp
      have HN : Hid (X4.cell? ⟨w4.heap.size, 0, none⟩ = some (.string z0) ∧ X4.cell? ⟨w4.heap.size, 1, none⟩ = some (.int .i64 z1) ∧ X4.cell? ⟨w4.heap.size, 2, none⟩ = some (.slice za zk zc) ∧ w4.heap.size < X4.heap.size) := ⟨n0, n1, n2, by rw [hX4]; simp⟩
      have bRX : Below wr.heap.size wr X4 := hb4.trans (bX4.mono hb4.size)
      have HRX : Hid (Below wr.heap.size wr X4) := bRX
      have HWX : Hid (Below W.heap.size W X4 ∧ Below w.heap.size w X4) := by
        have h1 : Below W.heap.size W wr := HB3.out.trans (HR.out.2.2.mono HB3.out.size)
        exact ⟨h1.trans (bRX.mono h1.size), HRW.out.trans (bRX.mono HRW.out.size)⟩
      have HBX : Hid (∀ w', Below X4.heap.size X4 w' → w'.cell? ⟨w.heap.size, 0, none⟩ = some (.string op) ∧ w'.cell? ⟨w.heap.size, 1, none⟩ = some (.int .i64 tn) ∧ w'.cell? ⟨w.heap.size, 2, none⟩ = some (.slice a k cap) ∧ w'.cell? ⟨w4.heap.size, 0, none⟩ = some (.string z0) ∧ w'.cell? ⟨w4.heap.size, 1, none⟩ = some (.int .i64 z1) ∧ w'.cell? ⟨w4.heap.size, 2, none⟩ = some (.slice za zk zc)) := fun w' h => by
        obtain ⟨e0, e1, e2⟩ := H3.out w' (HWX.out.1.trans (h.mono HWX.out.1.size))
        have key : ∀ o, w'.cell? ⟨w4.heap.size, o, none⟩ = X4.cell? ⟨w4.heap.size, o, none⟩ := fun o => h.cell (p := ⟨w4.heap.size, o, none⟩) HN.out.2.2.2
        exact ⟨e0, e1, e2, (key 0).trans HN.out.1, (key 1).trans HN.out.2.1, (key 2).trans HN.out.2.2.1⟩
      have HDA : Hid (∀ w', Below X4.heap.size X4 w' → IsTy w' T (.agg #[.string op, .int .i64 tn, .slice a k cap])) := fun w' h => HU.out _ (HWX.out.2.trans (h.mono HWX.out.2.size))
      have HDB : Hid (∀ w', Below X4.heap.size X4 w' → IsTy w' Bt (.agg #[.string z0, .int .i64 z1, .slice za zk zc])) := fun w' h => isTy_below (bX4.trans (h.mono bX4.size)) _ _ HU4.out
      have HSB : Hid (tsame Bt Bt = true) := (tsame_iff _ _).2 rfl
      have HIX : Hid (IsInts X4 (.slice va L.length vc) L) := OwnInts.is (HOV.out.1.below (HR.out.2.2.trans (bRX.mono HR.out.2.2.size))) HOV.out.2
      have HTX : Hid (IsTysP (fun b => b < w.heap.size) X4 (.slice ta L.length tc) TO) := ownTys_isP (ownTys_below HR.out.1 bRX)
      clear hu4 hb4 hBt hX4 bX4 n0 n1 n2 bRX k0 k1 k2
      go_upto_region 15 with fail
      rw [HX4E.out]
      clear HX4E
      go_wp2_with fail
      refine (unew_any X4).mono ?_
      rintro e w5 ⟨rfl, hb5, Mn, hU5, hMn⟩
      have HM : Hid (∀ k, Mn k → X4.heap.size ≤ k) := fun k hk => by have := hMn k hk; omega
      have b0 : Below X4.heap.size X4 w5.drew := hb5.drew
      have U0 : Hid (Uf w5.drew X4.heap.size 0 0 Mn 0 tv (fun _ => False)) := hU5.below (Below.refl _ _).drew
      have HSZ : Hid (0 + T.size + Bt.size ≤ 100000) := by have := HS.out; have := HBT.out.2; show _ ≤ _; omega
      have HCO : Hid (∃ t, Fac t tv ∧ tsub t T = tsub t Bt) := by rw [HBE.out]; exact put_could HI.out HPL.out (fun b hb => (HTG.out b hb).1)
      clear hb5 hU5 hMn
      go_wp2_with fail
      go_region_held (fun w' => w'.cell? ⟨w.heap.size, 0, none⟩ = some (.string op) ∧ w'.cell? ⟨w.heap.size, 1, none⟩ = some (.int .i64 tn) ∧ w'.cell? ⟨w.heap.size, 2, none⟩ = some (.slice a k cap) ∧ w'.cell? ⟨w4.heap.size, 0, none⟩ = some (.string z0) ∧ w'.cell? ⟨w4.heap.size, 1, none⟩ = some (.int .i64 z1) ∧ w'.cell? ⟨w4.heap.size, 2, none⟩ = some (.slice za zk zc))
        (with_reducible (first | exact HBX.out _ b3 | exact HBX.out _ b2 | exact HBX.out _ b1 | exact HBX.out _ b0))
        (first
          | (go_at_call 15; refine (rtSame_any Bt Bt _ _ _ O2.out (HDB.out _ b2)).mono ?_; rintro e y3 ⟨rfl, hc⟩; rw [HSB.out]; have U3 : Hid (Uf y3 X4.heap.size 0 (0 + 1) Mn1 (0 + T.size + Bt.size) d1 (fun z => False ∨ tocc z T ∨ tocc z Bt)) := U2.out.below hc; have b3 := b2.trans (hc.mono b2.size); clear hc)
          | (go_at_call 16; have dq := b1; clear dq; refine (uOf_any (some X4.heap.size) d1 T HI.out _ _ (HDA.out _ b1) (U1.out.1.ready HSZ.out)).mono ?_; rintro e y2 ⟨u2, rfl, ho2, hc⟩; rw [U1.out.2.1] at ho2; obtain ⟨r0, r00, ra, rk, rc, rfl⟩ := isTyP_form ho2; have O2 : Hid (IsTy y2 Bt (.agg #[.string r0, .int .i64 r00, .slice ra rk rc])) := isTyP_is _ _ ho2; have U2 : Hid (Uf y2 X4.heap.size 0 (0 + 1) Mn1 (0 + T.size + Bt.size) d1 (fun z => False ∨ tocc z T ∨ tocc z Bt)) := U1.out.1.below hc; have b2 := b1.trans (hc.mono b1.size); clear hc ho2)
          | (go_at_call 12; refine (uUnify_any U0.out ⟨by omega, by omega⟩ HI.out HBT.out.1 HSZ.out (.inl HCO.out) (isTy_far (HDA.out _ (Below.refl _ _)) b0 HM.out) (isTy_far (HDB.out _ (Below.refl _ _)) b0 HM.out)).mono ?_; rintro e y1 ⟨hk1, hr1⟩; obtain ⟨rfl, Mn1, d1, hU1, hf1, -⟩ : _ ∧ _ := hr1.resolve_right (fun h => by obtain ⟨t, ht⟩ := HCO.out; exact h.2 t ht); have U1 : Hid (Uf y1 X4.heap.size 0 (0 + 1) Mn1 (0 + T.size + Bt.size) d1 (fun z => False ∨ tocc z T ∨ tocc z Bt) ∧ tsub d1 T = Bt ∧ ∀ (j : Nat) (x : Int) (b : Ty), L[j]? = some x → TO[j]? = some b → tsub d1 (tv x) = b) := ⟨hU1, by rw [HBE.out, HLE.out]; exact put_made HI.out HPL.out (fun b hb => (HTG.out b hb).1) hU1.fac (by rw [← HBE.out]; exact hf1)⟩; have b1 := b0.trans (hk1.below b0.size fun q hq hm => by have := HM.out q hm; omega); clear hk1 hr1 hU1 hf1))
      all_goals
        have HB3x : Hid (Below X4.heap.size X4 y3) := b3
        clear b0 b1 b2 b3
        go_wp2_with fail
        go_loopw [11] (fun i wr2 => ∃ j : Nat, j ≤ L.length ∧ i = .int .i64 j ∧ Hid (Below y3.heap.size y3 wr2)) (fun i _ => L.length - (intOf i).toNat)
        case atStart => exact ⟨0, Nat.zero_le _, rfl, Below.refl _ _⟩
        case round =>
          obtain ⟨j, hj, rfl, HRR⟩ := hrel
          by_cases hlt : j < L.length
          · obtain ⟨x, hx⟩ : ∃ x, L[j]? = some x := ⟨_, List.getElem?_eq_getElem hlt⟩
            have HTLo : Hid (TO.length = L.length) := HTL.out
            obtain ⟨D, hD⟩ : ∃ D, TO[j]? = some D := ⟨_, List.getElem?_eq_getElem (by have := HTLo.out; omega)⟩
            obtain ⟨lb, loff, lc, hle, -, -, hlb, hlc⟩ := HIX.out.plain (by omega)
            simp only [Value.slice.injEq, true_and] at hle
            obtain ⟨rfl, rfl⟩ := hle
            obtain ⟨ta', tc', hte, -, -, hel⟩ := HTX.out
            simp only [Value.slice.injEq] at hte
            obtain ⟨rfl, -, rfl⟩ := hte
            obtain ⟨tb, toff, hta, htb, htat⟩ := hel (by have := HTLo.out; omega)
            subst hta
            obtain ⟨c0, c1, c2, m0, m1, m2, hk⟩ := tysAtP_get TO toff j D htat hD
            obtain ⟨d0, d1', da, dk, dc, hde⟩ := isTyP_form hk
            simp only [Value.agg.injEq, Array.mk.injEq, List.cons.injEq, and_true] at hde
            obtain ⟨rfl, rfl, rfl⟩ := hde
            have hmx := hlc j x hx
            have bX : Below X4.heap.size X4 wr := HB3x.out.trans (HRR.out.mono HB3x.out.size)
            have key : ∀ w', Below X4.heap.size X4 w' → ∀ b o, b < X4.heap.size → w'.cell? ⟨b, o, none⟩ = X4.cell? ⟨b, o, none⟩ := fun w' h b o hb => h.cell (p := ⟨b, o, none⟩) hb
            have HCC : Hid (∀ w', Below X4.heap.size X4 w' → w'.cell? ⟨lb, loff + j, none⟩ = some (.int .i64 x) ∧ w'.cell? ⟨tb, toff + j * 3, none⟩ = some (.string d0) ∧ w'.cell? ⟨tb, toff + j * 3 + 1, none⟩ = some (.int .i64 d1') ∧ w'.cell? ⟨tb, toff + j * 3 + 2, none⟩ = some (.slice da dk dc)) := fun w' h =>
              ⟨(key w' h _ _ hlb).trans hmx, (key w' h _ _ htb).trans m0, (key w' h _ _ htb).trans m1, (key w' h _ _ htb).trans m2⟩
            have HDD : Hid (∀ w', Below X4.heap.size X4 w' → IsTy w' D (.agg #[.string d0, .int .i64 d1', .slice da dk dc])) := fun w' h => isTy_below h _ _ (isTyP_is _ _ hk)
            have HXD : Hid (tsub d1 (tv x) = D) := U1.out.2.2 j x D hx hD
            have hx0 : 0 ≤ x := occ_nat HI.out (((tvars_iff T [] x).1 (by rw [← HLE.out]; exact List.mem_of_getElem? hx)).resolve_left (by simp))
            have HXT : Hid (teach (tv x) = true) := by simp [Hid, tv, Em8.teach, teachs, tkids, tVar, tInt, tBool, tUnit, tString, tCell, hx0]
            have HXI : Hid (Em5.I64 x) := HOV.out.2 x (List.mem_of_getElem? hx)
            have HSD : Hid (tsame D D = true) := (tsame_iff _ _).2 rfl
            have HUR : Hid (Uf wr.drew X4.heap.size 0 (0 + 1) Mn1 (0 + T.size + Bt.size) d1 (fun z => False ∨ tocc z T ∨ tocc z Bt)) := (U3.out.below HRR.out).below (Below.refl _ _).drew
            have p0 : Below X4.heap.size X4 wr.drew := bX.drew
            have HP0 : Hid (Below y3.heap.size y3 wr.drew) := HRR.out.drew
            have hj0 : (0 : Int) ≤ (j : Int) := by omega
            have hjl : (j : Int) < (L.length : Int) := by omega
            clear hx hD hlb hlc htb htat hel m0 m1 m2 hk hmx bX key hx0
            go_wp2_with fail
            go_region_held (fun w' => w'.cell? ⟨lb, loff + j, none⟩ = some (.int .i64 x) ∧ w'.cell? ⟨tb, toff + j * 3, none⟩ = some (.string d0) ∧ w'.cell? ⟨tb, toff + j * 3 + 1, none⟩ = some (.int .i64 d1') ∧ w'.cell? ⟨tb, toff + j * 3 + 2, none⟩ = some (.slice da dk dc))
              (with_reducible (first | exact HCC.out _ p3 | exact HCC.out _ p2 | exact HCC.out _ p1 | exact HCC.out _ p0))
              (first
                | (go_at_call 15; refine (rtSame_any D D _ _ _ O7.out (HDD.out _ p2)).mono ?_; rintro e x3 ⟨rfl, hc⟩; rw [HSD.out]; have p3 := p2.trans (hc.mono p2.size); have HP3 : Hid (Below y3.heap.size y3 x3) := HP2.out.trans (hc.mono HP2.out.size); clear hc)
                | (go_at_call 16; have dq := p1; clear dq; refine (uOf_any (some X4.heap.size) d1 (tv x) HXT.out _ _ (isTyP_is _ _ (isTyP_leaf (fun _ => True) _ ⟨by decide, by decide⟩ HXI.out)) (UR1.out.ready HSZ.out)).mono ?_; rintro e x2 ⟨u7, rfl, ho7, hc⟩; rw [HXD.out] at ho7; obtain ⟨s0, s00, sa, sk, sc, rfl⟩ := isTyP_form ho7; have O7 : Hid (IsTy x2 D (.agg #[.string s0, .int .i64 s00, .slice sa sk sc])) := isTyP_is _ _ ho7; have p2 := p1.trans (hc.mono p1.size); have HP2 : Hid (Below y3.heap.size y3 x2) := HP1.out.trans (hc.mono HP1.out.size); clear hc ho7)
                | (go_at_call 21; refine (rtVar_any x _).mono ?_; rintro e x1 ⟨rfl, hc⟩; have UR1 : Hid (Uf x1 X4.heap.size 0 (0 + 1) Mn1 (0 + T.size + Bt.size) d1 (fun z => False ∨ tocc z T ∨ tocc z Bt)) := HUR.out.below hc; have p1 := p0.trans (hc.mono p0.size); have HP1 : Hid (Below y3.heap.size y3 x1) := HP0.out.trans (hc.mono HP0.out.size); clear hc))
            all_goals
              clear p0 p1 p2 p3
              go_wp2_with fail
              go_roundw
              case rel => exact ⟨j + 1, by omega, by go_num, HP3.out⟩
              case measure => simp [intOf]; omega
          · obtain rfl : j = L.length := by omega
            go_wp2_with fail
            refine (known9_any _).mono ?_
            rintro e x1 ⟨rfl, hc⟩
            have HF : Hid (Below y3.heap.size y3 x1) := HRR.out.trans (hc.mono HRR.out.size)
            clear hc
            go_wp2_with fail
            go_ret
            have h1 := HB3x.out.trans (HF.out.mono HB3x.out.size)
            exact ⟨rfl, HWX.out.2.trans (h1.mono HWX.out.2.size)⟩

theorem unifyMost_own : ownKnob Try.prog.godebug = none := by kernel_rfl
theorem unifyMost_laidOut : laidOutB Try.prog = true := by kernel_rfl
set_option maxRecDepth 100000 in
theorem unifyMost_lifted (os : Os) (started : os.Started) (H : Type) (enc : TypeId × Value → H) :
    ReturnsInHanded {} Try.checked os 6 .any (Rows.unifyMostSpec.pre6 enc Try.prog Try.f6 Rows.unifyMostRow.domain false) (Rows.unifyMostSpec.post enc Try.prog Try.f6 false true false false) := by
  refine returnsInHanded_of_change_sized (C := Try.checked) unifyMost_own started (by kernel_rfl) Try.func6
    (ChangeSpec.witness6 (enc := enc) (C := Try.checked) false ⟨#[], #[.agg #[.string ByteArray.empty, .int .i64 0, .slice none 0 0], .slice none 0 0], []⟩ 8 (by kernel_rfl) (by kernel_rfl) (by kernel_rfl) (by kernel_rfl)) ?_
  intro W base args ds gs before hval0 hW hcnd hsz0 _
  have hval : ∀ (j : Nat) t v, Try.f6.params[j]? = some t → args[j]? = some v → Value.okWide Try.prog W .any base t v := hval0
  have hW' := hW
  obtain ⟨p, q, hA0, hV, rfl, hfz, hnd⟩ := hW
  have hA : DataW.TrodAll enc Try.prog W 0 (fun _ => true) true Try.f6.params.toList args.toList ds p := hA0
  have hsz : (DataW.weightsEach Try.prog (Try.f6.params.toList ++ Rows.unifyMostSpec.plain.varTypes Try.prog) (ds ++ gs)).all (· ≤ reachBytes) = true := hsz0
  rw [Try.params6] at hA hval hsz
  obtain ⟨v0, vs0, d0, ds0, p0, q0, hargs, rfl, rfl, h0, r0⟩ := trodAll_cons hA
  obtain ⟨v1, vs1, d1, ds1, p1, q1, rfl, rfl, rfl, h1, r1⟩ := trodAll_cons r0
  obtain ⟨rfl, rfl, rfl⟩ := trodAll_nil r1
  obtain rfl : args = #[v0, v1] := by cases args; simp_all
  obtain ⟨rfl, rfl⟩ := trodVars_none hV
  have lt0 : ∀ x ∈ p0, x.block < W.heap.size := by obtain ⟨m, hm⟩ := h0; exact DataW.trod_lt m _ _ _ hm
  have o0 := open_ty (hval 0 25 v0 rfl rfl) h0 (Em.sized_arg hsz 0 rfl rfl)
  have lt1 : ∀ x ∈ p1, x.block < W.heap.size := by obtain ⟨m, hm⟩ := h1; exact DataW.trod_lt m _ _ _ hm
  have o1 := open_tys (hval 1 23 v1 rfl rfl) h1 (Em.sized_arg hsz 1 rfl rfl)
  clear hsz0 hsz
  clear hA0 hval0
  refine (walk_unifyMost W v0 v1 o0 o1).mono fun e W' ⟨he, bel⟩ => ?_
  subst he
  exact ⟨_, rfl, _, _, _, [], _, [], hW', trodAll_mk1 (shut_bool Try.underlying4 _), (trodAll_cons_mk (Below.trod unifyMost_laidOut (by kernel_rfl) (of_decide_eq_true (by kernel_rfl)) h0 bel lt0) (trodAll_cons_mk (Below.trod unifyMost_laidOut (by kernel_rfl) (of_decide_eq_true (by kernel_rfl)) h1 bel lt1) trodAll_mk0)), rfl, bel.frame _, fun h => by cases h⟩
theorem unifyMost_holds : Rows.UnifyMostSaid :=
  OpenClaim.holds_of_wide 6 Try.f6 rfl rfl rfl rfl rfl rfl rfl ⟨rfl, rfl, rfl, rfl, rfl⟩ rfl rfl rfl rfl rfl (by kernel_rfl) Try.func6 (by kernel_rfl)
    (of_decide_eq_true (by kernel_rfl)) (by unfold Func.isWrapper; first | (rw [if_pos (by decide +kernel)]; kernel_rfl) | (rw [if_neg (by decide +kernel)]; exact ⟨rfl, rfl⟩))
    (fun os started H enc _ => unifyMost_lifted os started H enc)
#print axioms unifyMost_holds
end Go.Proofs.Ytadhjnbhcenocaa

/- TypSent: of two types of at most 300 nodes each, a pair is sent just if both are, a list and a ref just if their kid is, a function never. No condition but that the tables that the program reads hold what their initialisers lay, to which the card ties them. -/
import Derived.Test.YtcpimmapdhmoiaaDoorRows
import Derived.Test.YtcpimmapdhmoiaaDoorCards
import Derived.Test.YtcpimmapdhmoiaaDoorTie
import Derived.Test.YtcpimmapdhmoiaaDoorLaid8
import Derived.Test.YtcpimmapdhmoiaaDoorKnown8
import Derived.Test.YtcpimmapdhmoiaaDoorFrame
import Derived.Test.YtcpimmapdhmoiaaDoorFrame2
import Derived.Test.YtcpimmapdhmoiaaDoorFrameT
import Derived.Deep.RegionHeld
namespace Go.Proofs.YtcpimmapdhmoiaaDoor
open Go.ChangeShapes Go.WideShapes Go.ChangeAt Go.RowKit Go.Em8
set_option linter.unusedVariables false
set_option linter.unusedSimpArgs false

theorem sent_pair (S T : Ty) : tsent (.mk tPair 0 [S, T]) = (tsent S && tsent T) := by
  rw [tsent_eq]; simp [Ty.op, Ty.kids, tsents, tPair, tVar, tFun]
theorem sent_list (S : Ty) : tsent (.mk tList 0 [S]) = tsent S := by
  rw [tsent_eq]; simp [Ty.op, Ty.kids, tsents, tList, tVar, tFun]
theorem sent_ref (S : Ty) : tsent (.mk tRef 0 [S]) = tsent S := by
  rw [tsent_eq]; simp [Ty.op, Ty.kids, tsents, tRef, tVar, tFun]
theorem sent_fun (S T : Ty) : tsent (.mk tFun 0 [S, T]) = false := by
  rw [tsent_eq]; simp [Ty.op]

set_option maxRecDepth 100000 in
set_option maxHeartbeats 8000000 in
theorem walk_typSent (w : World) (u v : Value) (hu : ∃ T, IsTy w T u) (hv : ∃ T, IsTy w T v) (hp : IsPow w) :
    Calls Tryd.prog 7 #[u, v] w fun e w' => e = .returned (.bool true) ∧ Below w.heap.size w w' := by
  obtain ⟨S, hu⟩ := hu
  obtain ⟨T, hv⟩ := hv
  have HPA : Hid (∀ w', Below w.heap.size w w' → IsPow w') := fun w' h => hp.below h
  have HU : Hid (∀ w', Below w.heap.size w w' → IsTy w' S u) := fun w' h => isTy_below h _ _ hu
  have HV : Hid (∀ w', Below w.heap.size w w' → IsTy w' T v) := fun w' h => isTy_below h _ _ hv
  obtain ⟨op, n, a, k, cap, rfl⟩ := isTyP_form (isTy_isP _ _ hu)
  obtain ⟨op', n', a', k', cap', rfl⟩ := isTyP_form (isTy_isP _ _ hv)
  obtain ⟨W, hW⟩ : ∃ W, W = (w.alloc (.cells #[.string op, .int .i64 n, .slice a k cap] 24)).alloc (.cells #[.string op', .int .i64 n', .slice a' k' cap'] 24) := ⟨_, rfl⟩
  have hbW : Below w.heap.size w W := by rw [hW]; exact ((Below.refl _ _).alloc (Nat.le_refl _) _).alloc (by simp) _
  have e1 : (w.alloc (.cells #[.string op, .int .i64 n, .slice a k cap] 24)).heap.size = w.heap.size + 1 := by simp
  have h3 : Tri W w.heap.size (.string op) (.int .i64 n) (.slice a k cap) := by
    rw [hW]; exact (Tri.made _ _ _ _ _).below ((Below.refl _ _).alloc (Nat.le_refl _) _)
  have h4 : Tri W (w.heap.size + 1) (.string op') (.int .i64 n') (.slice a' k' cap') := by rw [hW, ← e1]; exact Tri.made _ _ _ _ _
  have H3 : Hid (∀ w', Below W.heap.size W w' → Tri w' w.heap.size (.string op) (.int .i64 n) (.slice a k cap)) := fun w' h => h3.below h
  have H4 : Hid (∀ w', Below W.heap.size W w' → Tri w' (w.heap.size + 1) (.string op') (.int .i64 n') (.slice a' k' cap')) := fun w' h => h4.below h
  have HW : Hid (Below w.heap.size w W) := hbW
  have HWE : Hid ((w.alloc (.cells #[.string op, .int .i64 n, .slice a k cap] 24)).alloc (.cells #[.string op', .int .i64 n', .slice a' k' cap'] 24) = W) := hW.symm
  obtain ⟨g0, g1, g2⟩ := h3
  clear hW hbW hp hu hv h4 e1
  go_enter Tryd.func7, Tryd.ntmps7
  go_upto_region 1 with fail
  rw [HWE.out]
  clear HWE
  go_wp2_with fail
  refine (ylong_any S _ _ (HU.out _ HW.out)).mono ?_
  rintro e w1 ⟨rfl, hb1⟩
  have hbw1 : Below w.heap.size w w1 := HW.out.trans (hb1.mono HW.out.size)
  clear g0 g1 g2
  generalize decide (300 < S.size) = l1
  cases l1 with
  | true =>
    go_wp2_with fail
    go_ret
    exact ⟨rfl, hbw1⟩
  | false =>
  obtain ⟨k0, k1, k2⟩ := H4.out _ hb1
  go_wp2_with fail
  refine (ylong_any T _ _ (HV.out _ hbw1)).mono ?_
  rintro e w2 ⟨rfl, hb2⟩
  have hb2' : Below W.heap.size W w2 := hb1.trans (hb2.mono hb1.size)
  have hbw2 : Below w.heap.size w w2 := HW.out.trans (hb2'.mono HW.out.size)
  clear k0 k1 k2 hb1 hbw1 hb2
  generalize decide (300 < T.size) = l2
  cases l2 with
  | true =>
    go_wp2_with fail
    go_ret
    exact ⟨rfl, hbw2⟩
  | false =>
  obtain ⟨k0, k1, k2⟩ := H3.out _ hb2'
  go_wp2_with fail
  refine (rtIs_any S _ _ (HU.out _ hbw2)).mono ?_
  rintro e w3 ⟨rfl, hb3⟩
  have hb3' : Below W.heap.size W w3 := hb2'.trans (hb3.mono hb2'.size)
  have hbw3 : Below w.heap.size w w3 := HW.out.trans (hb3'.mono HW.out.size)
  clear k0 k1 k2 hb2' hbw2 hb3
  generalize isTy S = l3
  cases l3 with
  | false =>
    go_wp2_with fail
    go_ret
    exact ⟨rfl, hbw3⟩
  | true =>
  obtain ⟨k0, k1, k2⟩ := H4.out _ hb3'
  go_wp2_with fail
  refine (rtIs_any T _ _ (HV.out _ hbw3)).mono ?_
  rintro e w4 ⟨rfl, hb4⟩
  have hb4' : Below W.heap.size W w4 := hb3'.trans (hb4.mono hb3'.size)
  have hbw4 : Below w.heap.size w w4 := HW.out.trans (hb4'.mono HW.out.size)
  clear k0 k1 k2 hb3' hbw3 hb4
  generalize isTy T = l4
  cases l4 with
  | false =>
    go_wp2_with fail
    go_ret
    exact ⟨rfl, hbw4⟩
  | true =>
  have HB4 : Hid (Below w.heap.size w w4) := hbw4
  have HX : Hid (Below W.heap.size W w4) := hb4'
  obtain ⟨x, hx⟩ : ∃ x, x = tsent S := ⟨_, rfl⟩
  obtain ⟨y, hy⟩ : ∃ y, y = tsent T := ⟨_, rfl⟩
  have HQ : Hid (tsent S = x ∧ tsent T = y) := ⟨hx.symm, hy.symm⟩
  have HS : Hid (∀ w', Below w4.heap.size w4 w' → w'.cell? ⟨w.heap.size, 0, none⟩ = some (.string op) ∧ w'.cell? ⟨w.heap.size, 1, none⟩ = some (.int .i64 n) ∧ w'.cell? ⟨w.heap.size, 2, none⟩ = some (.slice a k cap) ∧ w'.cell? ⟨w.heap.size + 1, 0, none⟩ = some (.string op') ∧ w'.cell? ⟨w.heap.size + 1, 1, none⟩ = some (.int .i64 n') ∧ w'.cell? ⟨w.heap.size + 1, 2, none⟩ = some (.slice a' k' cap')) := fun w' h => by
    obtain ⟨e0, e1, e2⟩ := (H3.out _ HX.out).below h
    obtain ⟨f0, f1, f2⟩ := (H4.out _ HX.out).below h
    exact ⟨e0, e1, e2, f0, f1, f2⟩
  have HDU : Hid (∀ w', Below w4.heap.size w4 w' → IsTy w' S (.agg #[.string op, .int .i64 n, .slice a k cap])) := fun w' h => HU.out _ (HB4.out.trans (h.mono HB4.out.size))
  have HDV : Hid (∀ w', Below w4.heap.size w4 w' → IsTy w' T (.agg #[.string op', .int .i64 n', .slice a' k' cap'])) := fun w' h => HV.out _ (HB4.out.trans (h.mono HB4.out.size))
  have HPB : Hid (∀ w', Below w4.heap.size w4 w' → IsPow w') := fun w' h => HPA.out _ (HB4.out.trans (h.mono HB4.out.size))
  have HBZ : Hid (∀ w', Below w4.heap.size w4 w' → Below w.heap.size w w') := fun w' h => HB4.out.trans (h.mono HB4.out.size)
  have HAL : Hid (∀ (w' : World) (o : Obj), Below w4.heap.size w4 w' → Below w4.heap.size w4 (w'.alloc o)) := fun w' o h => h.alloc h.size _
  have HTP : Hid (∀ (x1 : World) (c0 c1 c2 d0 d1 d2 : Value) (w' : World), IsTy x1 S (.agg #[c0, c1, c2]) → IsTy x1 T (.agg #[d0, d1, d2]) → Below (x1.alloc (.cells #[c0, c1, c2, d0, d1, d2] 24)).heap.size (x1.alloc (.cells #[c0, c1, c2, d0, d1, d2] 24)) w' → IsTy w' (.mk tPair 0 [S, T]) (.agg #[.string ⟨#[112, 97, 105, 114]⟩, .int .i64 0, .slice (some ⟨x1.heap.size, 0, none⟩) 2 2])) := fun x1 c0 c1 c2 d0 d1 d2 w' h1 h2 hb => isTy_below hb _ _ (IsTys.mk (isTys_two h1 h2 _) (op := tPair) ⟨by decide, by decide⟩ (by unfold Em5.I64; decide))
  have HTF : Hid (∀ (x1 : World) (c0 c1 c2 d0 d1 d2 : Value) (w' : World), IsTy x1 S (.agg #[c0, c1, c2]) → IsTy x1 T (.agg #[d0, d1, d2]) → Below (x1.alloc (.cells #[c0, c1, c2, d0, d1, d2] 24)).heap.size (x1.alloc (.cells #[c0, c1, c2, d0, d1, d2] 24)) w' → IsTy w' (.mk tFun 0 [S, T]) (.agg #[.string ⟨#[102, 117, 110]⟩, .int .i64 0, .slice (some ⟨x1.heap.size, 0, none⟩) 2 2])) := fun x1 c0 c1 c2 d0 d1 d2 w' h1 h2 hb => isTy_below hb _ _ (IsTys.mk (isTys_two h1 h2 _) (op := tFun) ⟨by decide, by decide⟩ (by unfold Em5.I64; decide))
  have HTL : Hid (∀ (x1 : World) (c0 c1 c2 : Value) (w' : World), IsTy x1 S (.agg #[c0, c1, c2]) → Below (x1.alloc (.cells #[c0, c1, c2] 24)).heap.size (x1.alloc (.cells #[c0, c1, c2] 24)) w' → IsTy w' (.mk tList 0 [S]) (.agg #[.string ⟨#[108, 105, 115, 116]⟩, .int .i64 0, .slice (some ⟨x1.heap.size, 0, none⟩) 1 1])) := fun x1 c0 c1 c2 w' h1 hb => isTy_below hb _ _ (IsTys.mk (isTys_one h1 _) (op := tList) ⟨by decide, by decide⟩ (by unfold Em5.I64; decide))
  have HTR : Hid (∀ (x1 : World) (c0 c1 c2 : Value) (w' : World), IsTy x1 T (.agg #[c0, c1, c2]) → Below (x1.alloc (.cells #[c0, c1, c2] 24)).heap.size (x1.alloc (.cells #[c0, c1, c2] 24)) w' → IsTy w' (.mk tRef 0 [T]) (.agg #[.string ⟨#[114, 101, 102]⟩, .int .i64 0, .slice (some ⟨x1.heap.size, 0, none⟩) 1 1])) := fun x1 c0 c1 c2 w' h1 hb => isTy_below hb _ _ (IsTys.mk (isTys_one h1 _) (op := tRef) ⟨by decide, by decide⟩ (by unfold Em5.I64; decide))
  have b0 : Below w4.heap.size w4 w4.drew := (Below.refl _ _).drew
  clear hb4' hbw4 hx hy
  go_wp2_with fail
  go_region_held (fun w' => w'.cell? ⟨w.heap.size, 0, none⟩ = some (.string op) ∧ w'.cell? ⟨w.heap.size, 1, none⟩ = some (.int .i64 n) ∧ w'.cell? ⟨w.heap.size, 2, none⟩ = some (.slice a k cap) ∧ w'.cell? ⟨w.heap.size + 1, 0, none⟩ = some (.string op') ∧ w'.cell? ⟨w.heap.size + 1, 1, none⟩ = some (.int .i64 n') ∧ w'.cell? ⟨w.heap.size + 1, 2, none⟩ = some (.slice a' k' cap'))
    (with_reducible (first | exact HS.out _ b2 | exact HS.out _ b1 | exact HS.out _ b0))
    (first | (go_at_call 20; have bq := b1; clear bq; refine (ySent_any T _ _ (HDV.out _ b1)).mono ?_; rintro e x2 ⟨rfl, hc⟩; rw [HQ.out.2]; have b2 := b1.trans (hc.mono b1.size); clear hc) | (go_at_call 20; refine (ySent_any S _ _ (HDU.out _ b0)).mono ?_; rintro e x1 ⟨rfl, hc⟩; rw [HQ.out.1]; have b1 := b0.trans (hc.mono b0.size); clear hc))
  all_goals
    clear b0 b1
    obtain ⟨k0, k1, k2, m0, m1, m2⟩ := HS.out _ b2
    -- the pair
    obtain ⟨Y2, hY2⟩ : ∃ Y, Y = x2.alloc (.cells #[.string op, .int .i64 n, .slice a k cap, .string op', .int .i64 n', .slice a' k' cap'] 24) := ⟨_, rfl⟩
    have HY2 : Hid (x2.alloc (.cells #[.string op, .int .i64 n, .slice a k cap, .string op', .int .i64 n', .slice a' k' cap'] 24) = Y2) := hY2.symm
    have bY2 : Below w4.heap.size w4 Y2 := by rw [hY2]; exact HAL.out _ _ b2
    have HT2 : Hid (∀ w', Below Y2.heap.size Y2 w' → IsTy w' (.mk tPair 0 [S, T]) (.agg #[.string ⟨#[112, 97, 105, 114]⟩, .int .i64 0, .slice (some ⟨x2.heap.size, 0, none⟩) 2 2])) := by rw [hY2]; exact fun w' h => HTP.out _ _ _ _ _ _ _ _ (HDU.out _ b2) (HDV.out _ b2) h
    clear hY2 b2
    go_wp2_with fail
    rw [HY2.out]
    clear HY2 k0 k1 k2 m0 m1 m2
    refine (rtTb_any _ (some ⟨x2.heap.size, 0, none⟩) 2 2 _).mono ?_
    rintro e x3 ⟨rfl, hc3⟩
    have b3 := bY2.trans (hc3.mono bY2.size)
    have d3 := HT2.out _ hc3
    clear hc3 HT2 bY2
    go_wp2_with fail
    refine (ySent_any _ _ _ d3).mono ?_
    rintro e x4 ⟨rfl, hc4⟩
    rw [sent_pair, HQ.out.1, HQ.out.2]
    have b4 := b3.trans (hc4.mono b3.size)
    clear hc4 b3 d3
    -- the list
    obtain ⟨k0, k1, k2, m0, m1, m2⟩ := HS.out _ b4
    obtain ⟨Y4, hY4⟩ : ∃ Y, Y = x4.alloc (.cells #[.string op, .int .i64 n, .slice a k cap] 24) := ⟨_, rfl⟩
    have HY4 : Hid (x4.alloc (.cells #[.string op, .int .i64 n, .slice a k cap] 24) = Y4) := hY4.symm
    have bY4 : Below w4.heap.size w4 Y4 := by rw [hY4]; exact HAL.out _ _ b4
    have HT4 : Hid (∀ w', Below Y4.heap.size Y4 w' → IsTy w' (.mk tList 0 [S]) (.agg #[.string ⟨#[108, 105, 115, 116]⟩, .int .i64 0, .slice (some ⟨x4.heap.size, 0, none⟩) 1 1])) := by rw [hY4]; exact fun w' h => HTL.out _ _ _ _ _ (HDU.out _ b4) h
    clear hY4 b4
    cases x <;> cases y
    all_goals
      go_wp2_with fail
      rw [HY4.out]
      clear HY4 k0 k1 k2 m0 m1 m2
      refine (rtTb_any _ (some ⟨x4.heap.size, 0, none⟩) 1 1 _).mono ?_
      rintro e x5 ⟨rfl, hc5⟩
      have b5 := bY4.trans (hc5.mono bY4.size)
      have d5 := HT4.out _ hc5
      clear hc5 HT4 bY4
      go_wp2_with fail
      refine (ySent_any _ _ _ d5).mono ?_
      rintro e x6 ⟨rfl, hc6⟩
      rw [sent_list, HQ.out.1]
      have b6 := b5.trans (hc6.mono b5.size)
      clear hc6 b5 d5
      -- the ref
      obtain ⟨k0, k1, k2, m0, m1, m2⟩ := HS.out _ b6
      obtain ⟨Y6, hY6⟩ : ∃ Y, Y = x6.alloc (.cells #[.string op', .int .i64 n', .slice a' k' cap'] 24) := ⟨_, rfl⟩
      have HY6 : Hid (x6.alloc (.cells #[.string op', .int .i64 n', .slice a' k' cap'] 24) = Y6) := hY6.symm
      have bY6 : Below w4.heap.size w4 Y6 := by rw [hY6]; exact HAL.out _ _ b6
      have HT6 : Hid (∀ w', Below Y6.heap.size Y6 w' → IsTy w' (.mk tRef 0 [T]) (.agg #[.string ⟨#[114, 101, 102]⟩, .int .i64 0, .slice (some ⟨x6.heap.size, 0, none⟩) 1 1])) := by rw [hY6]; exact fun w' h => HTR.out _ _ _ _ _ (HDV.out _ b6) h
      clear hY6 b6
      go_wp2_with fail
      rw [HY6.out]
      clear HY6 k0 k1 k2 m0 m1 m2
      refine (rtTb_any _ (some ⟨x6.heap.size, 0, none⟩) 1 1 _).mono ?_
      rintro e x7 ⟨rfl, hc7⟩
      have b7 := bY6.trans (hc7.mono bY6.size)
      have d7 := HT6.out _ hc7
      clear hc7 HT6 bY6
      go_wp2_with fail
      refine (ySent_any _ _ _ d7).mono ?_
      rintro e x8 ⟨rfl, hc8⟩
      rw [sent_ref, HQ.out.2]
      have b8 := b7.trans (hc8.mono b7.size)
      clear hc8 b7 d7
      -- the function
      obtain ⟨k0, k1, k2, m0, m1, m2⟩ := HS.out _ b8
      obtain ⟨Y8, hY8⟩ : ∃ Y, Y = x8.alloc (.cells #[.string op, .int .i64 n, .slice a k cap, .string op', .int .i64 n', .slice a' k' cap'] 24) := ⟨_, rfl⟩
      have HY8 : Hid (x8.alloc (.cells #[.string op, .int .i64 n, .slice a k cap, .string op', .int .i64 n', .slice a' k' cap'] 24) = Y8) := hY8.symm
      have bY8 : Below w4.heap.size w4 Y8 := by rw [hY8]; exact HAL.out _ _ b8
      have HT8 : Hid (∀ w', Below Y8.heap.size Y8 w' → IsTy w' (.mk tFun 0 [S, T]) (.agg #[.string ⟨#[102, 117, 110]⟩, .int .i64 0, .slice (some ⟨x8.heap.size, 0, none⟩) 2 2])) := by rw [hY8]; exact fun w' h => HTF.out _ _ _ _ _ _ _ _ (HDU.out _ b8) (HDV.out _ b8) h
      clear hY8 b8
      go_wp2_with fail
      rw [HY8.out]
      clear HY8 k0 k1 k2 m0 m1 m2
      refine (rtTb_any _ (some ⟨x8.heap.size, 0, none⟩) 2 2 _).mono ?_
      rintro e x9 ⟨rfl, hc9⟩
      have b9 := bY8.trans (hc9.mono bY8.size)
      have d9 := HT8.out _ hc9
      clear hc9 HT8 bY8
      go_wp2_with fail
      refine (ySent_any _ _ _ d9).mono ?_
      rintro e x10 ⟨rfl, hc10⟩
      rw [sent_fun]
      have b10 := b9.trans (hc10.mono b9.size)
      clear hc10 b9 d9
      go_wp2_with fail
      refine (known8_any _ (HPB.out _ b10)).mono ?_
      rintro e x11 ⟨rfl, hc11⟩
      have b11 := HBZ.out _ (b10.trans (hc11.mono b10.size))
      clear hc11 b10
      go_wp2_with fail
      go_ret
      exact ⟨rfl, b11⟩

theorem typSent_own : ownKnob Tryd.prog.godebug = none := by kernel_rfl
theorem typSent_laidOut : laidOutB Tryd.prog = true := by kernel_rfl
theorem typSent_met (os : Os) : laidMet Tryd.prog Rows.typSentRow.laid ((laidWorld os).forCall (fun _ _ => 0) ⟨#[], #[.agg #[.string ByteArray.empty, .int .i64 0, .slice none 0 0], .agg #[.string ByteArray.empty, .int .i64 0, .slice none 0 0]], []⟩).memory :=
  laidMet_of_run' 8 (by kernel_rfl) (by kernel_rfl)
theorem typSent_reads (os : Os) {H : Type} (enc : TypeId × Value → H) : ∃ places, DataW.whole enc Tryd.prog ((laidWorld os).forCall (fun _ _ => 0) ⟨#[], #[.agg #[.string ByteArray.empty, .int .i64 0, .slice none 0 0], .agg #[.string ByteArray.empty, .int .i64 0, .slice none 0 0]], []⟩).memory Tryd.f7.params.toList Rows.typSentSpec.vars false (#[.agg #[.string ByteArray.empty, .int .i64 0, .slice none 0 0], .agg #[.string ByteArray.empty, .int .i64 0, .slice none 0 0]] : Array Value).toList 8 = some ([.agg [.lit (.string []), .lit (.int .i64 0), .nil], .agg [.lit (.string []), .lit (.int .i64 0), .nil]], [], places) :=
  ⟨[], by kernel_rfl⟩
set_option maxRecDepth 100000 in
theorem typSent_lifted (os : Os) (started : os.Started) (H : Type) (enc : TypeId × Value → H) (F : Stop.Interp) :
    ReturnsInHanded {} Tryd.checked os 7 .any ((OpenSpec.ofChange Rows.typSentSpec).preRow enc Tryd.prog Tryd.f7 Rows.typSentRow.domain false Rows.typSentRow.laid) (((OpenSpec.ofChange Rows.typSentSpec).at F).post enc Tryd.prog Tryd.f7 false true false false) := by
  obtain ⟨places, hx⟩ := typSent_reads os enc
  refine returnsInHanded_of_row (C := Tryd.checked) (s := OpenSpec.ofChange Rows.typSentSpec) typSent_own started (by kernel_rfl) Tryd.func7
    (witness_row_at (enc := enc) (C := Tryd.checked) false (laidWorld os) #[.agg #[.string ByteArray.empty, .int .i64 0, .slice none 0 0], .agg #[.string ByteArray.empty, .int .i64 0, .slice none 0 0]] rfl (by kernel_rfl) (by kernel_rfl) (by kernel_rfl)
      (OpenSpec.preRow_of_cond 8 hx (by kernel_rfl) (fun k hk => by cases hk) (by kernel_rfl) (typSent_met os))) ?_
  intro W base args ds gs before hval0 hW _ _ hsz0 hL _ _
  have hfact := laid_of_row hL
  have hval : ∀ (j : Nat) t v, Tryd.f7.params[j]? = some t → args[j]? = some v → Value.okWide Tryd.prog W .any base t v := hval0
  have hW' := hW
  obtain ⟨p, q, hA0, hV, rfl, hfz, hnd⟩ := hW
  have hA : DataW.TrodAll enc Tryd.prog W 0 (fun _ => true) true Tryd.f7.params.toList args.toList ds p := hA0
  have hsz : (DataW.weightsEach Tryd.prog (Tryd.f7.params.toList ++ Rows.typSentSpec.plain.varTypes Tryd.prog) (ds ++ gs)).all (· ≤ reachBytes) = true := hsz0
  rw [Tryd.params7] at hA hval hsz
  obtain ⟨v0, vs0, d0, ds0, p0, q0, hargs, rfl, rfl, h0, r0⟩ := trodAll_cons hA
  obtain ⟨v1, vs1, d1, ds1, p1, q1, rfl, rfl, rfl, h1, r1⟩ := trodAll_cons r0
  obtain ⟨rfl, rfl, rfl⟩ := trodAll_nil r1
  obtain rfl : args = #[v0, v1] := by cases args; simp_all
  obtain ⟨rfl, rfl⟩ := trodVars_none hV
  have lt0 : ∀ x ∈ p0, x.block < W.heap.size := by obtain ⟨m, hm⟩ := h0; exact DataW.trod_lt m _ _ _ hm
  have o0 := open_ty (hval 0 24 v0 rfl rfl) h0 (Em.sized_arg hsz 0 rfl rfl)
  have lt1 : ∀ x ∈ p1, x.block < W.heap.size := by obtain ⟨m, hm⟩ := h1; exact DataW.trod_lt m _ _ _ hm
  have o1 := open_ty (hval 1 24 v1 rfl rfl) h1 (Em.sized_arg hsz 1 rfl rfl)
  clear hA0 hval0 hsz0 hsz
  refine (walk_typSent W v0 v1 o0 o1 hfact).mono fun e W' ⟨he, bel⟩ => ?_
  subst he
  exact ⟨_, rfl, _, _, _, [], _, [], hW', trodAll_mk1 (shut_bool Tryd.underlying4 _), (trodAll_cons_mk (Below.trod typSent_laidOut (by kernel_rfl) (of_decide_eq_true (by kernel_rfl)) h0 bel lt0) (trodAll_cons_mk (Below.trod typSent_laidOut (by kernel_rfl) (of_decide_eq_true (by kernel_rfl)) h1 bel lt1) trodAll_mk0)), rfl, bel.frame _, fun h => by cases h⟩
theorem typSent_said : Rows.TypSentSaid :=
  OpenClaim.holds_of_cond 7 Tryd.f7 rfl rfl rfl rfl rfl rfl rfl ⟨rfl, rfl, rfl, rfl, rfl⟩ rfl rfl rfl rfl rfl (by kernel_rfl) Tryd.func7 (by kernel_rfl)
    (of_decide_eq_true (by kernel_rfl)) (by unfold Func.isWrapper; first | (rw [if_pos (by decide +kernel)]; kernel_rfl) | (rw [if_neg (by decide +kernel)]; exact ⟨rfl, rfl⟩))
    (fun os started H enc _ F => by rw [OpenClaim.pre_eq_preRow]; exact typSent_lifted os started H enc F)
theorem typSent_plain (f : FuncId) (fn : Func) (hf : Tryd.pinned.checked.prog.funcNamed "emissary/emissarylaw8.TypSent" = some f) (hfn : Tryd.pinned.checked.prog.funcs[f]? = some fn) :
    false = Tryd.pinned.checked.prog.looks [] ∧ ∀ (j : Nat) t, fn.params[j]? = some t → Tryd.pinned.checked.prog.wantsStandIn t = false := by
  obtain rfl : f = 7 := Option.some.inj ((show Tryd.prog.funcNamed "emissary/emissarylaw8.TypSent" = some 7 by kernel_rfl).symm.trans hf) |>.symm
  obtain rfl : fn = Tryd.f7 := (Option.some.inj (Tryd.func7.symm.trans hfn)).symm
  refine ⟨by kernel_rfl, fun j t ht => ?_⟩
  rw [Tryd.params7] at ht
  have hm : t ∈ ([24, 24] : List Nat) := by simpa using Array.mem_of_getElem? ht
  have hall : (([24, 24] : List Nat).all fun u => !Tryd.prog.wantsStandIn u) = true := by kernel_rfl
  exact (show Tryd.prog.wantsStandIn t = false by simpa using List.all_eq_true.1 hall t hm)
theorem typSent_holds : Rows.TypSentCardSaid :=
  Claim7.holds_tied_plain_at .later [] _ _ _ _ typSent_said (fun _ h => by cases h) (by kernel_rfl) (fun _ h => by cases h) typSent_row_tie rfl ⟨rfl, rfl⟩ (by kernel_rfl) rfl typSent_plain (by kernel_rfl)
#print axioms typSent_holds
end Go.Proofs.YtcpimmapdhmoiaaDoor

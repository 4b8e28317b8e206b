/- What the law's own 'known' answers (chapter 9). -/
import Derived.Test.YtadhjnbhcenocaaUfN
import Derived.Test.YtadhjnbhcenocaaUfO
import Derived.Test.YtadhjnbhcenocaaRTypN
namespace Go.Proofs.Ytadhjnbhcenocaa
open Go.RowKit Go.Em8 Go.Em9
set_option linter.unusedSimpArgs false
set_option linter.unusedVariables false

set_option maxRecDepth 100000 in
set_option maxHeartbeats 1000000 in
theorem rtTc_any (op : ByteArray) (a : Option Addr) (n cap : Nat) (w : World) :
    Calls Try.prog 25 #[.string op, .slice a n cap] w fun e w' => e = .returned (.agg #[.string op, .int .i64 0, .slice a n cap]) ∧ Below w.heap.size w w' := by
  go_enter Try.func25, Try.ntmps25
  go_wp2
  refine bodyPost_ret (v := .agg #[.string op, .int .i64 0, .slice a n cap]) (by simp [results, Try.results25, go_sem]) rfl ⟨rfl, (Below.refl _ _).alloc (Nat.le_refl _) _⟩
theorem isTyP_leaf (P : Nat → Prop) (w : World) {op : List Int} {n : Int} (ho : Em5.Txt op) (hn : Em5.I64 n) : IsTyP P w (.mk op n []) (.agg #[.string (Em.str op), .int .i64 n, .slice none 0 0]) := by
  unfold IsTyP
  exact ⟨none, 0, rfl, ho, hn, by simp, by simp, by simp⟩
/-- A type of one kid, laid into new memory. -/
theorem isTyP_one {P : Nat → Prop} {w : World} {op : List Int} {x : Ty} {c0 c1 c2 : Value} (ho : Em5.Txt op) (hx : IsTyP P w x (.agg #[c0, c1, c2])) (hP : P w.heap.size) (t : TypeId) : IsTyP P (w.alloc (.cells #[c0, c1, c2] t)) (.mk op 0 [x]) (.agg #[.string (Em.str op), .int .i64 0, .slice (some ⟨w.heap.size, 0, none⟩) 1 1]) := by
  have hb : Below w.heap.size w (w.alloc (.cells #[c0, c1, c2] t)) := (Below.refl _ _).alloc (Nat.le_refl _) _
  unfold IsTyP
  refine ⟨_, 1, rfl, ho, by unfold Em5.I64; decide, by simp, by simp, fun _ => ⟨w.heap.size, 0, rfl, by simp, hP, ?_⟩⟩
  unfold TysAtP TysAtP
  exact ⟨⟨c0, c1, c2, by simp, by simp, by simp, isTyP_keep hb.size (fun k hp hl => ⟨hb.block k hl, hp⟩) _ _ hx⟩, trivial⟩
theorem isTyP_bel {P : Nat → Prop} {w w' : World} {t : Ty} {v : Value} (h : IsTyP P w t v) (hb : Below w.heap.size w w') : IsTyP P w' t v := isTyP_keep hb.size (fun k hp hl => ⟨hb.block k hl, hp⟩) _ _ h

def k9A : Ty := .mk tList 0 [tv 0]
def k9B : Ty := .mk tList 0 [.mk tInt 0 []]
theorem k9_teach : Em8.teach k9A = true ∧ Em8.teach k9B = true ∧ Em8.teach (tv 0) = true := by decide +kernel
theorem k9_size : k9A.size = 2 ∧ k9B.size = 2 := by decide +kernel
theorem k9_could : ∃ t, Fac t tv ∧ tsub t k9A = tsub t k9B := ⟨fun _ => .mk tInt 0 [], fun x => tsub_tv _ _, by
  unfold k9A k9B
  rw [tsub_else _ (by decide), tsub_else _ (by decide)]
  simp only [List.map_cons, List.map_nil]
  rw [tsub_tv, tsub_else _ (by decide)]; rfl⟩
theorem k9_then {d : Int → Ty} (hd : Fac d d) (h : ∀ t, Fac t d ↔ Fac t tv ∧ tsub t k9A = tsub t k9B) : tsub d (tv 0) = .mk tInt 0 [] := by
  have := ((h d).1 hd).2
  unfold k9A k9B at this
  rw [tsub_else d (by decide), tsub_else d (by decide)] at this
  simp only [List.map_cons, List.map_nil, Ty.mk.injEq, List.cons.injEq, and_true, true_and] at this
  rw [this, tsub_else d (by decide)]
  rfl

set_option maxRecDepth 100000 in
set_option maxHeartbeats 4000000 in
theorem known9_any (w : World) : Calls Try.prog 14 #[] w fun e w' => e = .returned (.bool true) ∧ Below w.heap.size w w' := by
  go_enter Try.func14, Try.ntmps14
  go_wp2_with fail
  refine (unew_any w).mono ?_
  rintro e w1 ⟨rfl, hb1, Mn, hU1, hMn⟩
  have HB1 : Hid (Below w.heap.size w w1) := hb1
  have HM : Hid (∀ k, Mn k → k = w.heap.size) := hMn
  have HFR := ufresh_any hU1 ⟨by omega, by omega⟩
  clear hb1 hMn hU1
  go_wp2_with fail
  refine HFR.mono ?_
  rintro e w2 ⟨rfl, hU2, hk2⟩
  have HU2 : Hid (Uf w2 w.heap.size (0 + 1) 0 Mn 0 tv fun _ => False) := hU2
  have HB2 : Hid (Below w.heap.size w w2 ∧ w.heap.size < w2.heap.size) := ⟨HB1.out.trans (hk2.below HB1.out.size fun b hb e => by omega), by have := hU2.lt hU2.mine; exact this⟩
  clear hk2 hU2 HFR HB1
  obtain ⟨X2, hX2⟩ : ∃ X, X = w2.alloc (.cells #[.string (Em.str tVar), .int .i64 0, .slice none 0 0] 25) := ⟨_, rfl⟩
  obtain ⟨X3, hX3⟩ : ∃ X, X = X2.alloc (.cells #[.string (Em.str tVar), .int .i64 0, .slice none 0 0] 25) := ⟨_, rfl⟩
  have bX2 : Below w2.heap.size w2 X2 := by rw [hX2]; exact (Below.refl _ _).alloc (Nat.le_refl _) _
  have zX2 : X2.heap.size = w2.heap.size + 1 := by rw [hX2]; simp
  have bX3 : Below X2.heap.size X2 X3 := by rw [hX3]; exact (Below.refl _ _).alloc (Nat.le_refl _) _
  have k0 : X2.cell? ⟨w2.heap.size, 0, none⟩ = some (.string (Em.str tVar)) := by rw [hX2]; simp
  have k1 : X2.cell? ⟨w2.heap.size, 1, none⟩ = some (.int .i64 0) := by rw [hX2]; simp
  have k2 : X2.cell? ⟨w2.heap.size, 2, none⟩ = some (.slice none 0 0) := by rw [hX2]; simp
  have HK : Hid (X2.cell? ⟨w2.heap.size, 0, none⟩ = some (.string (Em.str tVar)) ∧ X2.cell? ⟨w2.heap.size, 1, none⟩ = some (.int .i64 0) ∧ X2.cell? ⟨w2.heap.size, 2, none⟩ = some (.slice none 0 0)) := ⟨k0, k1, k2⟩
  have DA : Hid (IsTyP (fun k => ¬ Mn k) X3 k9A (.agg #[.string (Em.str tList), .int .i64 0, .slice (some ⟨X2.heap.size, 0, none⟩) 1 1])) := by
    rw [Hid, hX3]
    exact isTyP_one ⟨by decide, by decide⟩ (isTyP_leaf _ _ ⟨by decide, by decide⟩ (by unfold Em5.I64; decide)) (fun h => by have := HM.out _ h; have := HB2.out.2; omega) _
  have HX : Hid (Below w2.heap.size w2 X2 ∧ Below w2.heap.size w2 X3 ∧ Below X2.heap.size X2 X3 ∧ X2.heap.size = w2.heap.size + 1) := ⟨bX2, bX2.trans (bX3.mono bX2.size), bX3, zX2⟩
  have HX2 : Hid (w2.alloc (.cells #[.string (Em.str tVar), .int .i64 0, .slice none 0 0] 25) = X2) := hX2.symm
  have HX3 : Hid (X2.alloc (.cells #[.string (Em.str tVar), .int .i64 0, .slice none 0 0] 25) = X3) := hX3.symm
  have HZ : Hid (w2.heap.size + 1 = X2.heap.size) := zX2.symm
  clear hX2 hX3 bX2 bX3 zX2
  go_upto_region 5 with fail
  rw [HX2.out]
  go_wp2_with fail
  rw [HX3.out]
  refine (rtTc_any _ _ _ _ _).mono ?_
  rintro e w3 ⟨rfl, hb3⟩
  have HB3 : Hid (Below X3.heap.size X3 w3) := hb3
  clear hb3 k0 k1 k2
  go_wp2_with fail
  refine (rtTc_any _ _ _ _ _).mono ?_
  rintro e w4 ⟨rfl, hb4⟩
  have HB4 : Hid (Below w3.heap.size w3 w4) := hb4
  clear hb4
  obtain ⟨X4, hX4⟩ : ∃ X, X = w4.alloc (.cells #[.string ⟨#[105, 110, 116]⟩, .int .i64 0, .slice none 0 0] 25) := ⟨_, rfl⟩
  have HX4 : Hid (w4.alloc (.cells #[.string ⟨#[105, 110, 116]⟩, .int .i64 0, .slice none 0 0] 25) = X4) := hX4.symm
  have HY : Hid (Below X3.heap.size X3 w4) := HB3.out.trans (HB4.out.mono HB3.out.size)
  have DB : Hid (IsTyP (fun k => ¬ Mn k) X4 k9B (.agg #[.string (Em.str tList), .int .i64 0, .slice (some ⟨w4.heap.size, 0, none⟩) 1 1])) := by
    rw [Hid, hX4]
    exact isTyP_one ⟨by decide, by decide⟩ (isTyP_leaf _ _ ⟨by decide, by decide⟩ (by unfold Em5.I64; decide)) (fun h => by have := HM.out _ h; have := HB2.out.2; have := HX.out.2.1.size; have := HY.out.size; omega) _
  have HB5 : Hid (Below X3.heap.size X3 X4) := by
    rw [Hid, hX4]; exact HY.out.alloc HY.out.size _
  clear hX4
  go_wp2_with fail
  rw [HX4.out]
  refine (rtTc_any _ _ _ _ _).mono ?_
  rintro e w5 ⟨rfl, hb5⟩
  have HB6 : Hid (Below X3.heap.size X3 w5) := HB5.out.trans (hb5.mono HB5.out.size)
  have DB5 : Hid (IsTyP (fun k => ¬ Mn k) w5 k9B (.agg #[.string (Em.str tList), .int .i64 0, .slice (some ⟨w4.heap.size, 0, none⟩) 1 1])) := isTyP_bel DB.out hb5
  have DA5 : Hid (IsTyP (fun k => ¬ Mn k) w5 k9A (.agg #[.string (Em.str tList), .int .i64 0, .slice (some ⟨X2.heap.size, 0, none⟩) 1 1])) := isTyP_bel DA.out HB6.out
  have HU5 : Hid (Uf w5 w.heap.size (0 + 1) 0 Mn 0 tv fun _ => False) := HU2.out.below (HX.out.2.1.trans (HB6.out.mono HX.out.2.1.size))
  have HUN := uUnify_any HU5.out ⟨by omega, by omega⟩ k9_teach.1 k9_teach.2.1 (by rw [k9_size.1, k9_size.2]; decide) (.inl k9_could) DA5.out DB5.out
  clear hb5
  go_wp2_with fail
  refine HUN.mono ?_
  rintro e w6 ⟨hk6, ⟨rfl, Mn', d', hU6, hf6, -⟩ | ⟨rfl, hno⟩⟩
  · have HO := uOf_any (some w.heap.size) d' (tv 0) k9_teach.2.2 (.agg #[.string (Em.str tVar), .int .i64 0, .slice none 0 0]) w6 (isTyP_is _ _ (isTyP_leaf (fun _ => True) w6 ⟨by decide, by decide⟩ (by unfold Em5.I64; decide))) (hU6.ready (by rw [k9_size.1, k9_size.2]; decide))
    have HT : Hid (tsub d' (tv 0) = .mk tInt 0 []) := k9_then hU6.fac hf6
    have b6 : ∀ o, w6.cell? ⟨w2.heap.size, o, none⟩ = X2.cell? ⟨w2.heap.size, o, none⟩ := fun o => by
      have h1 := HX.out.2.2.2
      have h2 := HX.out.2.2.1.size
      have h3 := HB6.out.size
      rw [hk6.cell (by omega) (fun h => by have := HM.out _ h; have := HB2.out.2; omega) o, HB6.out.cell (p := ⟨w2.heap.size, o, none⟩) (by simp only; omega), HX.out.2.2.1.cell (p := ⟨w2.heap.size, o, none⟩) (by simp only; omega)]
    have k0 := (b6 0).trans HK.out.1
    have k1 := (b6 1).trans HK.out.2.1
    have k2 := (b6 2).trans HK.out.2.2
    have HB7 : Hid (Below w.heap.size w w6) := by
      have h1 := HX.out.2.1
      have b5 : Below w.heap.size w w5 := HB2.out.1.trans ((h1.trans (HB6.out.mono h1.size)).mono HB2.out.1.size)
      exact b5.trans (hk6.below b5.size fun b hb h => by have := HM.out _ h; omega)
    clear hk6 hU6 hf6 b6 HUN
    rw [ptr_some] at HO
    go_wp2_with fail
    refine HO.mono ?_
    rintro e w7 ⟨u, rfl, hu, hb7⟩
    rw [HT.out] at hu
    unfold IsTyP at hu
    obtain ⟨ua, uc, rfl, -⟩ := hu
    have HB8 : Hid (Below w.heap.size w w7) := HB7.out.trans (hb7.mono HB7.out.size)
    clear hb7 HO k0 k1 k2
    have hfd : Sem.run Try.prog (Instr.field 25 (.agg #[.string (Em.str tInt), .int .i64 0, .slice ua 0 uc]) 0) w7 = .ok (.string (Em.str tInt)) w7 := by kernel_rfl
    have hq : ((Em.str tInt).toList == [105, 110, 116]) = true := (Em5.str_eq (by decide) _).trans (by decide)
    go_wp2_with fail
    go_ret
    exact ⟨by first | rfl | simp, HB8.out⟩
  · obtain ⟨t, ht⟩ := k9_could
    exact absurd ht (hno t)
end Go.Proofs.Ytadhjnbhcenocaa

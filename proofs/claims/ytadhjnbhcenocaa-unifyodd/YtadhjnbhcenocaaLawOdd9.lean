/- UnifyOdd: six pairs of types that can not be made one are not, whatever the number that chooses among them. Written by genodd9.py. -/
import Derived.Test.YtadhjnbhcenocaaRows
import Derived.Test.YtadhjnbhcenocaaOddG9
import Derived.Test.YtadhjnbhcenocaaMkA
import Derived.Test.YtadhjnbhcenocaaUfG9
import Derived.Test.YtadhjnbhcenocaaFrameG9
import Derived.Deep.RegionHeld
import Derived.Deep.Cut
namespace Go.Proofs.Ytadhjnbhcenocaa
open Go.ChangeShapes Go.WideShapes Go.ChangeAt Go.RowKit Go.Em8 Go.Em9
set_option linter.unusedVariables false
set_option linter.unusedSimpArgs false

def o9K : List K9 := [.ty o9N, .ty o9B, .pr (o9N, o9B), .ty o9N, .row [o9N], .ty (.mk tList 0 [o9N]), .ty o9N, .row [o9N], .ty (.mk tRef 0 [o9N]), .pr ((.mk tList 0 [o9N]), (.mk tRef 0 [o9N])), .ty (tv 0), .ty (tv 0), .row [(tv 0), (tv 0)], .ty (.mk tPair 0 [(tv 0), (tv 0)]), .ty o9N, .ty o9B, .row [o9N, o9B], .ty (.mk tPair 0 [o9N, o9B]), .pr ((.mk tPair 0 [(tv 0), (tv 0)]), (.mk tPair 0 [o9N, o9B])), .ty (tv 0), .ty (tv 1), .row [(tv 0), (tv 1)], .ty (.mk tFun 0 [(tv 0), (tv 1)]), .ty (tv 0), .pr ((.mk tFun 0 [(tv 0), (tv 1)]), (tv 0)), .ty (tv 0), .ty (tv 1), .row [(tv 0), (tv 1)], .ty (.mk tPair 0 [(tv 0), (tv 1)]), .ty (tv 1), .row [(tv 1)], .ty (.mk tList 0 [(tv 1)]), .ty (tv 0), .row [(tv 0)], .ty (.mk tList 0 [(tv 0)]), .row [(.mk tList 0 [(tv 1)]), (.mk tList 0 [(tv 0)])], .ty (.mk tPair 0 [(.mk tList 0 [(tv 1)]), (.mk tList 0 [(tv 0)])]), .pr ((.mk tPair 0 [(tv 0), (tv 1)]), (.mk tPair 0 [(.mk tList 0 [(tv 1)]), (.mk tList 0 [(tv 0)])])), .ty (.mk tCell 0 []), .ty (tv 0), .row [(tv 0)], .ty (.mk tList 0 [(tv 0)]), .pr ((.mk tCell 0 []), (.mk tList 0 [(tv 0)])), .prs o9L, .prs o9L]
section
variable {ops : Array Oper} {md : Region.Mode} {i j d : Nat} {o : Oper} {a : Act} {w : World}
abbrev OkO (i : Nat) (v : Value) (w : World) : Prop := Ok9 o9K[i]? v w
theorem dep_ty {t : Ty} (hk : o9K[j]? = some (.ty t)) (h : OkO j (a.eval (.tmp d)) w) : IsTy w t (a.eval (.tmp d)) := by unfold OkO at h; rw [hk] at h; exact h
theorem dep_row {l : List Ty} (hk : o9K[j]? = some (.row l)) (h : OkO j (a.eval (.tmp d)) w) : IsTys w (a.eval (.tmp d)) l := by unfold OkO at h; rw [hk] at h; exact h
theorem dep_pr {p : Ty × Ty} (hk : o9K[j]? = some (.pr p)) (h : OkO j (a.eval (.tmp d)) w) : IsPr w p (a.eval (.tmp d)) := by unfold OkO at h; rw [hk] at h; exact h
theorem dep_prs {l : List (Ty × Ty)} (hk : o9K[j]? = some (.prs l)) (h : OkO j (a.eval (.tmp d)) w) : IsPairs w (a.eval (.tmp d)) l := by unfold OkO at h; rw [hk] at h; exact h
variable {P : Program} {R : World → Prop}
theorem to_ty {t : Ty} (hk : o9K[i]? = some (.ty t)) (h : Res P o a w fun v w' => IsTy w' t v ∧ R w') : Res P o a w fun v w' => OkO i v w' ∧ R w' := by unfold OkO; rw [hk]; exact h
theorem to_row {l : List Ty} (hk : o9K[i]? = some (.row l)) (h : Res P o a w fun v w' => IsTys w' v l ∧ R w') : Res P o a w fun v w' => OkO i v w' ∧ R w' := by unfold OkO; rw [hk]; exact h
theorem to_pr {p : Ty × Ty} (hk : o9K[i]? = some (.pr p)) (h : Res P o a w fun v w' => IsPr w' p v ∧ R w') : Res P o a w fun v w' => OkO i v w' ∧ R w' := by unfold OkO; rw [hk]; exact h
theorem to_prs {l : List (Ty × Ty)} (hk : o9K[i]? = some (.prs l)) (h : Res P o a w fun v w' => IsPairs w' v l ∧ R w') : Res P o a w fun v w' => OkO i v w' ∧ R w' := by unfold OkO; rw [hk]; exact h
theorem val_of {Ok : Nat → Value → World → Prop} (hval : ∀ (i : Nat) (o : Oper) (d : Nat), ops[i]? = some o → o.dst = some d → Ok i (a.eval (.tmp d)) w) (h : ops[i]?.bind (·.dst) = some d) : Ok i (a.eval (.tmp d)) w := by
  cases ho : ops[i]? with
  | none => rw [ho] at h; simp at h
  | some o => rw [ho] at h; exact hval i o d ho (by simpa using h)
end
/-- Where a type that lies below may lie. -/
theorem isTy_far9 {w w' : World} {T : Ty} {v : Value} (h : IsTy w T v) (hb : Below w.heap.size w w') {Mn : Nat → Prop} (hM : ∀ k, Mn k → w.heap.size ≤ k) : IsTyP (fun k => ¬ Mn k) w' T v :=
  isTyP_keep hb.size (fun k hp hl => ⟨hb.block k hl, fun e => absurd (hM k e) (by omega)⟩) _ _ (isTy_isP _ _ h)

set_option maxRecDepth 100000 in
set_option maxHeartbeats 16000000 in
theorem walk_unifyOdd (w : World) (v : Value) (hv : ∃ n : Int, v = .int .i64 n ∧ (Lit.int .i64 n).wf = true) :
    Calls Try.prog 7 #[v] w fun e w' => e = .returned (.bool true) ∧ Below w.heap.size w w' := by
  obtain ⟨way, rfl, -⟩ := hv
  go_enter Try.func7, Try.ntmps7
  go_wp2_with fail
  refine (rtVar_any _ _).mono ?_
  rintro e w1 ⟨rfl, hb1⟩
  have HB1 : Hid (Below w.heap.size w w1) := hb1
  clear hb1
  go_wp2_with fail
  refine (rtVar_any _ _).mono ?_
  rintro e w2 ⟨rfl, hb2⟩
  have HB2 : Hid (Below w.heap.size w w2) := HB1.out.trans (hb2.mono HB1.out.size)
  clear hb2
  go_wp2_with fail
  refine (rtTc_any _ _ _ _ _).mono ?_
  rintro e w3 ⟨rfl, hb3⟩
  have HB3 : Hid (Below (w2.heap.size + 2) ((w2.alloc (.cells #[.string (Em.str tVar), .int .i64 0, .slice none 0 0] 25)).alloc (.cells #[.string (Em.str tVar), .int .i64 1, .slice none 0 0] 25)) w3) := hb3.mono (by simp)
  clear hb3
  go_wp2_with fail
  refine (rtTc_any _ _ _ _ _).mono ?_
  rintro e w4 ⟨rfl, hb4⟩
  have HB4 : Hid (Below w3.heap.size w3 w4) := hb4
  clear hb4
  obtain ⟨X, hX⟩ : ∃ X, X = (w4.alloc (.cells #[.string ⟨#[105, 110, 116]⟩, .int .i64 0, .slice none 0 0] 25)).alloc (.cells #[.string ⟨#[98, 111, 111, 108]⟩, .int .i64 0, .slice none 0 0] 25) := ⟨_, rfl⟩
  obtain ⟨V, hV⟩ : ∃ V, V = (w2.alloc (.cells #[.string (Em.str tVar), .int .i64 0, .slice none 0 0] 25)).alloc (.cells #[.string (Em.str tVar), .int .i64 1, .slice none 0 0] 25) := ⟨_, rfl⟩
  have hb3 := HB3.out
  rw [← hV] at hb3
  have zV : V.heap.size = w2.heap.size + 2 := by rw [hV]; simp
  rw [← zV] at hb3
  have hb2 : Below w2.heap.size w2 V := by rw [hV]; exact ((Below.refl _ _).alloc (Nat.le_refl _) _).alloc (by simp) _
  have hb24 : Below w2.heap.size w2 w4 := hb2.trans ((hb3.trans (HB4.out.mono hb3.size)).mono hb2.size)
  have hbV4 : Below V.heap.size V w4 := hb3.trans (HB4.out.mono hb3.size)
  have zX : X.heap.size = w4.heap.size + 2 := by rw [hX]; simp
  have hb4X : Below w4.heap.size w4 X := by rw [hX]; exact ((Below.refl _ _).alloc (Nat.le_refl _) _).alloc (by simp) _
  have hbVX : Below V.heap.size V X := hbV4.trans (hb4X.mono hbV4.size)
  have HBX : Hid (Below w.heap.size w X) := HB2.out.trans ((hb24.trans (hb4X.mono hb24.size)).mono HB2.out.size)
  have HC3 : Hid (∀ w', Below X.drew.heap.size X.drew w' → w'.cell? ⟨w2.heap.size, 0, none⟩ = some (.string (Em.str tVar)) ∧ w'.cell? ⟨w2.heap.size, 1, none⟩ = some (.int .i64 0) ∧ w'.cell? ⟨w2.heap.size, 2, none⟩ = some (.slice none 0 0)) := fun w' h => by
    have hh : Below V.heap.size V w' := hbVX.drew.trans (h.mono hbVX.size)
    have key : ∀ o, w'.cell? ⟨w2.heap.size, o, none⟩ = V.cell? ⟨w2.heap.size, o, none⟩ := fun o => hh.cell (p := ⟨w2.heap.size, o, none⟩) (by simp only; omega)
    refine ⟨?_, ?_, ?_⟩ <;> rw [key, hV] <;> simp
  have HC4 : Hid (∀ w', Below X.drew.heap.size X.drew w' → w'.cell? ⟨w2.heap.size + 1, 0, none⟩ = some (.string (Em.str tVar)) ∧ w'.cell? ⟨w2.heap.size + 1, 1, none⟩ = some (.int .i64 1) ∧ w'.cell? ⟨w2.heap.size + 1, 2, none⟩ = some (.slice none 0 0)) := fun w' h => by
    have hh : Below V.heap.size V w' := hbVX.drew.trans (h.mono hbVX.size)
    have key : ∀ o, w'.cell? ⟨w2.heap.size + 1, o, none⟩ = V.cell? ⟨w2.heap.size + 1, o, none⟩ := fun o => hh.cell (p := ⟨w2.heap.size + 1, o, none⟩) (by simp only; omega)
    refine ⟨?_, ?_, ?_⟩ <;> rw [key, hV] <;> simp
  have HC5 : Hid (∀ w', Below X.drew.heap.size X.drew w' → w'.cell? ⟨w4.heap.size, 0, none⟩ = some (.string ⟨#[105, 110, 116]⟩) ∧ w'.cell? ⟨w4.heap.size, 1, none⟩ = some (.int .i64 0) ∧ w'.cell? ⟨w4.heap.size, 2, none⟩ = some (.slice none 0 0)) := fun w' h => by
    have key : ∀ o, w'.cell? ⟨w4.heap.size, o, none⟩ = X.cell? ⟨w4.heap.size, o, none⟩ := fun o => ((Below.refl X.heap.size X).drew.trans h).cell (p := ⟨w4.heap.size, o, none⟩) (by simp only; omega)
    refine ⟨?_, ?_, ?_⟩ <;> rw [key, hX] <;> simp
  have HC6 : Hid (∀ w', Below X.drew.heap.size X.drew w' → w'.cell? ⟨w4.heap.size + 1, 0, none⟩ = some (.string ⟨#[98, 111, 111, 108]⟩) ∧ w'.cell? ⟨w4.heap.size + 1, 1, none⟩ = some (.int .i64 0) ∧ w'.cell? ⟨w4.heap.size + 1, 2, none⟩ = some (.slice none 0 0)) := fun w' h => by
    have key : ∀ o, w'.cell? ⟨w4.heap.size + 1, o, none⟩ = X.cell? ⟨w4.heap.size + 1, o, none⟩ := fun o => ((Below.refl X.heap.size X).drew.trans h).cell (p := ⟨w4.heap.size + 1, o, none⟩) (by simp only; omega)
    refine ⟨?_, ?_, ?_⟩ <;> rw [key, hX] <;> simp
  have HY3 : Hid (∀ w', IsTy w' (tv 0) (.agg #[.string (Em.str tVar), .int .i64 0, .slice none 0 0])) := fun w' => ty_leaf w' _ rfl ⟨by decide, by decide⟩ (by unfold Em5.I64; decide)
  have HY4 : Hid (∀ w', IsTy w' (tv 1) (.agg #[.string (Em.str tVar), .int .i64 1, .slice none 0 0])) := fun w' => ty_leaf w' _ rfl ⟨by decide, by decide⟩ (by unfold Em5.I64; decide)
  have HY5 : Hid (∀ w', IsTy w' o9N (.agg #[.string ⟨#[105, 110, 116]⟩, .int .i64 0, .slice none 0 0])) := fun w' => ty_leaf w' (op := tInt) _ rfl ⟨by decide, by decide⟩ (by unfold Em5.I64; decide)
  have HY6 : Hid (∀ w', IsTy w' o9B (.agg #[.string ⟨#[98, 111, 111, 108]⟩, .int .i64 0, .slice none 0 0])) := fun w' => ty_leaf w' (op := tBool) _ rfl ⟨by decide, by decide⟩ (by unfold Em5.I64; decide)
  have HXE : Hid ((w4.alloc (.cells #[.string ⟨#[105, 110, 116]⟩, .int .i64 0, .slice none 0 0] 25)).alloc (.cells #[.string ⟨#[98, 111, 111, 108]⟩, .int .i64 0, .slice none 0 0] 25) = X) := hX.symm
  clear hX hV hb3 hb2 hb24 hbV4 hb4X hbVX zV zX HB1 HB2 HB3 HB4
  go_upto_region 3 with fail
  rw [HXE.out]
  clear HXE
  go_cut [7] from 13 (fun s7 wx => Hid (IsPairs wx s7 o9L ∧ Below X.heap.size X wx))
  case first =>
    refine wp_region_any (by kernel_rfl) (wpAny_values (Ok := OkO) (by kernel_rfl) (fun i v w w' h hb => h.below hb) ?step ?done)
    case step =>
      intro i o ho a w hb hfix hdep
      have hi : i < 45 := (Array.getElem?_eq_some_iff.1 ho).1
      match i, hi, ho with
      | 0, _, ho => exact to_ty rfl (s_load (.tmp 5) (op_of ho (by kernel_rfl)) ((hfix 5 (fix_of (by kernel_rfl))).trans rfl) (HC5.out _ hb) (HY5.out _))
      | 1, _, ho => exact to_ty rfl (s_load (.tmp 6) (op_of ho (by kernel_rfl)) ((hfix 6 (fix_of (by kernel_rfl))).trans rfl) (HC6.out _ hb) (HY6.out _))
      | 2, _, ho => exact to_pr rfl (s_pair (.tmp 13) (.tmp 14) (op_of ho (by kernel_rfl)) (dep_ty rfl (dep_of (j := 0) (d := 13) ho hdep (by kernel_rfl) (by kernel_rfl))) (dep_ty rfl (dep_of (j := 1) (d := 14) ho hdep (by kernel_rfl) (by kernel_rfl))))
      | 3, _, ho => exact to_ty rfl (s_load (.tmp 5) (op_of ho (by kernel_rfl)) ((hfix 5 (fix_of (by kernel_rfl))).trans rfl) (HC5.out _ hb) (HY5.out _))
      | 4, _, ho => exact to_row rfl (s_row1 (.tmp 16) (op_of ho (by kernel_rfl)) (dep_ty rfl (dep_of (j := 3) (d := 16) ho hdep (by kernel_rfl) (by kernel_rfl))))
      | 5, _, ho => exact to_ty rfl (s_T tList ⟨#[108, 105, 115, 116]⟩ rfl ⟨by decide, by decide⟩ (.tmp 17) #[9, 23] (op_of ho (by kernel_rfl)) (dep_row rfl (dep_of (j := 4) (d := 17) ho hdep (by kernel_rfl) (by kernel_rfl))))
      | 6, _, ho => exact to_ty rfl (s_load (.tmp 5) (op_of ho (by kernel_rfl)) ((hfix 5 (fix_of (by kernel_rfl))).trans rfl) (HC5.out _ hb) (HY5.out _))
      | 7, _, ho => exact to_row rfl (s_row1 (.tmp 19) (op_of ho (by kernel_rfl)) (dep_ty rfl (dep_of (j := 6) (d := 19) ho hdep (by kernel_rfl) (by kernel_rfl))))
      | 8, _, ho => exact to_ty rfl (s_T tRef ⟨#[114, 101, 102]⟩ rfl ⟨by decide, by decide⟩ (.tmp 20) #[9, 23] (op_of ho (by kernel_rfl)) (dep_row rfl (dep_of (j := 7) (d := 20) ho hdep (by kernel_rfl) (by kernel_rfl))))
      | 9, _, ho => exact to_pr rfl (s_pair (.tmp 18) (.tmp 21) (op_of ho (by kernel_rfl)) (dep_ty rfl (dep_of (j := 5) (d := 18) ho hdep (by kernel_rfl) (by kernel_rfl))) (dep_ty rfl (dep_of (j := 8) (d := 21) ho hdep (by kernel_rfl) (by kernel_rfl))))
      | 10, _, ho => exact to_ty rfl (s_load (.tmp 3) (op_of ho (by kernel_rfl)) ((hfix 3 (fix_of (by kernel_rfl))).trans rfl) (HC3.out _ hb) (HY3.out _))
      | 11, _, ho => exact to_ty rfl (s_load (.tmp 3) (op_of ho (by kernel_rfl)) ((hfix 3 (fix_of (by kernel_rfl))).trans rfl) (HC3.out _ hb) (HY3.out _))
      | 12, _, ho => exact to_row rfl (s_row2 (.tmp 23) (.tmp 24) (op_of ho (by kernel_rfl)) (dep_ty rfl (dep_of (j := 10) (d := 23) ho hdep (by kernel_rfl) (by kernel_rfl))) (dep_ty rfl (dep_of (j := 11) (d := 24) ho hdep (by kernel_rfl) (by kernel_rfl))))
      | 13, _, ho => exact to_ty rfl (s_T tPair ⟨#[112, 97, 105, 114]⟩ rfl ⟨by decide, by decide⟩ (.tmp 25) #[9, 23] (op_of ho (by kernel_rfl)) (dep_row rfl (dep_of (j := 12) (d := 25) ho hdep (by kernel_rfl) (by kernel_rfl))))
      | 14, _, ho => exact to_ty rfl (s_load (.tmp 5) (op_of ho (by kernel_rfl)) ((hfix 5 (fix_of (by kernel_rfl))).trans rfl) (HC5.out _ hb) (HY5.out _))
      | 15, _, ho => exact to_ty rfl (s_load (.tmp 6) (op_of ho (by kernel_rfl)) ((hfix 6 (fix_of (by kernel_rfl))).trans rfl) (HC6.out _ hb) (HY6.out _))
      | 16, _, ho => exact to_row rfl (s_row2 (.tmp 27) (.tmp 28) (op_of ho (by kernel_rfl)) (dep_ty rfl (dep_of (j := 14) (d := 27) ho hdep (by kernel_rfl) (by kernel_rfl))) (dep_ty rfl (dep_of (j := 15) (d := 28) ho hdep (by kernel_rfl) (by kernel_rfl))))
      | 17, _, ho => exact to_ty rfl (s_T tPair ⟨#[112, 97, 105, 114]⟩ rfl ⟨by decide, by decide⟩ (.tmp 29) #[9, 23] (op_of ho (by kernel_rfl)) (dep_row rfl (dep_of (j := 16) (d := 29) ho hdep (by kernel_rfl) (by kernel_rfl))))
      | 18, _, ho => exact to_pr rfl (s_pair (.tmp 26) (.tmp 30) (op_of ho (by kernel_rfl)) (dep_ty rfl (dep_of (j := 13) (d := 26) ho hdep (by kernel_rfl) (by kernel_rfl))) (dep_ty rfl (dep_of (j := 17) (d := 30) ho hdep (by kernel_rfl) (by kernel_rfl))))
      | 19, _, ho => exact to_ty rfl (s_load (.tmp 3) (op_of ho (by kernel_rfl)) ((hfix 3 (fix_of (by kernel_rfl))).trans rfl) (HC3.out _ hb) (HY3.out _))
      | 20, _, ho => exact to_ty rfl (s_load (.tmp 4) (op_of ho (by kernel_rfl)) ((hfix 4 (fix_of (by kernel_rfl))).trans rfl) (HC4.out _ hb) (HY4.out _))
      | 21, _, ho => exact to_row rfl (s_row2 (.tmp 32) (.tmp 33) (op_of ho (by kernel_rfl)) (dep_ty rfl (dep_of (j := 19) (d := 32) ho hdep (by kernel_rfl) (by kernel_rfl))) (dep_ty rfl (dep_of (j := 20) (d := 33) ho hdep (by kernel_rfl) (by kernel_rfl))))
      | 22, _, ho => exact to_ty rfl (s_T tFun ⟨#[102, 117, 110]⟩ rfl ⟨by decide, by decide⟩ (.tmp 34) #[9, 23] (op_of ho (by kernel_rfl)) (dep_row rfl (dep_of (j := 21) (d := 34) ho hdep (by kernel_rfl) (by kernel_rfl))))
      | 23, _, ho => exact to_ty rfl (s_load (.tmp 3) (op_of ho (by kernel_rfl)) ((hfix 3 (fix_of (by kernel_rfl))).trans rfl) (HC3.out _ hb) (HY3.out _))
      | 24, _, ho => exact to_pr rfl (s_pair (.tmp 35) (.tmp 36) (op_of ho (by kernel_rfl)) (dep_ty rfl (dep_of (j := 22) (d := 35) ho hdep (by kernel_rfl) (by kernel_rfl))) (dep_ty rfl (dep_of (j := 23) (d := 36) ho hdep (by kernel_rfl) (by kernel_rfl))))
      | 25, _, ho => exact to_ty rfl (s_load (.tmp 3) (op_of ho (by kernel_rfl)) ((hfix 3 (fix_of (by kernel_rfl))).trans rfl) (HC3.out _ hb) (HY3.out _))
      | 26, _, ho => exact to_ty rfl (s_load (.tmp 4) (op_of ho (by kernel_rfl)) ((hfix 4 (fix_of (by kernel_rfl))).trans rfl) (HC4.out _ hb) (HY4.out _))
      | 27, _, ho => exact to_row rfl (s_row2 (.tmp 38) (.tmp 39) (op_of ho (by kernel_rfl)) (dep_ty rfl (dep_of (j := 25) (d := 38) ho hdep (by kernel_rfl) (by kernel_rfl))) (dep_ty rfl (dep_of (j := 26) (d := 39) ho hdep (by kernel_rfl) (by kernel_rfl))))
      | 28, _, ho => exact to_ty rfl (s_T tPair ⟨#[112, 97, 105, 114]⟩ rfl ⟨by decide, by decide⟩ (.tmp 40) #[9, 23] (op_of ho (by kernel_rfl)) (dep_row rfl (dep_of (j := 27) (d := 40) ho hdep (by kernel_rfl) (by kernel_rfl))))
      | 29, _, ho => exact to_ty rfl (s_load (.tmp 4) (op_of ho (by kernel_rfl)) ((hfix 4 (fix_of (by kernel_rfl))).trans rfl) (HC4.out _ hb) (HY4.out _))
      | 30, _, ho => exact to_row rfl (s_row1 (.tmp 42) (op_of ho (by kernel_rfl)) (dep_ty rfl (dep_of (j := 29) (d := 42) ho hdep (by kernel_rfl) (by kernel_rfl))))
      | 31, _, ho => exact to_ty rfl (s_T tList ⟨#[108, 105, 115, 116]⟩ rfl ⟨by decide, by decide⟩ (.tmp 43) #[9, 23] (op_of ho (by kernel_rfl)) (dep_row rfl (dep_of (j := 30) (d := 43) ho hdep (by kernel_rfl) (by kernel_rfl))))
      | 32, _, ho => exact to_ty rfl (s_load (.tmp 3) (op_of ho (by kernel_rfl)) ((hfix 3 (fix_of (by kernel_rfl))).trans rfl) (HC3.out _ hb) (HY3.out _))
      | 33, _, ho => exact to_row rfl (s_row1 (.tmp 45) (op_of ho (by kernel_rfl)) (dep_ty rfl (dep_of (j := 32) (d := 45) ho hdep (by kernel_rfl) (by kernel_rfl))))
      | 34, _, ho => exact to_ty rfl (s_T tList ⟨#[108, 105, 115, 116]⟩ rfl ⟨by decide, by decide⟩ (.tmp 46) #[9, 23] (op_of ho (by kernel_rfl)) (dep_row rfl (dep_of (j := 33) (d := 46) ho hdep (by kernel_rfl) (by kernel_rfl))))
      | 35, _, ho => exact to_row rfl (s_row2 (.tmp 44) (.tmp 47) (op_of ho (by kernel_rfl)) (dep_ty rfl (dep_of (j := 31) (d := 44) ho hdep (by kernel_rfl) (by kernel_rfl))) (dep_ty rfl (dep_of (j := 34) (d := 47) ho hdep (by kernel_rfl) (by kernel_rfl))))
      | 36, _, ho => exact to_ty rfl (s_T tPair ⟨#[112, 97, 105, 114]⟩ rfl ⟨by decide, by decide⟩ (.tmp 48) #[9, 23] (op_of ho (by kernel_rfl)) (dep_row rfl (dep_of (j := 35) (d := 48) ho hdep (by kernel_rfl) (by kernel_rfl))))
      | 37, _, ho => exact to_pr rfl (s_pair (.tmp 41) (.tmp 49) (op_of ho (by kernel_rfl)) (dep_ty rfl (dep_of (j := 28) (d := 41) ho hdep (by kernel_rfl) (by kernel_rfl))) (dep_ty rfl (dep_of (j := 36) (d := 49) ho hdep (by kernel_rfl) (by kernel_rfl))))
      | 38, _, ho => exact to_ty rfl (s_T tCell ⟨#[99, 101, 108, 108]⟩ rfl ⟨by decide, by decide⟩ (.const (.slice none 0 0)) #[9, 23] (op_of ho (by kernel_rfl)) (l := []) ⟨none, 0, rfl, by simp, by simp, by simp⟩)
      | 39, _, ho => exact to_ty rfl (s_load (.tmp 3) (op_of ho (by kernel_rfl)) ((hfix 3 (fix_of (by kernel_rfl))).trans rfl) (HC3.out _ hb) (HY3.out _))
      | 40, _, ho => exact to_row rfl (s_row1 (.tmp 52) (op_of ho (by kernel_rfl)) (dep_ty rfl (dep_of (j := 39) (d := 52) ho hdep (by kernel_rfl) (by kernel_rfl))))
      | 41, _, ho => exact to_ty rfl (s_T tList ⟨#[108, 105, 115, 116]⟩ rfl ⟨by decide, by decide⟩ (.tmp 53) #[9, 23] (op_of ho (by kernel_rfl)) (dep_row rfl (dep_of (j := 40) (d := 53) ho hdep (by kernel_rfl) (by kernel_rfl))))
      | 42, _, ho => exact to_pr rfl (s_pair (.tmp 51) (.tmp 54) (op_of ho (by kernel_rfl)) (dep_ty rfl (dep_of (j := 38) (d := 51) ho hdep (by kernel_rfl) (by kernel_rfl))) (dep_ty rfl (dep_of (j := 41) (d := 54) ho hdep (by kernel_rfl) (by kernel_rfl))))
      | 43, _, ho => exact to_prs rfl (s_six (.tmp 15) (.tmp 22) (.tmp 31) (.tmp 37) (.tmp 50) (.tmp 55) (op_of ho (by kernel_rfl)) (dep_pr rfl (dep_of (j := 2) (d := 15) ho hdep (by kernel_rfl) (by kernel_rfl))) (dep_pr rfl (dep_of (j := 9) (d := 22) ho hdep (by kernel_rfl) (by kernel_rfl))) (dep_pr rfl (dep_of (j := 18) (d := 31) ho hdep (by kernel_rfl) (by kernel_rfl))) (dep_pr rfl (dep_of (j := 24) (d := 37) ho hdep (by kernel_rfl) (by kernel_rfl))) (dep_pr rfl (dep_of (j := 37) (d := 50) ho hdep (by kernel_rfl) (by kernel_rfl))) (dep_pr rfl (dep_of (j := 42) (d := 55) ho hdep (by kernel_rfl) (by kernel_rfl))))
      | 44, _, ho => exact to_prs rfl (res_assign (.tmp 56) (op_of ho (by kernel_rfl)) ⟨(dep_prs rfl (dep_of (j := 43) (d := 56) ho hdep (by kernel_rfl) (by kernel_rfl))), Below.refl _ _⟩)
    case done =>
      intro a w hdf hsz hbel hfix hval
      have h7 := dep_prs (j := 44) (d := 7) rfl (val_of hval (by kernel_rfl))
      have f0 := hfix 0 (fix_of (by kernel_rfl))
      have f1 := hfix 1 (fix_of (by kernel_rfl))
      have f2 := hfix 2 (fix_of (by kernel_rfl))
      have f3 := hfix 3 (fix_of (by kernel_rfl))
      have f4 := hfix 4 (fix_of (by kernel_rfl))
      have f5 := hfix 5 (fix_of (by kernel_rfl))
      have f6 := hfix 6 (fix_of (by kernel_rfl))
      have f8 := hfix 8 (fix_of (by kernel_rfl))
      have f9 := hfix 9 (fix_of (by kernel_rfl))
      have f10 := hfix 10 (fix_of (by kernel_rfl))
      have f11 := hfix 11 (fix_of (by kernel_rfl))
      have f12 := hfix 12 (fix_of (by kernel_rfl))
      clear hfix hval
      obtain ⟨tm, df⟩ := a
      obtain rfl : df = [] := hdf
      replace h7 : IsPairs w (tm.getD 7 undef) o9L := h7
      replace f0 : tm.getD 0 undef = .int .i64 way := f0
      replace f1 : tm.getD 1 undef = undef := f1
      replace f2 : tm.getD 2 undef = .bool false := f2
      replace f3 : tm.getD 3 undef = .pointer (some ⟨w2.heap.size, 0, none⟩) := f3
      replace f4 : tm.getD 4 undef = .pointer (some ⟨w2.heap.size + 1, 0, none⟩) := f4
      replace f5 : tm.getD 5 undef = .pointer (some ⟨w4.heap.size, 0, none⟩) := f5
      replace f6 : tm.getD 6 undef = .pointer (some ⟨w4.heap.size + 1, 0, none⟩) := f6
      replace f8 : tm.getD 8 undef = undef := f8
      replace f9 : tm.getD 9 undef = .agg #[.string (Em.str tVar), .int .i64 0, .slice none 0 0] := f9
      replace f10 : tm.getD 10 undef = .agg #[.string (Em.str tVar), .int .i64 1, .slice none 0 0] := f10
      replace f11 : tm.getD 11 undef = .agg #[.string ⟨#[105, 110, 116]⟩, .int .i64 0, .slice none 0 0] := f11
      replace f12 : tm.getD 12 undef = .agg #[.string ⟨#[98, 111, 111, 108]⟩, .int .i64 0, .slice none 0 0] := f12
      have hs := hsz
      simp only [List.size_toArray, List.length_cons, List.length_nil, Nat.zero_add, Nat.reduceAdd] at hs
      have e := arr_lit tm
      rw [hs] at e
      simp only [List.range, List.range.loop, List.map_cons, List.map_nil, f0, f1, f2, f3, f4, f5, f6, f8, f9, f10, f11, f12] at e
      obtain ⟨t7, ht7⟩ : ∃ t, t = tm.getD 7 undef := ⟨_, rfl⟩
      rw [← ht7] at h7 e
      have HF : Hid (IsPairs w t7 o9L ∧ Below X.heap.size X w) := ⟨h7, (Below.refl X.heap.size X).drew.trans hbel⟩
      clear ht7 h7 f0 f1 f2 f3 f4 f5 f6 f8 f9 f10 f11 f12 hs hsz hbel
      rw [e]
      clear e
      go_wp2_with fail
      go_meet
      exact HF
  case rest =>
    clear HC3 HC4 HC5 HC6 HY3 HY4 HY5 HY6
    have HPX := hcut
    obtain ⟨x1, hx1⟩ : ∃ x, x = wc := ⟨_, rfl⟩
    rw [← hx1] at HPX
    rw [← hx1]
    clear hx1 hcut
    obtain ⟨pa, pc, hpe⟩ : ∃ pa pc, u7 = .slice pa 6 pc := by obtain ⟨a, c, e, -⟩ := HPX.out.1; exact ⟨a, c, e⟩
    subst hpe
    have HX1 : Hid (Below w.heap.size w x1) := HBX.out.trans (HPX.out.2.mono HBX.out.size)
    by_cases hw0 : way < 0
    · go_wp2_with fail
      go_ret
      exact ⟨rfl, HX1.out⟩
    by_cases hw6 : 6 ≤ way
    · go_wp2_with fail
      go_ret
      exact ⟨rfl, HX1.out⟩
    obtain ⟨j, rfl⟩ : ∃ j : Nat, way = (j : Int) := ⟨way.toNat, by omega⟩
    have hj6 : j < o9L.length := by show j < 6; omega
    obtain ⟨p, hp⟩ : ∃ p, o9L[j]? = some p := ⟨_, List.getElem?_eq_getElem hj6⟩
    go_wp2_with fail
    refine (unew_any x1).mono ?_
    rintro e x2 ⟨rfl, hb2, Mn, hU2, hMn⟩
    have HM : Hid (∀ k, Mn k → x1.heap.size ≤ k) := fun k hk => by have := hMn k hk; omega
    obtain ⟨b, off, x0, xi, xa, xk, xc, y0, y1, ya, yk, yc, rfl, -, hc1, hc2, hb, m0, m1, m2, m3, m4, m5, gA, gB⟩ := HPX.out.1.get hp
    have HP : Hid (p ∈ o9L) := List.mem_of_getElem? hp
    have HC : Hid (∀ w', Below x1.heap.size x1 w' → w'.cell? ⟨b, off + j * 6, none⟩ = some (.string x0) ∧ w'.cell? ⟨b, off + j * 6 + 1, none⟩ = some (.int .i64 xi) ∧ w'.cell? ⟨b, off + j * 6 + 2, none⟩ = some (.slice xa xk xc) ∧ w'.cell? ⟨b, off + j * 6 + 3, none⟩ = some (.string y0) ∧ w'.cell? ⟨b, off + j * 6 + 4, none⟩ = some (.int .i64 y1) ∧ w'.cell? ⟨b, off + j * 6 + 5, none⟩ = some (.slice ya yk yc)) := fun w' h => by
      have key : ∀ o, w'.cell? ⟨b, o, none⟩ = x1.cell? ⟨b, o, none⟩ := fun o => h.cell (p := ⟨b, o, none⟩) hb
      exact ⟨(key _).trans m0, (key _).trans m1, (key _).trans m2, (key _).trans m3, (key _).trans m4, (key _).trans m5⟩
    have HAB : Hid (IsTy x1 p.1 (.agg #[.string x0, .int .i64 xi, .slice xa xk xc]) ∧ IsTy x1 p.2 (.agg #[.string y0, .int .i64 y1, .slice ya yk yc])) := ⟨gA, gB⟩
    have b0 : Below x1.heap.size x1 x2.drew := hb2.drew
    have U0 : Hid (Uf x2.drew x1.heap.size 0 0 Mn 0 tv (fun _ => False)) := hU2.below (Below.refl _ _).drew
    have hj0 : (0 : Int) ≤ (j : Int) := by omega
    have hjl : (j : Int) < 6 := by omega
    have HTP : Hid (teach p.1 = true ∧ teach p.2 = true ∧ p.1.size + p.2.size ≤ 20) := o9_teach p HP.out
    clear hp gA gB m0 m1 m2 m3 m4 m5 hb hb2 hU2 hMn HPX hj6
    go_wp2_with fail
    go_region_held (fun w' => w'.cell? ⟨b, off + j * 6, none⟩ = some (.string x0) ∧ w'.cell? ⟨b, off + j * 6 + 1, none⟩ = some (.int .i64 xi) ∧ w'.cell? ⟨b, off + j * 6 + 2, none⟩ = some (.slice xa xk xc) ∧ w'.cell? ⟨b, off + j * 6 + 3, none⟩ = some (.string y0) ∧ w'.cell? ⟨b, off + j * 6 + 4, none⟩ = some (.int .i64 y1) ∧ w'.cell? ⟨b, off + j * 6 + 5, none⟩ = some (.slice ya yk yc))
      (with_reducible (first | exact HC.out _ b2 | exact HC.out _ b1 | exact HC.out _ b0))
      (first
        | (go_at_call 14; refine (known9_any _).mono ?_; rintro e z2 ⟨rfl, hc⟩; have b2 := b1.trans (hc.mono b1.size); clear hc)
        | (go_at_call 12; refine (uUnify_any U0.out ⟨by omega, by omega⟩ HTP.out.1 HTP.out.2.1 (by have := HTP.out.2.2; omega) (.inr uundo_any) (isTy_far9 HAB.out.1 b0 HM.out) (isTy_far9 HAB.out.2 b0 HM.out)).mono ?_; rintro e z1 ⟨hk, hr⟩; obtain ⟨rfl, -⟩ : _ ∧ _ := hr.resolve_left (fun h => by obtain ⟨-, Mn', d', hU', hf, -⟩ := h; exact o9_no p HP.out d' ((hf d').1 hU'.fac).2); have b1 := b0.trans (hk.below b0.size fun q hq hm => by have := HM.out q hm; omega); clear hk hr))
    all_goals
      go_wp2_with fail
      go_ret
      exact ⟨rfl, HX1.out.trans (b2.mono HX1.out.size)⟩

theorem unifyOdd_own : ownKnob Try.prog.godebug = none := by kernel_rfl
theorem unifyOdd_laidOut : laidOutB Try.prog = true := by kernel_rfl
set_option maxRecDepth 100000 in
theorem unifyOdd_lifted (os : Os) (started : os.Started) (H : Type) (enc : TypeId × Value → H) :
    ReturnsInHanded {} Try.checked os 7 .any (Rows.unifyOddSpec.pre6 enc Try.prog Try.f7 Rows.unifyOddRow.domain false) (Rows.unifyOddSpec.post enc Try.prog Try.f7 false true false false) := by
  refine returnsInHanded_of_change (C := Try.checked) unifyOdd_own started (by kernel_rfl) Try.func7
    (ChangeSpec.witness6 (enc := enc) (C := Try.checked) false ⟨#[], #[.int .i64 0], []⟩ 8 (by kernel_rfl) (by kernel_rfl) (by kernel_rfl) (by kernel_rfl)) ?_
  intro W base args ds gs before hval0 hW hcnd _
  have hval : ∀ (j : Nat) t v, Try.f7.params[j]? = some t → args[j]? = some v → Value.okWide Try.prog W .any base t v := hval0
  have hW' := hW
  obtain ⟨p, q, hA0, hV, rfl, hfz, hnd⟩ := hW
  have hA : DataW.TrodAll enc Try.prog W 0 (fun _ => true) true Try.f7.params.toList args.toList ds p := hA0
  rw [Try.params7] at hA hval
  obtain ⟨v0, vs0, d0, ds0, p0, q0, hargs, rfl, rfl, h0, r0⟩ := trodAll_cons hA
  obtain ⟨rfl, rfl, rfl⟩ := trodAll_nil r0
  obtain rfl : args = #[v0] := by cases args; simp_all
  obtain ⟨rfl, rfl⟩ := trodVars_none hV
  have lt0 : ∀ x ∈ p0, x.block < W.heap.size := by obtain ⟨m, hm⟩ := h0; exact DataW.trod_lt m _ _ _ hm
  have o0 := Em.open_int Try.underlying3 (hval 0 3 v0 rfl rfl) h0
  clear hA0 hval0
  refine (walk_unifyOdd W v0 o0).mono fun e W' ⟨he, bel⟩ => ?_
  subst he
  exact ⟨_, rfl, _, _, _, [], _, [], hW', trodAll_mk1 (shut_bool Try.underlying4 _), (trodAll_cons_mk (Below.trod unifyOdd_laidOut (by kernel_rfl) (of_decide_eq_true (by kernel_rfl)) h0 bel lt0) trodAll_mk0), rfl, bel.frame _, fun h => by cases h⟩
theorem unifyOdd_holds : Rows.UnifyOddSaid :=
  OpenClaim.holds_of_wide 7 Try.f7 rfl rfl rfl rfl rfl rfl rfl ⟨rfl, rfl, rfl, rfl, rfl⟩ rfl rfl rfl rfl rfl (by kernel_rfl) Try.func7 (by kernel_rfl)
    (of_decide_eq_true (by kernel_rfl)) (by unfold Func.isWrapper; first | (rw [if_pos (by decide +kernel)]; kernel_rfl) | (rw [if_neg (by decide +kernel)]; exact ⟨rfl, rfl⟩))
    (fun os started H enc _ => unifyOdd_lifted os started H enc)
#print axioms unifyOdd_holds
end Go.Proofs.Ytadhjnbhcenocaa

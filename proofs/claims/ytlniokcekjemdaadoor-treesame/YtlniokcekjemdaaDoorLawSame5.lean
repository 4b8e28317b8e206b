/- TreeSame: of any two expressions of at most 200 nodes Same answers what the document says; with another place it is the same. No condition but that lex.signs holds what its initialiser lays, to which the card ties it. -/
import Derived.Test.YtlniokcekjemdaaDoorRows
import Derived.Test.YtlniokcekjemdaaDoorCards
import Derived.Test.YtlniokcekjemdaaDoorTie
import Derived.Test.YtlniokcekjemdaaDoorLexL
import Derived.Test.YtlniokcekjemdaaDoorKnown5
import Derived.Test.YtlniokcekjemdaaDoorTreeS
import Derived.Test.YtlniokcekjemdaaDoorFrameM
import Derived.Deep.RegionHeld
namespace Go.Proofs.YtlniokcekjemdaaDoor
open Go.ChangeShapes Go.WideShapes Go.ChangeAt Go.RowKit
set_option linter.unusedVariables false
set_option linter.unusedSimpArgs false

theorem sames_refl : ∀ (l : List Em5.Nd), (∀ t ∈ l, Em5.same t t = true) → Em5.sames l l = true
  | [], _ => rfl
  | a :: r, h => by simp only [Em5.sames]; rw [h a (by simp), sames_refl r (fun t ht => h t (by simp [ht]))]; rfl
theorem same_refl (T : Em5.Nd) : Em5.same T T = true := by
  induction T using Em5.Nd.ind with
  | h op nm ar n p l ih => simp only [Em5.same, decide_true, Bool.true_and]; exact sames_refl l ih
theorem same_at (op nm ar : List Int) (n p q : Int) (l : List Em5.Nd) : Em5.same (.mk op nm ar n p l) (.mk op nm ar n q l) = true := by
  simp only [Em5.same, decide_true, Bool.true_and]; exact sames_refl l (fun t _ => same_refl t)

theorem of_wf {c : Int} (h : (Lit.int .i64 c).wf = true) : -9223372036854775808 ≤ c ∧ c ≤ 9223372036854775807 := by
  simp [Lit.wf, IntKind.min, IntKind.max, IntKind.bits, IntKind.signed] at h
  omega

theorem same3_keep {w0 w w' : World} {g0 g1 g2 : Nat} {a0 a1 a2 a3 a4 a5 b0 b1 b2 b3 b4 b5 c0 c1 c2 c3 c4 c5 : Value} (hb : Below w.heap.size w w') (h : Below g0 w0 w ∧ w.cell? ⟨g0, 0, none⟩ = some a0 ∧ w.cell? ⟨g0, 1, none⟩ = some a1 ∧ w.cell? ⟨g0, 2, none⟩ = some a2 ∧ w.cell? ⟨g0, 3, none⟩ = some a3 ∧ w.cell? ⟨g0, 4, none⟩ = some a4 ∧ w.cell? ⟨g0, 5, none⟩ = some a5 ∧ w.cell? ⟨g1, 0, none⟩ = some b0 ∧ w.cell? ⟨g1, 1, none⟩ = some b1 ∧ w.cell? ⟨g1, 2, none⟩ = some b2 ∧ w.cell? ⟨g1, 3, none⟩ = some b3 ∧ w.cell? ⟨g1, 4, none⟩ = some b4 ∧ w.cell? ⟨g1, 5, none⟩ = some b5 ∧ w.cell? ⟨g2, 0, none⟩ = some c0 ∧ w.cell? ⟨g2, 1, none⟩ = some c1 ∧ w.cell? ⟨g2, 2, none⟩ = some c2 ∧ w.cell? ⟨g2, 3, none⟩ = some c3 ∧ w.cell? ⟨g2, 4, none⟩ = some c4 ∧ w.cell? ⟨g2, 5, none⟩ = some c5 ∧ (g0 < w.heap.size ∧ g1 < w.heap.size ∧ g2 < w.heap.size)) :
    Below g0 w0 w' ∧ w'.cell? ⟨g0, 0, none⟩ = some a0 ∧ w'.cell? ⟨g0, 1, none⟩ = some a1 ∧ w'.cell? ⟨g0, 2, none⟩ = some a2 ∧ w'.cell? ⟨g0, 3, none⟩ = some a3 ∧ w'.cell? ⟨g0, 4, none⟩ = some a4 ∧ w'.cell? ⟨g0, 5, none⟩ = some a5 ∧ w'.cell? ⟨g1, 0, none⟩ = some b0 ∧ w'.cell? ⟨g1, 1, none⟩ = some b1 ∧ w'.cell? ⟨g1, 2, none⟩ = some b2 ∧ w'.cell? ⟨g1, 3, none⟩ = some b3 ∧ w'.cell? ⟨g1, 4, none⟩ = some b4 ∧ w'.cell? ⟨g1, 5, none⟩ = some b5 ∧ w'.cell? ⟨g2, 0, none⟩ = some c0 ∧ w'.cell? ⟨g2, 1, none⟩ = some c1 ∧ w'.cell? ⟨g2, 2, none⟩ = some c2 ∧ w'.cell? ⟨g2, 3, none⟩ = some c3 ∧ w'.cell? ⟨g2, 4, none⟩ = some c4 ∧ w'.cell? ⟨g2, 5, none⟩ = some c5 ∧ (g0 < w'.heap.size ∧ g1 < w'.heap.size ∧ g2 < w'.heap.size) := by
  obtain ⟨h1, k0, k1, k2, k3, k4, k5, m0, m1, m2, m3, m4, m5, n0, n1, n2, n3, n4, n5, z0, z1, z2⟩ := h
  have key : ∀ g o, g < w.heap.size → w'.cell? ⟨g, o, none⟩ = w.cell? ⟨g, o, none⟩ := fun g o h => hb.cell (p := ⟨g, o, none⟩) h
  have hs := hb.size
  refine ⟨h1.trans (hb.mono (Nat.le_of_lt z0)), ?_, ?_, ?_, ?_, ?_, ?_, ?_, ?_, ?_, ?_, ?_, ?_, ?_, ?_, ?_, ?_, ?_, ?_, by omega, by omega, by omega⟩
  all_goals (rw [key _ _ (by assumption)]; assumption)

set_option maxRecDepth 100000 in
set_option maxHeartbeats 4000000 in
theorem walk_treeSame (w : World) (u v y : Value) (hu : ∃ T, Em5.IsNd w T u) (hv : ∃ T, Em5.IsNd w T v) (hy : ∃ q, y = .int .i64 q ∧ (Lit.int .i64 q).wf = true) (hg : IsSigns w) :
    Calls Tryd.prog 5 #[u, v, y] w fun e w' => e = .returned (.bool true) ∧ Below w.heap.size w w' := by
  obtain ⟨S, hu⟩ := hu
  obtain ⟨T, hv⟩ := hv
  obtain ⟨q, rfl, hq⟩ := hy
  obtain ⟨hq1, hq2⟩ := of_wf hq
  clear hq
  have HSG : Hid (∀ w', Below w.heap.size w w' → IsSigns w') := fun w' h => hg.below h hg.lt
  have HU : Hid (∀ w', Below w.heap.size w w' → Em5.IsNd w' S u) := fun w' h => Em5.isNd_below h _ _ hu
  have HV : Hid (∀ w', Below w.heap.size w w' → Em5.IsNd w' T v) := fun w' h => Em5.isNd_below h _ _ hv
  obtain ⟨op, nm, ar, n, p, l⟩ := S
  obtain ⟨op', nm', ar', n', p', l'⟩ := T
  have HX : Hid (∀ w', Below w.heap.size w w' → ∃ a cap, u = .agg #[.string (Em.str op), .string (Em.str nm), .string (Em.str ar), .int .i64 n, .int .i64 p, .slice a l.length cap] ∧ Em5.IsNd w' (.mk op nm ar n q l) (.agg #[.string (Em.str op), .string (Em.str nm), .string (Em.str ar), .int .i64 n, .int .i64 q, .slice a l.length cap])) := fun w' h => by
    have h1 := Em5.isNd_below h _ _ hu
    unfold Em5.IsNd at h1 ⊢
    obtain ⟨a, cap, e, t1, t2, t3, i1, i2, r⟩ := h1
    exact ⟨a, cap, e, a, cap, rfl, t1, t2, t3, i1, ⟨hq1, hq2⟩, r⟩
  unfold Em5.IsNd at hu hv
  obtain ⟨a, cap, rfl, -⟩ := hu
  obtain ⟨a', cap', rfl, -⟩ := hv
  have HC : Hid (∀ w', Below w.heap.size w w' → Em5.IsNd w' (.mk op nm ar n q l) (.agg #[.string (Em.str op), .string (Em.str nm), .string (Em.str ar), .int .i64 n, .int .i64 q, .slice a l.length cap])) := fun w' h => by
    obtain ⟨a2, cap2, e, h2⟩ := HX.out w' h
    simp only [Value.agg.injEq, Array.mk.injEq, List.cons.injEq, and_true, true_and, Value.slice.injEq] at e
    rw [e.1, e.2]; exact h2
  clear HX
  obtain ⟨W, hW⟩ : ∃ W, W = (w.alloc (.cells #[.string (Em.str op), .string (Em.str nm), .string (Em.str ar), .int .i64 n, .int .i64 p, .slice a l.length cap] 24)).alloc (.cells #[.string (Em.str op'), .string (Em.str nm'), .string (Em.str ar'), .int .i64 n', .int .i64 p', .slice a' l'.length cap'] 24) := ⟨_, rfl⟩
  have hbW : Below w.heap.size w W := by rw [hW]; exact ((Below.refl _ _).alloc (Nat.le_refl _) _).alloc (by simp) _
  have h6 : Node6 W w.heap.size (.string (Em.str op)) (.string (Em.str nm)) (.string (Em.str ar)) (.int .i64 n) (.int .i64 p) (.slice a l.length cap) := by
    rw [hW]; exact (Node6.made _ _ _ _ _ _ _ _).bes (mb := w.heap.size + 1) (mf := w.heap.size + 1) ((Bes2.refl _ _ _).alloc _) (by omega) (by omega)
  have h7 : Node6 W (w.heap.size + 1) (.string (Em.str op')) (.string (Em.str nm')) (.string (Em.str ar')) (.int .i64 n') (.int .i64 p') (.slice a' l'.length cap') := by
    rw [hW]
    have e : (w.alloc (.cells #[.string (Em.str op), .string (Em.str nm), .string (Em.str ar), .int .i64 n, .int .i64 p, .slice a l.length cap] 24)).heap.size = w.heap.size + 1 := by simp
    rw [← e]; exact Node6.made _ _ _ _ _ _ _ _
  have H6 : Hid (∀ w', Below W.heap.size W w' → Node6 w' w.heap.size (.string (Em.str op)) (.string (Em.str nm)) (.string (Em.str ar)) (.int .i64 n) (.int .i64 p) (.slice a l.length cap) ∧ Node6 w' (w.heap.size + 1) (.string (Em.str op')) (.string (Em.str nm')) (.string (Em.str ar')) (.int .i64 n') (.int .i64 p') (.slice a' l'.length cap')) := fun w' h =>
    ⟨h6.bes (mb := w.heap.size + 2) (mf := w.heap.size + 2) (Bes2.of h) (by omega) (by omega), h7.bes (mb := w.heap.size + 2) (mf := w.heap.size + 2) (Bes2.of h) (by omega) (by omega)⟩
  have HW : Hid (Below w.heap.size w W) := hbW
  have HWE : Hid ((w.alloc (.cells #[.string (Em.str op), .string (Em.str nm), .string (Em.str ar), .int .i64 n, .int .i64 p, .slice a l.length cap] 24)).alloc (.cells #[.string (Em.str op'), .string (Em.str nm'), .string (Em.str ar'), .int .i64 n', .int .i64 p', .slice a' l'.length cap'] 24) = W) := hW.symm
  have HQ : Hid (Em5.same (.mk op nm ar n p l) (.mk op nm ar n q l) = true) := same_at _ _ _ _ _ _ _
  obtain ⟨S, hS⟩ : ∃ T, T = Em5.Nd.mk op nm ar n p l := ⟨_, rfl⟩
  obtain ⟨T, hT⟩ : ∃ T, T = Em5.Nd.mk op' nm' ar' n' p' l' := ⟨_, rfl⟩
  obtain ⟨R, hR⟩ : ∃ T, T = Em5.Nd.mk op nm ar n q l := ⟨_, rfl⟩
  rw [← hS] at HU HQ
  rw [← hT] at HV
  rw [← hR] at HC HQ
  clear hW hbW h6 h7 hg hS hT hR
  go_enter Tryd.func5, Tryd.ntmps5
  go_wp2_with fail
  rw [HWE.out]
  clear HWE
  refine (rSize_any _ _ _ (HU.out _ HW.out)).mono ?_
  rintro e w1 ⟨rfl, hb1⟩
  obtain ⟨z, hz⟩ : ∃ z : Nat, z = min S.size 2001 := ⟨_, rfl⟩
  have hz2 : z ≤ 2001 := by omega
  rw [← hz]
  have hbw1 : Below w.heap.size w w1 := HW.out.trans (hb1.mono HW.out.size)
  clear hz
  by_cases h200 : 200 < z
  · go_wp2
    go_ret
    exact ⟨rfl, hbw1⟩
  · obtain ⟨-, x0, x1, x2, x3, x4, x5⟩ := H6.out _ hb1
    go_wp2_with fail
    refine (rSize_any _ _ _ (HV.out _ hbw1)).mono ?_
    rintro e w2 ⟨rfl, hb2⟩
    obtain ⟨z', hz'⟩ : ∃ z : Nat, z = min T.size 2001 := ⟨_, rfl⟩
    have hz2' : z' ≤ 2001 := by omega
    rw [← hz']
    have hb2' : Below W.heap.size W w2 := hb1.trans (hb2.mono hb1.size)
    have hbw2 : Below w.heap.size w w2 := HW.out.trans (hb2'.mono HW.out.size)
    clear hz' x0 x1 x2 x3 x4 x5 hb1 hbw1 hb2
    by_cases h200' : 200 < z'
    · go_wp2
      go_ret
      exact ⟨rfl, hbw2⟩
    · obtain ⟨⟨x0, x1, x2, x3, x4, x5⟩, -⟩ := H6.out _ hb2'
      obtain ⟨X, hX⟩ : ∃ X, X = w2.alloc (.cells #[.string (Em.str op), .string (Em.str nm), .string (Em.str ar), .int .i64 n, .int .i64 q, .slice a l.length cap] 24) := ⟨_, rfl⟩
      obtain ⟨g, hg⟩ : ∃ g, g = w2.heap.size := ⟨_, rfl⟩
      have HXE : Hid (w2.alloc (.cells #[.string (Em.str op), .string (Em.str nm), .string (Em.str ar), .int .i64 n, .int .i64 q, .slice a l.length cap] 24) = X) := hX.symm
      have HG : Hid (w2.heap.size = g) := hg.symm
      have hbX : Below w2.heap.size w2 X := by rw [hX]; exact (Below.refl _ _).alloc (Nat.le_refl _) _
      have hbWX : Below W.heap.size W X := hb2'.trans (hbX.mono hb2'.size)
      have hbwX : Below w.heap.size w X := HW.out.trans (hbWX.mono HW.out.size)
      have h8 : Node6 X g (.string (Em.str op)) (.string (Em.str nm)) (.string (Em.str ar)) (.int .i64 n) (.int .i64 q) (.slice a l.length cap) := by rw [hX, hg]; exact Node6.made _ _ _ _ _ _ _ _
      have HS0 : Hid (Below w.heap.size w X.drew ∧ X.drew.cell? ⟨w.heap.size, 0, none⟩ = some (.string (Em.str op)) ∧ X.drew.cell? ⟨w.heap.size, 1, none⟩ = some (.string (Em.str nm)) ∧ X.drew.cell? ⟨w.heap.size, 2, none⟩ = some (.string (Em.str ar)) ∧ X.drew.cell? ⟨w.heap.size, 3, none⟩ = some (.int .i64 n) ∧ X.drew.cell? ⟨w.heap.size, 4, none⟩ = some (.int .i64 p) ∧ X.drew.cell? ⟨w.heap.size, 5, none⟩ = some (.slice a l.length cap) ∧ X.drew.cell? ⟨w.heap.size + 1, 0, none⟩ = some (.string (Em.str op')) ∧ X.drew.cell? ⟨w.heap.size + 1, 1, none⟩ = some (.string (Em.str nm')) ∧ X.drew.cell? ⟨w.heap.size + 1, 2, none⟩ = some (.string (Em.str ar')) ∧ X.drew.cell? ⟨w.heap.size + 1, 3, none⟩ = some (.int .i64 n') ∧ X.drew.cell? ⟨w.heap.size + 1, 4, none⟩ = some (.int .i64 p') ∧ X.drew.cell? ⟨w.heap.size + 1, 5, none⟩ = some (.slice a' l'.length cap') ∧ X.drew.cell? ⟨g, 0, none⟩ = some (.string (Em.str op)) ∧ X.drew.cell? ⟨g, 1, none⟩ = some (.string (Em.str nm)) ∧ X.drew.cell? ⟨g, 2, none⟩ = some (.string (Em.str ar)) ∧ X.drew.cell? ⟨g, 3, none⟩ = some (.int .i64 n) ∧ X.drew.cell? ⟨g, 4, none⟩ = some (.int .i64 q) ∧ X.drew.cell? ⟨g, 5, none⟩ = some (.slice a l.length cap) ∧ (w.heap.size < X.drew.heap.size ∧ w.heap.size + 1 < X.drew.heap.size ∧ g < X.drew.heap.size)) := by
        obtain ⟨⟨k0, k1, k2, k3, k4, k5⟩, m0, m1, m2, m3, m4, m5⟩ := H6.out _ hbWX
        obtain ⟨n0, n1, n2, n3, n4, n5⟩ := h8
        exact ⟨hbwX.drew, k0, k1, k2, k3, k4, k5, m0, m1, m2, m3, m4, m5, n0, n1, n2, n3, n4, n5, Em.cell_lt k0, Em.cell_lt m0, Em.cell_lt n0⟩
      obtain ⟨b, hbq⟩ : ∃ b, b = Em5.same S T := ⟨_, rfl⟩
      have HB : Hid (Em5.same S T = b) := hbq.symm
      clear hX hg hbX hbWX hbwX h8 hbq
      go_wp2_with fail
      rw [HXE.out, HG.out]
      clear HXE HG x0 x1 x2 x3 x4 x5 hb2' hbw2
      go_region_held (fun w' => Below w.heap.size w w' ∧ w'.cell? ⟨w.heap.size, 0, none⟩ = some (.string (Em.str op)) ∧ w'.cell? ⟨w.heap.size, 1, none⟩ = some (.string (Em.str nm)) ∧ w'.cell? ⟨w.heap.size, 2, none⟩ = some (.string (Em.str ar)) ∧ w'.cell? ⟨w.heap.size, 3, none⟩ = some (.int .i64 n) ∧ w'.cell? ⟨w.heap.size, 4, none⟩ = some (.int .i64 p) ∧ w'.cell? ⟨w.heap.size, 5, none⟩ = some (.slice a l.length cap) ∧ w'.cell? ⟨w.heap.size + 1, 0, none⟩ = some (.string (Em.str op')) ∧ w'.cell? ⟨w.heap.size + 1, 1, none⟩ = some (.string (Em.str nm')) ∧ w'.cell? ⟨w.heap.size + 1, 2, none⟩ = some (.string (Em.str ar')) ∧ w'.cell? ⟨w.heap.size + 1, 3, none⟩ = some (.int .i64 n') ∧ w'.cell? ⟨w.heap.size + 1, 4, none⟩ = some (.int .i64 p') ∧ w'.cell? ⟨w.heap.size + 1, 5, none⟩ = some (.slice a' l'.length cap') ∧ w'.cell? ⟨g, 0, none⟩ = some (.string (Em.str op)) ∧ w'.cell? ⟨g, 1, none⟩ = some (.string (Em.str nm)) ∧ w'.cell? ⟨g, 2, none⟩ = some (.string (Em.str ar)) ∧ w'.cell? ⟨g, 3, none⟩ = some (.int .i64 n) ∧ w'.cell? ⟨g, 4, none⟩ = some (.int .i64 q) ∧ w'.cell? ⟨g, 5, none⟩ = some (.slice a l.length cap) ∧ (w.heap.size < w'.heap.size ∧ w.heap.size + 1 < w'.heap.size ∧ g < w'.heap.size))
        (with_reducible (first | exact HS0.out | exact same3_keep hb7 (by assumption) | exact same3_keep hb6 (by assumption) | exact same3_keep hb5 (by assumption) | exact same3_keep hb4 (by assumption)))
        (first
          | (go_at_call 13; refine (known5_any _ (HSG.out _ (Em.held1 (by assumption)))).mono ?_; rintro e w7 ⟨rfl, hb7⟩)
          | (go_at_call 17; have hbz := hb5; refine (tSame_any S R _ _ _ (HU.out _ (Em.held1 (by assumption))) (HC.out _ (Em.held1 (by assumption)))).mono ?_; rintro e w6 ⟨rfl, hb6⟩; rw [HQ.out])
          | (go_at_call 18; refine (rSame_any S T _ _ _ (HU.out _ (Em.held1 (by assumption))) (HV.out _ (Em.held1 (by assumption)))).mono ?_; rintro e w5 ⟨rfl, hb5⟩; rw [HB.out])
          | (go_at_call 17; refine (tSame_any S T _ _ _ (HU.out _ (Em.held1 (by assumption))) (HV.out _ (Em.held1 (by assumption)))).mono ?_; rintro e w4 ⟨rfl, hb4⟩; rw [HB.out]))
      all_goals
        go_wp2
        go_ret
        exact ⟨rfl, Em.held1 (by assumption)⟩

theorem treeSame_own : ownKnob Tryd.prog.godebug = none := by kernel_rfl
theorem treeSame_laidOut : laidOutB Tryd.prog = true := by kernel_rfl
theorem treeSame_met (os : Os) : laidMet Tryd.prog Rows.treeSameRow.laid ((laidWorld os).forCall (fun _ _ => 0) ⟨#[], #[.agg #[.string ByteArray.empty, .string ByteArray.empty, .string ByteArray.empty, .int .i64 0, .int .i64 0, .slice none 0 0], .agg #[.string ByteArray.empty, .string ByteArray.empty, .string ByteArray.empty, .int .i64 0, .int .i64 0, .slice none 0 0], .int .i64 0], []⟩).memory :=
  laidMet_of_run' 8 (by kernel_rfl) (by kernel_rfl)
theorem treeSame_reads (os : Os) {H : Type} (enc : TypeId × Value → H) : ∃ places, DataW.whole enc Tryd.prog ((laidWorld os).forCall (fun _ _ => 0) ⟨#[], #[.agg #[.string ByteArray.empty, .string ByteArray.empty, .string ByteArray.empty, .int .i64 0, .int .i64 0, .slice none 0 0], .agg #[.string ByteArray.empty, .string ByteArray.empty, .string ByteArray.empty, .int .i64 0, .int .i64 0, .slice none 0 0], .int .i64 0], []⟩).memory Tryd.f5.params.toList Rows.treeSameSpec.vars false (#[.agg #[.string ByteArray.empty, .string ByteArray.empty, .string ByteArray.empty, .int .i64 0, .int .i64 0, .slice none 0 0], .agg #[.string ByteArray.empty, .string ByteArray.empty, .string ByteArray.empty, .int .i64 0, .int .i64 0, .slice none 0 0], .int .i64 0] : Array Value).toList 8 = some ([.agg [.lit (.string []), .lit (.string []), .lit (.string []), .lit (.int .i64 0), .lit (.int .i64 0), .nil], .agg [.lit (.string []), .lit (.string []), .lit (.string []), .lit (.int .i64 0), .lit (.int .i64 0), .nil], .lit (.int .i64 0)], [], places) :=
  ⟨[], by kernel_rfl⟩
set_option maxRecDepth 100000 in
theorem treeSame_lifted (os : Os) (started : os.Started) (H : Type) (enc : TypeId × Value → H) (F : Stop.Interp) :
    ReturnsInHanded {} Tryd.checked os 5 .any ((OpenSpec.ofChange Rows.treeSameSpec).preRow enc Tryd.prog Tryd.f5 Rows.treeSameRow.domain false Rows.treeSameRow.laid) (((OpenSpec.ofChange Rows.treeSameSpec).at F).post enc Tryd.prog Tryd.f5 false true false false) := by
  obtain ⟨places, hx⟩ := treeSame_reads os enc
  refine returnsInHanded_of_row (C := Tryd.checked) (s := OpenSpec.ofChange Rows.treeSameSpec) treeSame_own started (by kernel_rfl) Tryd.func5
    (witness_row_at (enc := enc) (C := Tryd.checked) false (laidWorld os) #[.agg #[.string ByteArray.empty, .string ByteArray.empty, .string ByteArray.empty, .int .i64 0, .int .i64 0, .slice none 0 0], .agg #[.string ByteArray.empty, .string ByteArray.empty, .string ByteArray.empty, .int .i64 0, .int .i64 0, .slice none 0 0], .int .i64 0] rfl (by kernel_rfl) (by kernel_rfl) (by kernel_rfl)
      (OpenSpec.preRow_of_cond 8 hx (by kernel_rfl) (fun k hk => by cases hk) (by kernel_rfl) (treeSame_met os))) ?_
  intro W base args ds gs before hval0 hW _ _ hsz0 hL _ _
  have hfact := signs_of_laid hL
  have hval : ∀ (j : Nat) t v, Tryd.f5.params[j]? = some t → args[j]? = some v → Value.okWide Tryd.prog W .any base t v := hval0
  have hW' := hW
  obtain ⟨p, q, hA0, hV, rfl, hfz, hnd⟩ := hW
  have hA : DataW.TrodAll enc Tryd.prog W 0 (fun _ => true) true Tryd.f5.params.toList args.toList ds p := hA0
  have hsz : (DataW.weightsEach Tryd.prog (Tryd.f5.params.toList ++ Rows.treeSameSpec.plain.varTypes Tryd.prog) (ds ++ gs)).all (· ≤ reachBytes) = true := hsz0
  rw [Tryd.params5] at hA hval hsz
  obtain ⟨v0, vs0, d0, ds0, p0, q0, hargs, rfl, rfl, h0, r0⟩ := trodAll_cons hA
  obtain ⟨v1, vs1, d1, ds1, p1, q1, rfl, rfl, rfl, h1, r1⟩ := trodAll_cons r0
  obtain ⟨v2, vs2, d2, ds2, p2, q2, rfl, rfl, rfl, h2, r2⟩ := trodAll_cons r1
  obtain ⟨rfl, rfl, rfl⟩ := trodAll_nil r2
  obtain rfl : args = #[v0, v1, v2] := by cases args; simp_all
  obtain ⟨rfl, rfl⟩ := trodVars_none hV
  have lt0 : ∀ x ∈ p0, x.block < W.heap.size := by obtain ⟨m, hm⟩ := h0; exact DataW.trod_lt m _ _ _ hm
  have o0 := open_nd (hval 0 24 v0 rfl rfl) h0 (Em.sized_arg hsz 0 rfl rfl)
  have lt1 : ∀ x ∈ p1, x.block < W.heap.size := by obtain ⟨m, hm⟩ := h1; exact DataW.trod_lt m _ _ _ hm
  have o1 := open_nd (hval 1 24 v1 rfl rfl) h1 (Em.sized_arg hsz 1 rfl rfl)
  have lt2 : ∀ x ∈ p2, x.block < W.heap.size := by obtain ⟨m, hm⟩ := h2; exact DataW.trod_lt m _ _ _ hm
  have o2 := Em.open_int Tryd.underlying3 (hval 2 3 v2 rfl rfl) h2
  clear hA0 hval0 hsz0 hsz
  refine (walk_treeSame W v0 v1 v2 o0 o1 o2 hfact).mono fun e W' ⟨he, bel⟩ => ?_
  subst he
  exact ⟨_, rfl, _, _, _, [], _, [], hW', trodAll_mk1 (shut_bool Tryd.underlying4 _), (trodAll_cons_mk (Below.trod treeSame_laidOut (by kernel_rfl) (of_decide_eq_true (by kernel_rfl)) h0 bel lt0) (trodAll_cons_mk (Below.trod treeSame_laidOut (by kernel_rfl) (of_decide_eq_true (by kernel_rfl)) h1 bel lt1) (trodAll_cons_mk (Below.trod treeSame_laidOut (by kernel_rfl) (of_decide_eq_true (by kernel_rfl)) h2 bel lt2) trodAll_mk0))), rfl, bel.frame _, fun h => by cases h⟩
theorem treeSame_said : Rows.TreeSameSaid :=
  OpenClaim.holds_of_cond 5 Tryd.f5 rfl rfl rfl rfl rfl rfl rfl ⟨rfl, rfl, rfl, rfl, rfl⟩ rfl rfl rfl rfl rfl (by kernel_rfl) Tryd.func5 (by kernel_rfl)
    (of_decide_eq_true (by kernel_rfl)) (by unfold Func.isWrapper; first | (rw [if_pos (by decide +kernel)]; kernel_rfl) | (rw [if_neg (by decide +kernel)]; exact ⟨rfl, rfl⟩))
    (fun os started H enc _ F => by rw [OpenClaim.pre_eq_preRow]; exact treeSame_lifted os started H enc F)
theorem treeSame_plain (f : FuncId) (fn : Func) (hf : Tryd.pinned.checked.prog.funcNamed "emissary/emissarylaw5.TreeSame" = some f) (hfn : Tryd.pinned.checked.prog.funcs[f]? = some fn) :
    false = Tryd.pinned.checked.prog.looks [] ∧ ∀ (j : Nat) t, fn.params[j]? = some t → Tryd.pinned.checked.prog.wantsStandIn t = false := by
  obtain rfl : f = 5 := Option.some.inj ((show Tryd.prog.funcNamed "emissary/emissarylaw5.TreeSame" = some 5 by kernel_rfl).symm.trans hf) |>.symm
  obtain rfl : fn = Tryd.f5 := (Option.some.inj (Tryd.func5.symm.trans hfn)).symm
  refine ⟨by kernel_rfl, fun j t ht => ?_⟩
  rw [Tryd.params5] at ht
  have hm : t ∈ ([24, 24, 3] : List Nat) := by simpa using Array.mem_of_getElem? ht
  have hall : (([24, 24, 3] : List Nat).all fun u => !Tryd.prog.wantsStandIn u) = true := by kernel_rfl
  exact (show Tryd.prog.wantsStandIn t = false by simpa using List.all_eq_true.1 hall t hm)
theorem treeSame_holds : Rows.TreeSameCardSaid :=
  Claim7.holds_tied_plain_at .later [] _ _ _ _ treeSame_said (fun _ h => by cases h) (by kernel_rfl) (fun _ h => by cases h) treeSame_row_tie rfl ⟨rfl, rfl⟩ (by kernel_rfl) rfl treeSame_plain (by kernel_rfl)
#print axioms treeSame_holds
end Go.Proofs.YtlniokcekjemdaaDoor

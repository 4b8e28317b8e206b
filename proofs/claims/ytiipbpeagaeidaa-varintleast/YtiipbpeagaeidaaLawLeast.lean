/- VarintLeast: cut short, or with a nought group at its end, a number's bytes are none. No condition. -/
import Derived.Test.YtiipbpeagaeidaaKnown
import Derived.Test.YtiipbpeagaeidaaMath1b
import Derived.Test.YtiipbpeagaeidaaFrame
namespace Go.Proofs.Ytiipbpeagaeidaa
open Go.ChangeShapes Go.WideShapes Go.ChangeAt Go.RowKit
set_option linter.unusedVariables false

/-- What is known of a copy of a number's bytes, whose last one is then turned. -/
theorem least_facts {w : World} {B : Nat} {v2 : Value} {P : List Int} {c d : Int} (h : w.ownsRow B 5 1 v2 (0 + (P.length + 1)) ([] ++ (P ++ [c]).map (Value.int .u8))) :
    ∃ g2 c2, v2 = .slice (some ⟨g2, 0, none⟩) (P.length + 1) c2 ∧ B ≤ g2 ∧ g2 < w.heap.size ∧ w.cell? ⟨g2, P.length, none⟩ = some (.int .u8 c) ∧ w.frozen? ⟨g2, P.length, none⟩ = false ∧
      (w.setCell ⟨g2, P.length, none⟩ (.int .u8 d)).ownsRow B 5 1 (.slice (some ⟨g2, 0, none⟩) (P.length + 1) c2) (P.length + 1) ((P ++ [d]).map (Value.int .u8)) ∧ w.grownBy (w.setCell ⟨g2, P.length, none⟩ (.int .u8 d)) (some g2) := by
  have h2 : w.ownsRow B 5 1 v2 (P ++ [c]).length ((P ++ [c]).map (Value.int .u8)) := by simpa using h
  obtain ⟨g, c2, hv, hl, hr⟩ := Em.own_shape h2 (by simp)
  subst hv
  have h3 : w.ownsRow B 5 1 (.slice (some ⟨g, 0, none⟩) (P.length + 1) c2) (P.length + 1) ((P ++ [c]).map (Value.int .u8)) := by simpa using h2
  obtain ⟨s1, s2⟩ := h3.stored P.length (.int .u8 d)
  refine ⟨g, c2, by simp, hl, hr, ?_, h3.frozenAt _, ?_, s2⟩
  · rw [h3.cellAt P.length (by omega)]; simp
  · have e : ((P ++ [c]).map (Value.int .u8)).set P.length (.int .u8 d) = (P ++ [d]).map (Value.int .u8) := by simp
    rw [e] at s1
    exact s1

set_option maxRecDepth 100000 in
set_option maxHeartbeats 1000000 in
theorem walk_varintLeast (w : World) (x : Value) (hx : ∃ n, x = .int .u64 n ∧ (Lit.int .u64 n).wf = true) :
    Calls Try.prog 6 #[x] w fun e w' => e = .returned (.bool true) ∧ Below w.heap.size w w' := by
  obtain ⟨v, rfl, wv⟩ := hx
  obtain ⟨bv1, bv2⟩ := bounds_u64 wv
  clear wv
  obtain ⟨v, rfl⟩ := Int.eq_ofNat_of_zero_le bv1
  have bv : v ≤ 18446744073709551615 := by omega
  clear bv1 bv2
  obtain ⟨i0, hi, hz0, hz1, hz2⟩ := info_parts infoByte
  obtain ⟨P, c, hput, hc0, hc1, hg1, hg2, hbd⟩ := Em1.least v (by omega)
  have hpl := Em1.put_len v
  have hpb := Em1.put_bytes v (by omega)
  have HG1 : Hid (Em1.get P = none) := hg1
  have HG2 : Hid (Em1.get (P ++ [c + 128] ++ [0]) = none) := hg2
  have HP : Hid (Em1.put v = P ++ [c]) := hput
  rw [hput] at hpl hpb
  clear hg1 hg2 hput
  have hpn : P.length ≤ 10 := by simp at hpl; omega
  clear hpl
  have hor := Em1.or128_small c hc0 hc1
  obtain ⟨d, hd⟩ : ∃ d, d = c + 128 := ⟨_, rfl⟩
  rw [← hd] at hor HG2 hbd
  clear hd
  go_enter Try.func6, Try.ntmps6
  go_wp2_with fail
  refine (rput_any v _ bv).mono ?_
  rintro e w1 ⟨u, rfl, hown, hbel⟩
  rw [HP.out] at hown
  obtain ⟨g, gc, hu, hgl, hgr⟩ := Em.own_shape hown (by simp)
  subst hu
  have hI : Em.IsBytes w1 (.slice (some ⟨g, 0, none⟩) (P.length + 1) gc) (P ++ [c]) := by simpa using Em.IsBytes.own hpb hown
  have hI2 := hI.take P.length (by omega)
  rw [List.take_left] at hI2
  have HI : Hid (Em.IsBytes w1 (.slice (some ⟨g, 0, none⟩) (P.length + 1) gc) (P ++ [c])) := hI
  have hgc : P.length + 1 ≤ gc := by obtain ⟨a, cap, e, h1, -⟩ := hI; injection e with e1 e2 e3; simp at h1; omega
  clear hI hown
  have e1 : (P ++ [c]).length = P.length + 1 := by simp
  rw [e1]
  clear e1
  go_wp2_with fail
  refine (get_any _ _ _ hI2).mono ?_
  rintro e w2 ⟨rfl, rfl⟩
  rw [HG1.out]
  simp only [getRes]
  clear hI2
  have o1 : (w2.alloc (.cells #[] 5)).ownsRow w2.heap.size 5 1 (.slice (some ⟨w2.heap.size, 0, none⟩) 0 0) 0 [] := World.ownsRow_made w2 #[] 0 (Nat.le_refl _) (by simp [maxLen]) rfl
  have bel1 : Below w2.heap.size w2 (w2.alloc (.cells #[] 5)) := (Below.refl _ _).alloc (Nat.le_refl _) _
  have n1 := (HI.out.below bel1).news
  go_wp2_with (first | (at_builtin; refine wpList_append_own _ rfl (.tmp 23) (.tmp 24) 23 rfl w2.heap.size 5 i0 (.int .u8 0) 1 1 Try.underlying23 hi hz0 hz1 hz2 rfl (by decide) _ _ _ rfl o1 ⟨g, 0, none⟩ (P.length + 1) gc ((P ++ [c]).map (Value.int .u8)) rfl (by simp) n1 (Em.oneCells _) (by unfold maxLen; omega) (by omega) (by simp) ?_; intro v2 w3 hown2 hgrow2 hnn; clear hnn; have bel2 : Below w2.heap.size w2 w3 := bel1.grown hgrow2 (by simp) (fun k hk => (o1.lt k hk).1); clear o1 n1 hgrow2; obtain ⟨g2, c2, hv2, hg2l, hg2r, hcell2, hfr2, hst2, hgr2⟩ := least_facts (d := d) hown2; subst hv2; clear hown2) | (at_builtin; refine wpList_append_own _ rfl (.tmp 35) (.tmp 36) 23 rfl w2.heap.size 5 i0 (.int .u8 0) 1 1 Try.underlying23 hi hz0 hz1 hz2 rfl (by decide) _ _ _ rfl (hst2.alloc _) ⟨w3.heap.size, 0, none⟩ 1 1 [.int .u8 0] rfl rfl ?c1 ?c2 (by unfold maxLen; omega) (by omega) ?c5 ?_))
  case c1 =>
    have hsz : (w3.setCell ⟨g2, P.length, none⟩ (.int .u8 d)).heap.size = w3.heap.size := by simp [World.setCell]
    have := cell_one_new (w3.setCell ⟨g2, P.length, none⟩ (.int .u8 d)) (.int .u8 0) 5
    rw [hsz] at this
    exact this
  case c2 => intro u hu; simp at hu; subst hu; rfl
  case c5 => have := bel2.size; simp [World.setCell]; omega
  · intro v4 w4 hown4 hgrow4 hnn
    clear hnn
    have bel3 : Below w2.heap.size w2 (w3.setCell ⟨g2, P.length, none⟩ (.int .u8 d)) := bel2.setCell hg2l _
    have bel4 : Below w2.heap.size w2 w4 := (bel3.alloc bel3.size _).grown hgrow4 (by have := bel3.size; simp; omega) (fun k hk => (hst2.lt k hk).1)
    have hI4 : Em.IsBytes w4 v4 (P ++ [d] ++ [0]) := Em.IsBytes.own hbd (by simpa using hown4)
    clear hown4 hgrow4 bel3 bel2 bel1 hst2 hgr2 hcell2 hfr2 hor
    go_wp2_with fail
    refine (get_any _ _ _ hI4).mono ?_
    rintro e w5 ⟨rfl, rfl⟩
    rw [HG2.out]
    simp only [getRes]
    go_wp2_with fail
    refine (known_any _).mono ?_
    rintro e w6 ⟨rfl, hb6⟩
    go_wp2_with fail
    go_ret
    exact ⟨rfl, hbel.trans ((bel4.trans (hb6.mono bel4.size)).mono hbel.size)⟩

theorem varintLeast_own : ownKnob Try.prog.godebug = none := by kernel_rfl
theorem varintLeast_laidOut : laidOutB Try.prog = true := by kernel_rfl
set_option maxRecDepth 100000 in
theorem varintLeast_lifted (os : Os) (started : os.Started) (H : Type) (enc : TypeId × Value → H) :
    ReturnsInHanded {} Try.checked os 6 .any (Rows.varintLeastSpec.pre6 enc Try.prog Try.f6 Rows.varintLeastRow.domain false) (Rows.varintLeastSpec.post enc Try.prog Try.f6 false true false false) := by
  refine returnsInHanded_of_change (C := Try.checked) varintLeast_own started (by kernel_rfl) Try.func6
    (ChangeSpec.witness6 (enc := enc) (C := Try.checked) false ⟨#[], #[.int .u64 0], []⟩ 8 (by kernel_rfl) (by kernel_rfl) (by kernel_rfl) (by kernel_rfl)) ?_
  intro W base args ds gs before hval0 hW hcnd _
  have hval : ∀ (j : Nat) t v, Try.f6.params[j]? = some t → args[j]? = some v → Value.okWide Try.prog W .any base t v := hval0
  have hW' := hW
  obtain ⟨p, q, hA0, hV, rfl, hfz, hnd⟩ := hW
  have hA : DataW.TrodAll enc Try.prog W 0 (fun _ => true) true Try.f6.params.toList args.toList ds p := hA0
  rw [Try.params6] at hA hval
  obtain ⟨v0, vs0, d0, ds0, p0, q0, hargs, rfl, rfl, h0, r0⟩ := trodAll_cons hA
  obtain ⟨rfl, rfl, rfl⟩ := trodAll_nil r0
  obtain rfl : args = #[v0] := by cases args; simp_all
  obtain ⟨rfl, rfl⟩ := trodVars_none hV
  have lt0 : ∀ x ∈ p0, x.block < W.heap.size := by obtain ⟨m, hm⟩ := h0; exact DataW.trod_lt m _ _ _ hm
  have o0 := Em.open_int Try.underlying22 (hval 0 22 v0 rfl rfl) h0
  clear hA0 hval0
  refine (walk_varintLeast W v0 o0).mono fun e W' ⟨he, bel⟩ => ?_
  subst he
  exact ⟨_, rfl, _, _, _, [], _, [], hW', trodAll_mk1 (shut_bool Try.underlying4 _), (trodAll_cons_mk (Below.trod varintLeast_laidOut (by kernel_rfl) (of_decide_eq_true (by kernel_rfl)) h0 bel lt0) trodAll_mk0), rfl, bel.frame _, fun h => by cases h⟩
theorem varintLeast_holds : Rows.VarintLeastSaid :=
  OpenClaim.holds_of_wide 6 Try.f6 rfl rfl rfl rfl rfl rfl rfl ⟨rfl, rfl, rfl, rfl, rfl⟩ rfl rfl rfl rfl rfl (by kernel_rfl) Try.func6 (by kernel_rfl)
    (of_decide_eq_true (by kernel_rfl)) (by unfold Func.isWrapper; first | (rw [if_pos (by decide +kernel)]; kernel_rfl) | (rw [if_neg (by decide +kernel)]; exact ⟨rfl, rfl⟩))
    (fun os started H enc _ => varintLeast_lifted os started H enc)
#print axioms varintLeast_holds
end Go.Proofs.Ytiipbpeagaeidaa

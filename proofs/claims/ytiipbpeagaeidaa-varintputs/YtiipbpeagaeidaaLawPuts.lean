/- VarintPuts: every number's bytes are the document's, and are read back, whatever stands behind them. No condition. -/
import Derived.Test.YtiipbpeagaeidaaKnown
import Derived.Test.YtiipbpeagaeidaaRGet
import Derived.Test.YtiipbpeagaeidaaFrame
import Derived.Laws.AppendOwnNone
import Derived.Deep.RegionHeld
namespace Go.Proofs.Ytiipbpeagaeidaa
open Go.ChangeShapes Go.WideShapes Go.ChangeAt Go.RowKit
set_option linter.unusedVariables false

set_option maxRecDepth 100000 in
set_option maxHeartbeats 1000000 in
theorem walk_varintPuts (w : World) (x y : Value) (hx : ∃ n, x = .int .u64 n ∧ (Lit.int .u64 n).wf = true) (hy : ∃ L, Em.IsBytes w y L) :
    Calls Try.prog 3 #[x, y] w fun e w' => e = .returned (.bool true) ∧ Below w.heap.size w w' := by
  obtain ⟨v, rfl, wv⟩ := hx
  obtain ⟨bv1, bv2⟩ := bounds_u64 wv
  clear wv
  obtain ⟨v, rfl⟩ := Int.eq_ofNat_of_zero_le bv1
  have bv : v ≤ 18446744073709551615 := by omega
  clear bv1 bv2
  obtain ⟨L, hy⟩ := hy
  have hlen := hy.len
  obtain ⟨a, cap, rfl, hcap1, hcap2, hnil, hbd, hcells⟩ := id hy
  obtain ⟨i0, hi, hz0, hz1, hz2⟩ := info_parts infoByte
  by_cases h50 : 50 < L.length
  · go_enter Try.func3, Try.ntmps3
    go_wp2_with fail
    go_ret
    exact ⟨rfl, Below.refl _ _⟩
  · go_enter Try.func3, Try.ntmps3
    go_wp2_with fail
    refine (put_any v _ bv).mono ?_
    rintro e w1 ⟨u, rfl, hown, hbel⟩
    have hpl := Em1.put_len v
    obtain ⟨g, gc, hu, hg1, hg2⟩ := Em.own_shape hown hpl.1
    subst hu
    have hpb := Em1.put_bytes v (by omega)
    have hB1 := Em.IsBytes.own hpb hown
    obtain ⟨P, hP⟩ : ∃ P, P = Em1.put v := ⟨_, rfl⟩
    rw [← hP] at hown hpl hpb hB1 ⊢
    have HP : Hid (P = Em1.put v) := hP
    clear hP
    have HI1 : Hid (Em.IsBytes w1 (.slice (some ⟨g, 0, none⟩) P.length gc) P) := hB1
    have HIy : Hid (Em.IsBytes w1 (.slice a L.length cap) L) := hy.below hbel
    clear hown hB1 hy hcells
    have o1 : (w1.alloc (.cells #[] 5)).ownsRow w1.heap.size 5 1 (.slice (some ⟨w1.heap.size, 0, none⟩) 0 0) 0 [] := World.ownsRow_made w1 #[] 0 (Nat.le_refl _) (by simp [maxLen]) rfl
    have bel1 : Below w1.heap.size w1 (w1.alloc (.cells #[] 5)) := (Below.refl _ _).alloc (Nat.le_refl _) _
    have n1 := (HI1.out.below bel1).news
    have HG : Hid (Em1.get (P ++ L) = some (v, P.length)) := by rw [HP.out]; exact Em1.get_put v L (by omega)
    cases a with
    | none =>
      have hL0 : L = [] := by
        have := hnil rfl
        exact List.length_eq_zero_iff.1 (by omega)
      subst hL0
      have hc0 := hnil rfl
      subst hc0
      clear hnil
      go_wp2_with (first | (at_builtin; refine wpList_append_own _ rfl (.tmp 15) (.tmp 16) 23 rfl w1.heap.size 5 i0 (.int .u8 0) 1 1 Try.underlying23 hi hz0 hz1 hz2 rfl (by decide) _ _ _ rfl o1 ⟨g, 0, none⟩ P.length gc (P.map (Value.int .u8)) rfl (by simp) n1 (Em.oneCells P) (by unfold maxLen; omega) (by omega) (by simp) ?_; intro v2 w2 hown2 hgrow2 _; simp only [Nat.zero_add, List.nil_append] at hown2; have bel2 : Below w1.heap.size w1 w2 := bel1.grown hgrow2 (by simp) (fun k hk => (o1.lt k hk).1); clear o1 n1 hgrow2) | (at_builtin; refine wpList_append_own_none rfl (.tmp 17) (.tmp 18) 23 rfl w1.heap.size 5 i0 1 Try.underlying23 hi _ _ _ rfl hown2 rfl ?_))
      have hI3 := Em.IsBytes.own hpb hown2
      have hget := HG.out
      rw [List.append_nil] at hget
      refine (get_any _ _ _ hI3).mono ?_
      rintro e w4 ⟨rfl, rfl⟩
      rw [hget]
      simp only [getRes]
      have HC : Hid (∀ w', Below w1.heap.size w1 w' → (convert 23 9 (.slice (some ⟨g, 0, none⟩) P.length gc)).run Try.prog w' = .ok (.string (Em.str P)) w') := fun w' h => Em.run_str 23 9 5 Try.underlying23 Try.underlying5 Try.underlying9 (HI1.out.below h)
      have hd1 := HC.out w4.drew bel2.drew
      have heq : ((Em.str P).toList == (Em.str P).toList) = true := by simp
      clear hown2 hI3 hget bel1
      go_wp2_with fail
      go_region_held (fun w' => Below w1.heap.size w1 w' ∧ (convert 23 9 (.slice (some ⟨g, 0, none⟩) P.length gc)).run Try.prog w' = .ok (.string (Em.str P)) w')
        (first | exact ⟨bel2.drew, hd1⟩ | exact ⟨bel5, hd2⟩ | exact ⟨bel6, HC.out _ bel6⟩)
        (first | (go_at_call 9; refine (rput_any v _ bv).mono ?_; rintro e w5 ⟨u5, rfl, hown5, hbel5⟩; rw [← HP.out] at hown5; have bel5 : Below w1.heap.size w1 w5 := bel2.drew.trans (hbel5.mono bel2.drew.size); have hd2 := HC.out _ bel5; have hs5 := Em.run_str (P := Try.prog) 23 9 5 Try.underlying23 Try.underlying5 Try.underlying9 (Em.IsBytes.own hpb hown5); clear hown5 hbel5) | (go_at_call 10; refine (known_any _).mono ?_; rintro e w6 ⟨rfl, hb6⟩; have bel6 : Below w1.heap.size w1 w6 := bel5.trans (hb6.mono bel5.size)))
      all_goals
        go_wp2
        go_ret
        exact ⟨rfl, hbel.trans (bel6.mono hbel.size)⟩
    | some ad =>
      clear hnil
      go_wp2_with (first | (at_builtin; refine wpList_append_own _ rfl (.tmp 15) (.tmp 16) 23 rfl w1.heap.size 5 i0 (.int .u8 0) 1 1 Try.underlying23 hi hz0 hz1 hz2 rfl (by decide) _ _ _ rfl o1 ⟨g, 0, none⟩ P.length gc (P.map (Value.int .u8)) rfl (by simp) n1 (Em.oneCells P) (by unfold maxLen; omega) (by omega) (by simp) ?_; intro v2 w2 hown2 hgrow2 _; simp only [Nat.zero_add, List.nil_append] at hown2; have bel2 : Below w1.heap.size w1 w2 := bel1.grown hgrow2 (by simp) (fun k hk => (o1.lt k hk).1); have n2 := (HIy.out.below bel2).news; clear o1 n1 hgrow2) | (at_builtin; refine wpList_append_own _ rfl (.tmp 17) (.tmp 18) 23 rfl w1.heap.size 5 i0 (.int .u8 0) 1 1 Try.underlying23 hi hz0 hz1 hz2 rfl (by decide) _ _ _ rfl hown2 ad L.length cap (L.map (Value.int .u8)) rfl (by simp) n2 (Em.oneCells L) (by unfold maxLen; omega) (by omega) (by have := bel2.size; omega) ?_; intro v3 w3 hown3 hgrow3 _; have bel3 : Below w1.heap.size w1 w3 := bel2.grown hgrow3 bel2.size (fun k hk => (hown2.lt k hk).1); clear hown2 hgrow3 n2))
      have hI3 : Em.IsBytes _ _ (P ++ L) := Em.IsBytes.own (by intro x hx; simp only [List.mem_append] at hx; rcases hx with hx | hx; exact hpb x hx; exact hbd x hx) (by simpa using hown3)
      have hget := HG.out
      refine (get_any _ _ _ hI3).mono ?_
      rintro e w4 ⟨rfl, rfl⟩
      rw [hget]
      simp only [getRes]
      have HC : Hid (∀ w', Below w1.heap.size w1 w' → (convert 23 9 (.slice (some ⟨g, 0, none⟩) P.length gc)).run Try.prog w' = .ok (.string (Em.str P)) w') := fun w' h => Em.run_str 23 9 5 Try.underlying23 Try.underlying5 Try.underlying9 (HI1.out.below h)
      have hd1 := HC.out w4.drew bel3.drew
      have heq : ((Em.str P).toList == (Em.str P).toList) = true := by simp
      clear hown3 hI3 hget bel1 bel2
      go_wp2_with fail
      go_region_held (fun w' => Below w1.heap.size w1 w' ∧ (convert 23 9 (.slice (some ⟨g, 0, none⟩) P.length gc)).run Try.prog w' = .ok (.string (Em.str P)) w')
        (first | exact ⟨bel3.drew, hd1⟩ | exact ⟨bel5, hd2⟩ | exact ⟨bel6, HC.out _ bel6⟩)
        (first | (go_at_call 9; refine (rput_any v _ bv).mono ?_; rintro e w5 ⟨u5, rfl, hown5, hbel5⟩; rw [← HP.out] at hown5; have bel5 : Below w1.heap.size w1 w5 := bel3.drew.trans (hbel5.mono bel3.drew.size); have hd2 := HC.out _ bel5; have hs5 := Em.run_str (P := Try.prog) 23 9 5 Try.underlying23 Try.underlying5 Try.underlying9 (Em.IsBytes.own hpb hown5); clear hown5 hbel5) | (go_at_call 10; refine (known_any _).mono ?_; rintro e w6 ⟨rfl, hb6⟩; have bel6 : Below w1.heap.size w1 w6 := bel5.trans (hb6.mono bel5.size)))
      all_goals
        go_wp2
        go_ret
        exact ⟨rfl, hbel.trans (bel6.mono hbel.size)⟩

theorem varintPuts_own : ownKnob Try.prog.godebug = none := by kernel_rfl
theorem varintPuts_laidOut : laidOutB Try.prog = true := by kernel_rfl
set_option maxRecDepth 100000 in
theorem varintPuts_lifted (os : Os) (started : os.Started) (H : Type) (enc : TypeId × Value → H) :
    ReturnsInHanded {} Try.checked os 3 .any (Rows.varintPutsSpec.pre6 enc Try.prog Try.f3 Rows.varintPutsRow.domain false) (Rows.varintPutsSpec.post enc Try.prog Try.f3 false true false false) := by
  refine returnsInHanded_of_change (C := Try.checked) varintPuts_own started (by kernel_rfl) Try.func3
    (ChangeSpec.witness6 (enc := enc) (C := Try.checked) false ⟨#[], #[.int .u64 0, .slice none 0 0], []⟩ 8 (by kernel_rfl) (by kernel_rfl) (by kernel_rfl) (by kernel_rfl)) ?_
  intro W base args ds gs before hval0 hW hcnd _
  have hval : ∀ (j : Nat) t v, Try.f3.params[j]? = some t → args[j]? = some v → Value.okWide Try.prog W .any base t v := hval0
  have hW' := hW
  obtain ⟨p, q, hA0, hV, rfl, hfz, hnd⟩ := hW
  have hA : DataW.TrodAll enc Try.prog W 0 (fun _ => true) true Try.f3.params.toList args.toList ds p := hA0
  rw [Try.params3] at hA hval
  obtain ⟨v0, vs0, d0, ds0, p0, q0, hargs, rfl, rfl, h0, r0⟩ := trodAll_cons hA
  obtain ⟨v1, vs1, d1, ds1, p1, q1, rfl, rfl, rfl, h1, r1⟩ := trodAll_cons r0
  obtain ⟨rfl, rfl, rfl⟩ := trodAll_nil r1
  obtain rfl : args = #[v0, v1] := by cases args; simp_all
  obtain ⟨rfl, rfl⟩ := trodVars_none hV
  have lt0 : ∀ x ∈ p0, x.block < W.heap.size := by obtain ⟨m, hm⟩ := h0; exact DataW.trod_lt m _ _ _ hm
  have o0 := Em.open_int Try.underlying22 (hval 0 22 v0 rfl rfl) h0
  have lt1 : ∀ x ∈ p1, x.block < W.heap.size := by obtain ⟨m, hm⟩ := h1; exact DataW.trod_lt m _ _ _ hm
  have o1 := Em.open_bytes (e := 5) Try.underlying23 Try.underlying5 (by kernel_rfl) (hval 1 23 v1 rfl rfl) h1
  clear hA0 hval0
  refine (walk_varintPuts W v0 v1 o0 o1).mono fun e W' ⟨he, bel⟩ => ?_
  subst he
  exact ⟨_, rfl, _, _, _, [], _, [], hW', trodAll_mk1 (shut_bool Try.underlying4 _), (trodAll_cons_mk (Below.trod varintPuts_laidOut (by kernel_rfl) (of_decide_eq_true (by kernel_rfl)) h0 bel lt0) (trodAll_cons_mk (Below.trod varintPuts_laidOut (by kernel_rfl) (of_decide_eq_true (by kernel_rfl)) h1 bel lt1) trodAll_mk0)), rfl, bel.frame _, fun h => by cases h⟩
theorem varintPuts_holds : Rows.VarintPutsSaid :=
  OpenClaim.holds_of_wide 3 Try.f3 rfl rfl rfl rfl rfl rfl rfl ⟨rfl, rfl, rfl, rfl, rfl⟩ rfl rfl rfl rfl rfl (by kernel_rfl) Try.func3 (by kernel_rfl)
    (of_decide_eq_true (by kernel_rfl)) (by unfold Func.isWrapper; first | (rw [if_pos (by decide +kernel)]; kernel_rfl) | (rw [if_neg (by decide +kernel)]; exact ⟨rfl, rfl⟩))
    (fun os started H enc _ => varintPuts_lifted os started H enc)
#print axioms varintPuts_holds
end Go.Proofs.Ytiipbpeagaeidaa

/- The program's own General (package scheme). -/
import Derived.Test.YtbiihiibebdjgaaScF
import Derived.Test.YtbiihiibebdjgaaScN
namespace Go.Proofs.Ytbiihiibebdjgaa
open Go.RowKit Go.Em8
set_option linter.unusedSimpArgs false
set_option linter.unusedVariables false

theorem freeP_le (l : List Bd) : (freeP l).Pairwise (· ≤ ·) := (freeP_rises l).imp fun h => by omega
theorem OwnInts.apart {w1 w2 : World} {B : Nat} {u v : Value} {l m : List Int} (h : OwnInts w1 B u l) (k : OwnInts w2 w1.heap.size v m) : ∀ g, v.ownBlock = some g → u.ownBlock ≠ some g := fun g hg hg2 => by
  have h1 := (World.ownsRow.lt (show w1.ownsRow B 3 1 u l.length (ints l) from h) g hg2).2
  have h2 := (World.ownsRow.lt (show w2.ownsRow w1.heap.size 3 1 v m.length (ints m) from k) g hg).1
  omega
theorem freeP_len {l : List Bd} (hl : BdsOk l) : Hid ((freeP l).length ≤ 1000000) := by
  have h1 := flat_len l fun b hb => (hl.2 b hb).1
  have h2 : (freeP l).length ≤ (sortI (l.flatMap ownOf)).length := by
    unfold freeP Lib.compact Lib.compactUpTo
    have := List.length_filter_le (Lib.keeps (sortI (l.flatMap ownOf)).toArray) (List.range (sortI (l.flatMap ownOf)).length)
    simpa using this
  rw [sortI_len] at h2
  have := hl.1
  rw [Hid]
  omega
theorem ho2o {x1 x2 : World} {u : Value} {l : List Int} (h : OwnInts x2 x1.heap.size u l) (hi : ∀ x ∈ l, Em5.I64 x) (hc : Below x1.heap.size x1 x2) : Hid (OwnInts x2 x1.heap.size u l ∧ (∀ x ∈ l, Em5.I64 x) ∧ Below x1.heap.size x1 x2) := ⟨h, hi, hc⟩
theorem below_set4 {B g : Nat} {w w1 : World} (h : Below B w w1) (hg : B ≤ g) (a b c d : Value) : Below B w ((((w1.setCell ⟨g, 0, none⟩ a).setCell ⟨g, 1, none⟩ b).setCell ⟨g, 2, none⟩ c).setCell ⟨g, 3, none⟩ d) :=
  (((h.setCell (p := ⟨g, 0, none⟩) hg _).setCell (p := ⟨g, 1, none⟩) hg _).setCell (p := ⟨g, 2, none⟩) hg _).setCell (p := ⟨g, 3, none⟩) hg _
/-- What General answers: in new memory. -/
def GenS (w : World) (l : List Bd) (T : Ty) (e : Ending) (w' : World) : Prop :=
  ∃ va vk vc s n ka kl kc, e = .returned (.agg #[.slice va vk vc, .string s, .int .i64 n, .slice ka kl kc]) ∧ OwnInts w' w.heap.size (.slice va vk vc) (genV l T) ∧ (∀ y ∈ genV l T, Em5.I64 y) ∧ IsTyP (fun b => w.heap.size ≤ b) w' T (.agg #[.string s, .int .i64 n, .slice ka kl kc]) ∧ Below w.heap.size w w'

set_option maxRecDepth 100000 in
set_option maxHeartbeats 2000000 in
theorem sGeneral_any (l : List Bd) (v : Value) (T : Ty) (tv : Value) (w : World) (hv : IsBds w v l) (hl : BdsOk l) (ht : IsTy w T tv) (hs : T.size ≤ 1000) :
    Calls Try.prog 9 #[v, tv] w fun e w' => GenS w l T e w' := by
  obtain ⟨op, tn, a, k, cap, rfl⟩ := isTyP_form (isTy_isP _ _ ht)
  obtain ⟨pa, pk, pc, rfl⟩ : ∃ pa pk pc, v = .slice pa pk pc := by obtain ⟨pa, pc, e, -⟩ := hv; exact ⟨_, _, _, e⟩
  obtain ⟨W, hW⟩ : ∃ W, W = (w.alloc (.cells #[.string op, .int .i64 tn, .slice a k cap] 25)).alloc (.cells #[.slice none 0 0, .string ⟨#[]⟩, .int .i64 0, .slice none 0 0] 31) := ⟨_, rfl⟩
  have hbW : Below w.heap.size w W := by rw [hW]; exact ((Below.refl _ _).alloc (Nat.le_refl _) _).alloc (by simp) _
  have hWz : W.heap.size = w.heap.size + 2 := by rw [hW]; simp
  have k0 : W.cell? ⟨w.heap.size, 0, none⟩ = some (.string op) := by rw [hW]; simp
  have k1 : W.cell? ⟨w.heap.size, 1, none⟩ = some (.int .i64 tn) := by rw [hW]; simp
  have k2 : W.cell? ⟨w.heap.size, 2, none⟩ = some (.slice a k cap) := by rw [hW]; simp
  have q0 : W.cell? ⟨w.heap.size + 1, 0, none⟩ = some (.slice none 0 0) := by rw [hW]; simp
  have q1 : W.cell? ⟨w.heap.size + 1, 1, none⟩ = some (.string ⟨#[]⟩) := by rw [hW]; simp
  have q2 : W.cell? ⟨w.heap.size + 1, 2, none⟩ = some (.int .i64 0) := by rw [hW]; simp
  have q3 : W.cell? ⟨w.heap.size + 1, 3, none⟩ = some (.slice none 0 0) := by rw [hW]; simp
  have fq : ∀ o, W.frozen? ⟨w.heap.size + 1, o, none⟩ = false := by intro o; rw [hW]; simp [go_sem]
  have HC : Hid (∀ w', Below W.heap.size W w' → (w'.cell? ⟨w.heap.size, 0, none⟩ = some (.string op) ∧ w'.cell? ⟨w.heap.size, 1, none⟩ = some (.int .i64 tn) ∧ w'.cell? ⟨w.heap.size, 2, none⟩ = some (.slice a k cap) ∧ w'.cell? ⟨w.heap.size + 1, 0, none⟩ = some (.slice none 0 0) ∧ w'.cell? ⟨w.heap.size + 1, 1, none⟩ = some (.string ⟨#[]⟩) ∧ w'.cell? ⟨w.heap.size + 1, 2, none⟩ = some (.int .i64 0) ∧ w'.cell? ⟨w.heap.size + 1, 3, none⟩ = some (.slice none 0 0) ∧ (∀ o, w'.frozen? ⟨w.heap.size + 1, o, none⟩ = false))) := fun w' hb => by
    have e1 : ∀ o, w'.cell? ⟨w.heap.size, o, none⟩ = W.cell? ⟨w.heap.size, o, none⟩ := fun o => hb.cell (p := ⟨w.heap.size, o, none⟩) (by simp only; omega)
    have e2 : ∀ o, w'.cell? ⟨w.heap.size + 1, o, none⟩ = W.cell? ⟨w.heap.size + 1, o, none⟩ := fun o => hb.cell (p := ⟨w.heap.size + 1, o, none⟩) (by simp only; omega)
    have e4 : ∀ o, w'.frozen? ⟨w.heap.size + 1, o, none⟩ = W.frozen? ⟨w.heap.size + 1, o, none⟩ := fun o => hb.frozen (p := ⟨w.heap.size + 1, o, none⟩) (by simp only; omega)
    exact ⟨by rw [e1]; exact k0, by rw [e1]; exact k1, by rw [e1]; exact k2, by rw [e2]; exact q0, by rw [e2]; exact q1, by rw [e2]; exact q2, by rw [e2]; exact q3, fun o => by rw [e4]; exact fq o⟩
  have HK : Hid (∀ w', Below W.heap.size W w' → (w'.cell? ⟨w.heap.size, 0, none⟩ = some (.string op) ∧ w'.cell? ⟨w.heap.size, 1, none⟩ = some (.int .i64 tn) ∧ w'.cell? ⟨w.heap.size, 2, none⟩ = some (.slice a k cap))) := fun w' hb => ⟨(HC.out w' hb).1, (HC.out w' hb).2.1, (HC.out w' hb).2.2.1⟩
  have HK4 : Hid (∀ w' x0 x1 x2 x3, Below W.heap.size W w' → let w9 := (((w'.setCell ⟨w.heap.size + 1, 0, none⟩ x0).setCell ⟨w.heap.size + 1, 1, none⟩ x1).setCell ⟨w.heap.size + 1, 2, none⟩ x2).setCell ⟨w.heap.size + 1, 3, none⟩ x3; (w9.cell? ⟨w.heap.size, 0, none⟩ = some (.string op) ∧ w9.cell? ⟨w.heap.size, 1, none⟩ = some (.int .i64 tn) ∧ w9.cell? ⟨w.heap.size, 2, none⟩ = some (.slice a k cap))) := fun w' x0 x1 x2 x3 hb => by
    have e : ∀ o, ((((w'.setCell ⟨w.heap.size + 1, 0, none⟩ x0).setCell ⟨w.heap.size + 1, 1, none⟩ x1).setCell ⟨w.heap.size + 1, 2, none⟩ x2).setCell ⟨w.heap.size + 1, 3, none⟩ x3).cell? ⟨w.heap.size, o, none⟩ = w'.cell? ⟨w.heap.size, o, none⟩ := fun o => (below_set4 (Below.refl (w.heap.size + 1) w') (Nat.le_refl _) x0 x1 x2 x3).cell (p := ⟨w.heap.size, o, none⟩) (by simp)
    obtain ⟨h1, h2, h3⟩ := HK.out w' hb
    exact ⟨(e 0).trans h1, (e 1).trans h2, (e 2).trans h3⟩
  have HW : Hid (Below w.heap.size w W ∧ W.heap.size = w.heap.size + 2) := ⟨hbW, hWz⟩
  have HV : Hid (IsBds W (.slice pa pk pc) l ∧ BdsOk l) := ⟨hv.below hbW, hl⟩
  have HT : Hid (IsTy w T (.agg #[.string op, .int .i64 tn, .slice a k cap]) ∧ IsTy W T (.agg #[.string op, .int .i64 tn, .slice a k cap]) ∧ T.size ≤ 1000 ∧ (tvars T []).length ≤ 1000) := ⟨ht, isTy_below hbW _ _ ht, hs, by have := tvars_len T []; simp at this; omega⟩
  have HWE : Hid ((w.alloc (.cells #[.string op, .int .i64 tn, .slice a k cap] 25)).alloc (.cells #[.slice none 0 0, .string ⟨#[]⟩, .int .i64 0, .slice none 0 0] 31) = W) := hW.symm
  have b0 : Below W.heap.size W W.drew := (Below.refl _ _).drew
  clear hv hl ht hs hbW hWz hW k0 k1 k2 q0 q1 q2 q3 fq
  go_enter Try.func9, Try.ntmps9
  go_upto_region 1 with fail
  rw [HWE.out]
  clear HWE
  go_region_held (fun w' => w'.cell? ⟨w.heap.size, 0, none⟩ = some (.string op) ∧ w'.cell? ⟨w.heap.size, 1, none⟩ = some (.int .i64 tn) ∧ w'.cell? ⟨w.heap.size, 2, none⟩ = some (.slice a k cap))
    (with_reducible (first | exact HK.out _ b4 | exact HK.out _ b3 | exact HK.out _ b2 | exact HK.out _ b1 | exact HK.out _ b0 | exact HK4.out _ _ _ _ _ b4))
    (first
      | (go_at_call 22; refine (snum_any T _ w _ HT.out.1 (HW.out.1.trans (b3.mono HW.out.1.size)) (by have := HT.out.2.2.1; omega)).mono ?_; rintro e x4 ⟨u4, rfl, ho4, hc⟩; obtain ⟨z0, z1, za, zk, zc, rfl⟩ := isTyP_form ho4; have O4 : Hid (OwnInts x4 W.heap.size (.slice va vk vc) (genV l T) ∧ IsTyP (fun b => W.heap.size ≤ b) x4 T (.agg #[.string z0, .int .i64 z1, .slice za zk zc])) := ⟨O3.out.1.below hc, isTyP_wide ho4 fun b hb _ => Nat.le_trans b3.size hb⟩; have b4 := b3.trans (hc.mono b3.size); obtain ⟨-, -, -, q0, q1, q2, q3, fq⟩ := HC.out _ b4; clear hc ho4)
      | (go_at_call 20; refine (swithout_any W.heap.size u1 u2 (tvars T []) (freeP l) _ (O1.out.1.below O2.out.2.2) b2.size (by have := HT.out.2.2.2; omega) (O2.out.1.is O2.out.2.1) (freeP_le l) F2.out (O1.out.1.apart O2.out.1)).mono ?_; rintro e x3 ⟨u3, rfl, ho3, hc⟩; obtain ⟨va, vc, hvf⟩ := ho3.form; obtain ⟨vk, hvk⟩ : ∃ vk, vk = (List.filter (fun x => decide (x ∉ freeP l)) (tvars T [])).length := ⟨_, rfl⟩; rw [← hvk] at hvf; subst hvf; have O3 : Hid (OwnInts x3 W.heap.size (.slice va vk vc) (genV l T) ∧ ∀ y ∈ genV l T, Em5.I64 y) := ⟨ho3, fun y hy => O1.out.2 y (List.mem_filter.1 hy).1⟩; have b3 := b2.trans hc; clear hc ho3 hvk)
      | (go_at_call 14; refine (sFree_any l _ _ (HV.out.1.below b1) HV.out.2).mono ?_; rintro e x2 ⟨u2, rfl, ho2, hi2, hc⟩; have F2 : Hid ((freeP l).length ≤ 1000000) := freeP_len HV.out.2; have O2 := ho2o ho2 hi2 hc; have b2 := b1.trans (hc.mono b1.size); clear hc ho2 hi2)
      | (go_at_call 21; refine (yVars_any T _ _ (isTy_below b0 _ _ HT.out.2.1) (by have := HT.out.2.2.1; omega)).mono ?_; rintro e x1 ⟨u1, rfl, ho1, hi1, hc⟩; have O1 : Hid (OwnInts x1 W.heap.size u1 (tvars T []) ∧ ∀ y ∈ tvars T [], Em5.I64 y) := ⟨ho1, hi1⟩; have b1 := b0.trans (hc.mono b0.size); clear hc ho1 hi1))
  all_goals
    go_wp2_with fail
    refine bodyPost_ret (v := .agg #[.slice va vk vc, .string z0, .int .i64 z1, .slice za zk zc]) (by simp [results, Try.results9, go_sem, q0, q1, q2, q3]) rfl ⟨va, vk, vc, z0, z1, za, zk, zc, rfl, ?_, O3.out.2, ?_, below_set4 (HW.out.1.trans (b4.mono HW.out.1.size)) (by omega) _ _ _ _⟩
    · have hne : some (w.heap.size + 1) ≠ (Value.slice va vk vc).ownBlock := fun e => by
        have h1 := (World.ownsRow.lt (show x4.ownsRow W.heap.size 3 1 _ _ _ from O4.out.1) _ e.symm).1
        have h2 := HW.out.2
        omega
      exact ((((O4.out.1.setOther hne).setOther hne).setOther hne).setOther hne).base (by have := HW.out.2; omega)
    · refine isTyP_keep (by simp) (fun x hp hl => ⟨?_, by have := HW.out.2; omega⟩) _ _ O4.out.2
      have hz := HW.out.2
      have h2 : ¬ x = w.heap.size + 1 := by omega
      rw [Below.heap_setCell _ _ _ _ (by simp; exact h2), Below.heap_setCell _ _ _ _ (by simp; exact h2), Below.heap_setCell _ _ _ _ (by simp; exact h2), Below.heap_setCell _ _ _ _ (by simp; exact h2)]
end Go.Proofs.Ytbiihiibebdjgaa

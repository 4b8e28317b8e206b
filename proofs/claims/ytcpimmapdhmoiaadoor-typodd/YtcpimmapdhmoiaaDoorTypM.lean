/- What the program's own order.numbered and Norm make: the type, its vars numbered as they come. -/
import Derived.Test.YtcpimmapdhmoiaaDoorTypV
import Derived.Test.YtcpimmapdhmoiaaDoorRTypM
import Derived.RegionTactic
import Derived.BigRegion
namespace Go.Proofs.YtcpimmapdhmoiaaDoor
open Go.RowKit Go.Em8
set_option linter.unusedSimpArgs false
set_option linter.unusedVariables false

theorem isTyP_set {P Q : Nat → Prop} {w : World} {g o : Nat} {x : Value} {t : Ty} {v : Value} (h : IsTyP P w t v) (hg : ∀ b, P b → b ≠ g ∧ Q b) : IsTyP Q (w.setCell ⟨g, o, none⟩ x) t v :=
  isTyP_keep (by rw [World.size_setCell]; exact Nat.le_refl _) (fun b hp _ => ⟨Below.heap_setCell _ _ _ _ (by simpa using (hg b hp).1), (hg b hp).2⟩) t v h

set_option maxRecDepth 100000 in
set_option maxHeartbeats 2000000 in
theorem ynum_var (L : List Int) (n : Int) (v : Value) (w0 w : World) (B ob mb : Nat) (vv : Value) (hv : IsTy w0 (.mk tVar n []) v) (hbw : Below w0.heap.size w0 w) (hO : Ord w B ob mb vv L) (hm : n ∈ L) (hl : L.length ≤ 1000000) :
    Calls Tryd.prog 31 #[.pointer (some ⟨ob, 0, none⟩), v] w fun e w' => ∃ u, e = .returned u ∧ IsTyP (fun b => w.heap.size ≤ b) w' (.mk tVar (L.idxOf n : Int) []) u ∧ Below w.heap.size w w' := by
  unfold IsTy at hv
  obtain ⟨a, cap, rfl, t1, i1, hc1, hc2, -⟩ := hv
  simp only [List.length_nil] at hc1 ⊢
  obtain ⟨i, hi⟩ : ∃ i : Nat, i = L.idxOf n := ⟨_, rfl⟩
  have hil : i < L.length := by rw [hi]; exact List.idxOf_lt_length_iff.2 hm
  rw [← hi]
  have hq : ((Em.str tVar).toList == [118, 97, 114]) = true := by rw [Em5.str_eq t1.1]; rfl
  obtain ⟨W, hW⟩ : ∃ W, W = (w.alloc (.cells #[.string (Em.str tVar), .int .i64 n, .slice a 0 cap] 24)).alloc (.cells #[.string ⟨#[]⟩, .int .i64 0, .slice none 0 0] 24) := ⟨_, rfl⟩
  have hWb : Below w.heap.size w W := by rw [hW]; exact ((Below.refl _ _).alloc (Nat.le_refl _) _).alloc (by simp) _
  have k0 : W.cell? ⟨w.heap.size, 0, none⟩ = some (.string (Em.str tVar)) := by rw [hW]; simp
  have k1 : W.cell? ⟨w.heap.size, 1, none⟩ = some (.int .i64 n) := by rw [hW]; simp
  have k2 : W.cell? ⟨w.heap.size, 2, none⟩ = some (.slice a 0 cap) := by rw [hW]; simp
  have fk : ∀ o, W.frozen? ⟨w.heap.size, o, none⟩ = false := by intro o; rw [hW]; simp [go_sem]
  have q0 : W.cell? ⟨w.heap.size + 1, 0, none⟩ = some (.string ⟨#[]⟩) := by rw [hW]; simp
  have q1 : W.cell? ⟨w.heap.size + 1, 1, none⟩ = some (.int .i64 0) := by rw [hW]; simp
  have q2 : W.cell? ⟨w.heap.size + 1, 2, none⟩ = some (.slice none 0 0) := by rw [hW]; simp
  have fq : ∀ o, W.frozen? ⟨w.heap.size + 1, o, none⟩ = false := by intro o; rw [hW]; simp [go_sem]
  have hOW := hO.below hWb
  have c1 := hOW.c1
  have hlook : Sem.run Tryd.prog (Instr.lookup 37 (.map (some mb)) (.int .i64 n) false) W.drew = .ok (.int .i64 (i : Int)) W.drew := by
    have h := (hOW.below (Below.refl _ _).drew).look i1
    rw [if_pos hm, ← hi] at h
    exact h
  have hlt := hO.lt
  have hob : ob ≠ w.heap.size := by omega
  have hob1 : ob ≠ w.heap.size + 1 := by omega
  have HWB : Hid (Below w.heap.size w W) := hWb
  have HWE : Hid ((w.alloc (.cells #[.string (Em.str tVar), .int .i64 n, .slice a 0 cap] 24)).alloc (.cells #[.string ⟨#[]⟩, .int .i64 0, .slice none 0 0] 24) = W) := hW.symm
  have HI : Hid (Em5.I64 (i : Int)) := by unfold Hid Em5.I64; omega
  clear hbw hO hm hl hi hil hOW hlt hWb t1 i1 hW
  go_enter Tryd.func31, Tryd.ntmps31
  go_upto_region 1 with fail
  rw [HWE.out]
  clear HWE
  go_wp2_with fail
  go_region
  all_goals
    go_wp2_with fail
    refine wp_loop_rounds 1 ?_
    rw [rounds_succ]
    go_wp2
    refine bodyPost_ret (v := .agg #[.string (Em.str tVar), .int .i64 i, .slice none 0 0]) (by simp [results, Tryd.results31, go_sem, k0, k1, k2, q0, q1, q2]) rfl ⟨_, rfl, isTyP_var _ _ _ HI.out, ?_⟩
    have b0 : Below w.heap.size w W.drew := HWB.out.drew
    exact below_set3 (g := w.heap.size + 1) ((b0.setCell (p := ⟨w.heap.size, 1, none⟩) (Nat.le_refl _) _).setCell (p := ⟨w.heap.size, 2, none⟩) (Nat.le_refl _) _) (by omega) _ _ _
end Go.Proofs.YtcpimmapdhmoiaaDoor

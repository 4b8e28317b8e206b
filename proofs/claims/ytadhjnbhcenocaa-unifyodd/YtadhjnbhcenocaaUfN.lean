/- 'New' and 'Fresh' of the program's own Sub (package unify). -/
import Derived.Test.YtadhjnbhcenocaaUfZ
namespace Go.Proofs.Ytadhjnbhcenocaa
open Go.RowKit Go.Em8 Go.Em9
set_option linter.unusedSimpArgs false
set_option linter.unusedVariables false

/-- Nothing is said. -/
theorem Uf.empty {w : World} {sb : Nat} (h : w.heap[sb]? = some (.cells #[.int .i64 0, .map none, .int .i64 0] 53 (0, 0))) : Uf w sb 0 0 (MineOf sb (fun _ => False) ⟨[], fun _ => tv 0, fun _ => []⟩ none) 0 tv (fun _ => False) := by
  refine ⟨fun _ => False, ⟨[], fun _ => tv 0, fun _ => []⟩, fun _ => none, fun _ => 0, fun _ => 0, id, fun _ => 0, fun _ => tv 0, none, fun _ => none, 0, ⟨⟨by simp, by simp, by simp, by simp⟩, ⟨by simp, by simp, by simp, by simp⟩, by simp [Cong], by simp [TOk], by simp [Tms], ⟨by simp, by simp⟩, by simp, by simp, ⟨h, by simp, by simp⟩, ⟨by simp, by simp⟩, ?_, by simp, by simp, by simp, by simp, by simp, by simp⟩, rfl⟩
  funext x
  rw [ofM_none rfl]
theorem Uf.fresh {w w' : World} {sb : Nat} {fr N : Int} {Mn : Nat → Prop} {len : Nat} {d : Int → Ty} {dom : Int → Prop} (h : Uf w sb fr N Mn len d dom) (hk : Kept (fun k => k = sb) w w') {fr' : Int} (hc : ∀ mv, w.heap[sb]? = some (.cells #[.int .i64 fr, .map mv, .int .i64 N] 53 (0, 0)) → w'.heap[sb]? = some (.cells #[.int .i64 fr', .map mv, .int .i64 N] 53 (0, 0))) : Uf w' sb fr' N Mn len d dom := by
  obtain ⟨K, F, is, cm, sn, E, D, T, mv, M, n, h, rfl⟩ := h
  refine ⟨K, F, is, cm, sn, E, D, T, mv, M, n, ⟨h.fo, h.ends, h.cong, h.tok, h.tms.turn hk (fun b hb e => h.sepS.1 (e ▸ hb)) (fun b hb e => h.sepS.2 (e ▸ hb)), h.leads, fun k hK => Nat.lt_of_lt_of_le (h.kl k hK) hk.size, h.len, ⟨hc mv h.sub.cells, fun mb e => ?_, h.sub.none⟩, h.map, h.d, h.seen, h.came, h.sepS, h.sepM, h.nl, h.dom⟩, rfl⟩
  obtain ⟨D, g1, g2⟩ := h.sub.map mb e
  refine ⟨D, ?_, g2⟩
  obtain ⟨es, clock, hb, F, hs, hD⟩ := g1
  exact ⟨es, clock, by rw [hk.block mb (h.sub.lt.2 mb e).1 (h.sub.lt.2 mb e).2]; exact hb, F, hs, hD⟩
theorem Uf.cells {w : World} {sb : Nat} {fr N : Int} {Mn : Nat → Prop} {len : Nat} {d : Int → Ty} {dom : Int → Prop} (h : Uf w sb fr N Mn len d dom) : ∃ mv, w.heap[sb]? = some (.cells #[.int .i64 fr, .map mv, .int .i64 N] 53 (0, 0)) ∧ sb < w.heap.size := by
  obtain ⟨K, F, is, cm, sn, E, D, T, mv, M, n, h, rfl⟩ := h
  exact ⟨mv, h.sub.cells, h.sub.lt.1⟩
theorem Uf.mine {w : World} {sb : Nat} {fr N : Int} {Mn : Nat → Prop} {len : Nat} {d : Int → Ty} {dom : Int → Prop} (h : Uf w sb fr N Mn len d dom) : Mn sb := by
  obtain ⟨K, F, is, cm, sn, E, D, T, mv, M, n, h, rfl⟩ := h
  exact .inl rfl

set_option maxRecDepth 100000 in
set_option maxHeartbeats 1000000 in
theorem unew_any (w : World) : Calls Try.prog 11 #[] w fun e w' => e = .returned (.pointer (some ⟨w.heap.size, 0, none⟩)) ∧ Below w.heap.size w w' ∧ ∃ Mn, Uf w' w.heap.size 0 0 Mn 0 tv (fun _ => False) ∧ ∀ k, Mn k → k = w.heap.size := by
  go_enter Try.func11, Try.ntmps11
  go_wp2_with fail
  go_ret
  refine ⟨rfl, (Below.refl _ _).alloc (Nat.le_refl _) _, _, Uf.empty (heap_alloc_new w _), fun k hk => ?_⟩
  rcases hk with e | e | e | e
  · exact e
  · simp at e
  · simp at e
  · exact e.elim

set_option maxRecDepth 100000 in
set_option maxHeartbeats 1000000 in
/-- 'Fresh'. -/
theorem ufresh_any {w : World} {sb : Nat} {fr N : Int} {Mn : Nat → Prop} {len : Nat} {d : Int → Ty} {dom : Int → Prop} (h : Uf w sb fr N Mn len d dom) (hN : 0 ≤ fr ∧ fr ≤ 1000000) :
    Calls Try.prog 20 #[.pointer (some ⟨sb, 0, none⟩)] w fun e w' => e = .returned (.agg #[.string (Em.str tVar), .int .i64 fr, .slice none 0 0]) ∧ Uf w' sb (fr + 1) N Mn len d dom ∧ Kept (fun k => k = sb) w w' := by
  obtain ⟨mv, hc, hlt⟩ := h.cells
  have HS : Hid (Uf w sb fr N Mn len d dom) := h
  obtain ⟨W, hW⟩ : ∃ W, W = w.alloc (.cells #[.string ⟨#[]⟩, .int .i64 0, .slice none 0 0] 25) := ⟨_, rfl⟩
  have hcW : W.heap[sb]? = some (.cells #[.int .i64 fr, .map mv, .int .i64 N] 53 (0, 0)) := by rw [hW, heap_alloc_old _ _ hlt]; exact hc
  have c0 : W.cell? ⟨sb, 0, none⟩ = some (.int .i64 fr) := by simp [World.cell?, hcW]
  have f0 : W.frozen? ⟨sb, 0, none⟩ = false := by simp [World.frozen?, hcW]
  have kW : Kept (fun k => k = sb) w W := by rw [hW]; exact (Kept.refl _ w).alloc _
  have zW : W.heap.size = w.heap.size + 1 := by rw [hW]; simp
  obtain ⟨X, hX⟩ : ∃ X, X = W.setCell ⟨sb, 0, none⟩ (.int .i64 (fr + 1)) := ⟨_, rfl⟩
  have hcX : X.heap[sb]? = some (.cells #[.int .i64 (fr + 1), .map mv, .int .i64 N] 53 (0, 0)) := by rw [hX]; exact heap_set9 0 _ hcW
  have kX : Kept (fun k => k = sb) w X := by rw [hX]; exact kW.set sb 0 _ fun _ => rfl
  have hbX : X.heap[w.heap.size]? = W.heap[w.heap.size]? := by rw [hX]; exact Below.heap_setCell _ _ _ _ (by simp; omega)
  have r0 : X.cell? ⟨w.heap.size, 0, none⟩ = some (.string ⟨#[]⟩) := by rw [World.cell?_of_block (w := W) (a := ⟨w.heap.size, 0, none⟩) hbX, hW]; simp
  have r1 : X.cell? ⟨w.heap.size, 1, none⟩ = some (.int .i64 0) := by rw [World.cell?_of_block (w := W) (a := ⟨w.heap.size, 1, none⟩) hbX, hW]; simp
  have r2 : X.cell? ⟨w.heap.size, 2, none⟩ = some (.slice none 0 0) := by rw [World.cell?_of_block (w := W) (a := ⟨w.heap.size, 2, none⟩) hbX, hW]; simp
  have rf : ∀ o, X.frozen? ⟨w.heap.size, o, none⟩ = false := fun o => by rw [World.frozen?_of_block (w := W) (a := ⟨w.heap.size, o, none⟩) hbX, hW]; simp [go_sem]
  have HWE : Hid (w.alloc (.cells #[.string ⟨#[]⟩, .int .i64 0, .slice none 0 0] 25) = W) := hW.symm
  have HXE : Hid (W.setCell ⟨sb, 0, none⟩ (.int .i64 (fr + 1)) = X) := hX.symm
  have HR : Hid (True ∧ Kept (fun k => k = sb) w X) := ⟨trivial, kX⟩
  have HC : Hid (sb < w.heap.size ∧ X.heap[sb]? = some (.cells #[.int .i64 (fr + 1), .map mv, .int .i64 N] 53 (0, 0)) ∧ w.heap[sb]? = some (.cells #[.int .i64 fr, .map mv, .int .i64 N] 53 (0, 0))) := ⟨hlt, hcX, hc⟩
  have hn0 := hN.1
  have hn1 := hN.2
  clear hX hW hcW kW zW hcX kX hbX h hc
  go_enter Try.func20, Try.ntmps20
  go_upto_region 1 with fail
  rw [HWE.out]
  go_upto_region 5 with fail
  rw [HXE.out]
  clear c0 f0
  go_wp2_with fail
  refine bodyPost_ret (v := .agg #[.string (Em.str tVar), .int .i64 fr, .slice none 0 0]) (by simp [results, Try.results20, go_sem, r0, r1, r2]; try rfl) rfl ?_
  have K3 : Kept (fun k => k = sb) w (((X.setCell ⟨w.heap.size, 0, none⟩ (.string (Em.str tVar))).setCell ⟨w.heap.size, 1, none⟩ (.int .i64 fr)).setCell ⟨w.heap.size, 2, none⟩ (.slice none 0 0)) :=
    ((HR.out.2.set _ 0 _ fun h => absurd h (by omega)).set _ 1 _ fun h => absurd h (by omega)).set _ 2 _ fun h => absurd h (by omega)
  refine ⟨rfl, HS.out.fresh K3 fun mv' h' => ?_, K3⟩
  obtain ⟨g1, g2, g3⟩ := HC.out
  rw [g3] at h'
  simp only [Option.some.injEq, Obj.cells.injEq, Array.mk.injEq, List.cons.injEq, Value.map.injEq, true_and, and_true] at h'
  rw [Below.heap_setCell _ _ _ _ (by simp; omega), Below.heap_setCell _ _ _ _ (by simp; omega), Below.heap_setCell _ _ _ _ (by simp; omega), g2, h']
end Go.Proofs.Ytadhjnbhcenocaa

/- How a slice of types ([]api.Type), as a law's argument, is opened for its walk. -/
import Derived.Test.YtadhjnbhcenocaaFrameT
import Derived.Test.YtadhjnbhcenocaaTyApp
namespace Go.Proofs.Ytadhjnbhcenocaa
open Go.ChangeShapes Go.WideShapes Go.ChangeAt Go.RowKit Go.Deep

theorem open_tys {H : Type} {enc : TypeId × Value → H} {W : World} {r : Reach} {b0 : Nat} {held : Bool} {v : Value} {d : DataW H} {p : List MemPlace}
    (hv : Value.okWide Try.prog W r b0 23 v) (h : DataW.Trod enc Try.prog W 0 (fun _ => true) held 23 v d p) (hs : ∀ n ∈ d.weights Try.prog 23, n ≤ 140737488351232) : ∃ l, IsTys W v l := by
  obtain ⟨a0, len0, cap0, rfl⟩ := okWide_slice Try.underlying23 hv
  obtain ⟨fuel, f2⟩ := h
  rcases DataW.trod_slice Try.underlying23 f2 with ⟨hcs, hx⟩ | ⟨a, len, cap, elems, rest, n', hn, hcs, hd, -, hlc, hcm, hel, hcells, hsp, -⟩
  · simp [Value.cells] at hcs
    obtain ⟨rfl, rfl, rfl⟩ := hcs
    exact ⟨[], IsTys.nil W⟩
  · simp [Value.cells] at hcs
    obtain ⟨rfl, rfl, rfl⟩ := hcs
    have hcap : cap0 ≤ 9223372036854775807 := by unfold maxLen at hcm; omega
    rw [cellsType] at hcells
    have hd1 : d = DataW.slice (elems.map (·.1)) (rest.map (·.1)) := congrArg Prod.fst hd
    subst hd1
    have each : ∀ i, i < len0 → ∃ t c0 c1 c2, a.spot = none ∧ a.block < W.heap.size ∧ W.cell? ⟨a.block, a.off + i * 3, none⟩ = some c0 ∧ W.cell? ⟨a.block, a.off + i * 3 + 1, none⟩ = some c1 ∧ W.cell? ⟨a.block, a.off + i * 3 + 2, none⟩ = some c2 ∧ Em8.IsTy W t (.agg #[c0, c1, c2]) := by
      intro i hi
      have hc := hcells i hi
      rw [List.getElem?_eq_getElem (by omega)] at hc
      cases hcs : W.cells? 0 (a.add (i * 3)) 3 with
      | none => rw [hcs] at hc; simp at hc
      | some cs =>
        rw [hcs] at hc
        simp only [Option.bind_some] at hc
        obtain ⟨c0, c1, c2, rfl, hspot, hblk, k0, k1, k2⟩ := tcells3 hcs
        have hwi : ∀ k ∈ (elems[i]'(by omega)).1.weights Try.prog 25, k ≤ 140737488351232 := fun k hk => hs k (by
          simp only [DataW.weights, Try.underlying23, List.mem_cons, List.mem_append]
          exact Or.inr (Or.inl (Em.weightsAll_mem (List.mem_map.2 ⟨_, List.getElem_mem (by omega), rfl⟩) k hk)))
        obtain ⟨t, ht⟩ := open_ty_aux n' _ _ hc hwi
        obtain ⟨ab, ao, asp⟩ := a
        by_cases hi0 : i = 0
        · subst hi0
          simp [Addr.add] at hspot hblk k0 k1 k2
          exact ⟨t, c0, c1, c2, hspot, hblk, by simpa using k0, by simpa using k1, by simpa using k2, ht⟩
        · have hz := hcells 0 (by omega)
          rw [List.getElem?_eq_getElem (by omega)] at hz
          cases hcz : W.cells? 0 ((⟨ab, ao, asp⟩ : Addr).add (0 * 3)) 3 with
          | none => rw [hcz] at hz; simp at hz
          | some cs0 =>
            obtain ⟨-, -, -, -, hspot0, -⟩ := tcells3 hcz
            simp [Addr.add] at hspot0
            have hi6 : ¬ i * 3 = 0 := by omega
            simp only [Addr.add, hi6, if_false] at hblk k0 k1 k2
            exact ⟨t, c0, c1, c2, hspot0, hblk, k0, k1, k2, ht⟩
    by_cases hl0 : len0 = 0
    · subst hl0
      exact ⟨[], some a, cap0, rfl, by simp, hcap, by simp⟩
    · obtain ⟨t0, -, -, -, hsp0, hblk0, -⟩ := each 0 (by omega)
      have hex : ∃ f : Nat → Em8.Ty, ∀ i, i < len0 → ∃ c0 c1 c2, W.cell? ⟨a.block, a.off + i * 3, none⟩ = some c0 ∧ W.cell? ⟨a.block, a.off + i * 3 + 1, none⟩ = some c1 ∧ W.cell? ⟨a.block, a.off + i * 3 + 2, none⟩ = some c2 ∧ Em8.IsTy W (f i) (.agg #[c0, c1, c2]) := by
        refine ⟨fun i => if hi : i < len0 then (each i hi).choose else t0, fun i hi => ?_⟩
        simp only [hi, dif_pos]
        obtain ⟨c0, c1, c2, -, -, hrest⟩ := (each i hi).choose_spec
        exact ⟨c0, c1, c2, hrest⟩
      obtain ⟨f, hfx⟩ := hex
      refine ⟨(List.range len0).map f, some a, cap0, by simp, by simpa using hlc, hcap, fun _ => ⟨a.block, a.off, ?_, hblk0, Em8.tysAt_mk _ _ fun j t hj => ?_⟩⟩
      · obtain ⟨ab, ao, asp⟩ := a
        simp at hsp0
        rw [hsp0]
      · have hjl : j < len0 := by
          have := (List.getElem?_eq_some_iff.1 hj).1
          simpa using this
        simp [hjl] at hj
        subst hj
        exact hfx j hjl
end Go.Proofs.Ytadhjnbhcenocaa

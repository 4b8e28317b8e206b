/- A slice of pairs of types in memory; how it, as a law's argument, is opened for its walk. -/
import Derived.Test.YtadhjnbhcenocaaFrameP
namespace Go.Proofs.Ytadhjnbhcenocaa
open Go.ChangeShapes Go.WideShapes Go.ChangeAt Go.RowKit Go.Deep

/-- A slice of pairs of types. -/
def IsPairs (w : World) (v : Value) (l : List (Em8.Ty × Em8.Ty)) : Prop :=
  ∃ a cap, v = .slice a l.length cap ∧ l.length ≤ cap ∧ cap ≤ 9223372036854775807 ∧ (0 < l.length → ∃ b off, a = some ⟨b, off, none⟩ ∧ b < w.heap.size ∧ ∀ (j : Nat) (p : Em8.Ty × Em8.Ty), l[j]? = some p →
    ∃ c0 c1 c2 c3 c4 c5, w.cell? ⟨b, off + j * 6, none⟩ = some c0 ∧ w.cell? ⟨b, off + j * 6 + 1, none⟩ = some c1 ∧ w.cell? ⟨b, off + j * 6 + 2, none⟩ = some c2 ∧ w.cell? ⟨b, off + j * 6 + 3, none⟩ = some c3 ∧ w.cell? ⟨b, off + j * 6 + 4, none⟩ = some c4 ∧ w.cell? ⟨b, off + j * 6 + 5, none⟩ = some c5 ∧ Em8.IsTy w p.1 (.agg #[c0, c1, c2]) ∧ Em8.IsTy w p.2 (.agg #[c3, c4, c5]))
theorem IsPairs.nil (w : World) : IsPairs w (.slice none 0 0) [] := ⟨none, 0, rfl, by simp, by simp, by simp⟩
theorem IsPairs.below {w w' : World} {v : Value} {l : List (Em8.Ty × Em8.Ty)} (h : IsPairs w v l) (hb : Below w.heap.size w w') : IsPairs w' v l := by
  obtain ⟨a, cap, e, h1, h2, h3⟩ := h
  refine ⟨a, cap, e, h1, h2, fun hp => ?_⟩
  obtain ⟨b, off, e1, hl, hk⟩ := h3 hp
  refine ⟨b, off, e1, Nat.lt_of_lt_of_le hl hb.size, fun j p hj => ?_⟩
  obtain ⟨c0, c1, c2, c3, c4, c5, k0, k1, k2, k3, k4, k5, g1, g2⟩ := hk j p hj
  have key : ∀ o, w'.cell? ⟨b, o, none⟩ = w.cell? ⟨b, o, none⟩ := fun o => hb.cell (p := ⟨b, o, none⟩) hl
  exact ⟨c0, c1, c2, c3, c4, c5, by rw [key]; exact k0, by rw [key]; exact k1, by rw [key]; exact k2, by rw [key]; exact k3, by rw [key]; exact k4, by rw [key]; exact k5, Em8.isTy_below hb _ _ g1, Em8.isTy_below hb _ _ g2⟩

theorem tcells6 {w : World} {base : Nat} {a : Addr} {cs : List Value} (h : w.cells? base a 6 = some cs) : ∃ c0 c1 c2 c3 c4 c5, cs = [c0, c1, c2, c3, c4, c5] ∧ a.spot = none ∧ a.block < w.heap.size ∧
    w.cell? ⟨a.block, a.off, none⟩ = some c0 ∧ w.cell? ⟨a.block, a.off + 1, none⟩ = some c1 ∧ w.cell? ⟨a.block, a.off + 2, none⟩ = some c2 ∧ w.cell? ⟨a.block, a.off + 3, none⟩ = some c3 ∧ w.cell? ⟨a.block, a.off + 4, none⟩ = some c4 ∧ w.cell? ⟨a.block, a.off + 5, none⟩ = some c5 := by
  have hb := World.cells?_block h (by omega)
  obtain ⟨h1, h2, h3⟩ := World.cells?_some h
  match cs, h2 with
  | [c0, c1, c2, c3, c4, c5], _ =>
    obtain ⟨b, off, spot⟩ := a
    have g0 := h3 0 (by omega)
    have hs : spot = none := by simpa [Addr.add] using World.cell?_spot g0
    subst hs
    exact ⟨c0, c1, c2, c3, c4, c5, rfl, rfl, hb, by simpa [Addr.add] using g0, by simpa [Addr.add] using h3 1 (by omega), by simpa [Addr.add] using h3 2 (by omega), by simpa [Addr.add] using h3 3 (by omega), by simpa [Addr.add] using h3 4 (by omega), by simpa [Addr.add] using h3 5 (by omega)⟩
theorem cellsPair : Try.prog.cellsOf 37 = 6 := by kernel_rfl
theorem open_pair_aux {H : Type} {enc : TypeId × Value → H} {W : World} {held : Bool} (fuel : Nat) (c0 c1 c2 c3 c4 c5 : Value) (x : DataW H × List MemPlace) (h : DataW.trod enc Try.prog W 0 (fun _ => true) held fuel 37 [c0, c1, c2, c3, c4, c5] = some x)
    (hw : ∀ k ∈ x.1.weights Try.prog 37, k ≤ 140737488351232) : ∃ p : Em8.Ty × Em8.Ty, Em8.IsTy W p.1 (.agg #[c0, c1, c2]) ∧ Em8.IsTy W p.2 (.agg #[c3, c4, c5]) := by
  obtain ⟨xs, n, rfl, rfl, hl, hlen, hf⟩ := DataW.trod_struct Try.underlying37 h
  match xs, hlen with
  | [y0, y1], _ =>
    have f0 := hf 0 _ rfl
    have f1 := hf 1 _ rfl
    simp [cellsType] at f0 f1
    have hws : ∀ k ∈ y0.1.weights Try.prog 25 ++ y1.1.weights Try.prog 25, k ≤ 140737488351232 := by
      intro k hk
      apply hw k
      simp only [List.map_cons, List.map_nil, DataW.weights, Try.underlying37, DataW.weightsEach]
      simpa using hk
    obtain ⟨s, hs⟩ := open_ty_aux n _ _ f0 (fun k hk => hws k (List.mem_append_left _ hk))
    obtain ⟨t, ht⟩ := open_ty_aux n _ _ f1 (fun k hk => hws k (List.mem_append_right _ hk))
    exact ⟨(s, t), hs, ht⟩

theorem open_pairs {H : Type} {enc : TypeId × Value → H} {W : World} {r : Reach} {b0 : Nat} {held : Bool} {v : Value} {d : DataW H} {p : List MemPlace}
    (hv : Value.okWide Try.prog W r b0 22 v) (h : DataW.Trod enc Try.prog W 0 (fun _ => true) held 22 v d p) (hs : ∀ n ∈ d.weights Try.prog 22, n ≤ 140737488351232) : ∃ l, IsPairs W v l := by
  obtain ⟨a0, len0, cap0, rfl⟩ := okWide_slice Try.underlying22 hv
  obtain ⟨fuel, f2⟩ := h
  rcases DataW.trod_slice Try.underlying22 f2 with ⟨hcs, hx⟩ | ⟨a, len, cap, elems, rest, n', hn, hcs, hd, -, hlc, hcm, hel, hcells, hsp, -⟩
  · simp [Value.cells] at hcs
    obtain ⟨rfl, rfl, rfl⟩ := hcs
    exact ⟨[], IsPairs.nil W⟩
  · simp [Value.cells] at hcs
    obtain ⟨rfl, rfl, rfl⟩ := hcs
    have hcap : cap0 ≤ 9223372036854775807 := by unfold maxLen at hcm; omega
    rw [cellsPair] at hcells
    have hd1 : d = DataW.slice (elems.map (·.1)) (rest.map (·.1)) := congrArg Prod.fst hd
    subst hd1
    have each : ∀ i, i < len0 → ∃ (t : Em8.Ty × Em8.Ty) (c0 c1 c2 c3 c4 c5 : Value), a.spot = none ∧ a.block < W.heap.size ∧ W.cell? ⟨a.block, a.off + i * 6, none⟩ = some c0 ∧ W.cell? ⟨a.block, a.off + i * 6 + 1, none⟩ = some c1 ∧ W.cell? ⟨a.block, a.off + i * 6 + 2, none⟩ = some c2 ∧ W.cell? ⟨a.block, a.off + i * 6 + 3, none⟩ = some c3 ∧ W.cell? ⟨a.block, a.off + i * 6 + 4, none⟩ = some c4 ∧ W.cell? ⟨a.block, a.off + i * 6 + 5, none⟩ = some c5 ∧ Em8.IsTy W t.1 (.agg #[c0, c1, c2]) ∧ Em8.IsTy W t.2 (.agg #[c3, c4, c5]) := by
      intro i hi
      have hc := hcells i hi
      rw [List.getElem?_eq_getElem (by omega)] at hc
      cases hcs : W.cells? 0 (a.add (i * 6)) 6 with
      | none => rw [hcs] at hc; simp at hc
      | some cs =>
        rw [hcs] at hc
        simp only [Option.bind_some] at hc
        obtain ⟨c0, c1, c2, c3, c4, c5, rfl, hspot, hblk, k0, k1, k2, k3, k4, k5⟩ := tcells6 hcs
        have hwi : ∀ k ∈ (elems[i]'(by omega)).1.weights Try.prog 37, k ≤ 140737488351232 := fun k hk => hs k (by
          simp only [DataW.weights, Try.underlying22, List.mem_cons, List.mem_append]
          exact Or.inr (Or.inl (Em.weightsAll_mem (List.mem_map.2 ⟨_, List.getElem_mem (by omega), rfl⟩) k hk)))
        obtain ⟨t, ht⟩ := open_pair_aux n' _ _ _ _ _ _ _ hc hwi
        obtain ⟨ab, ao, asp⟩ := a
        by_cases hi0 : i = 0
        · subst hi0
          simp [Addr.add] at hspot hblk k0 k1 k2 k3 k4 k5
          exact ⟨t, c0, c1, c2, c3, c4, c5, hspot, hblk, by simpa using k0, by simpa using k1, by simpa using k2, by simpa using k3, by simpa using k4, by simpa using k5, ht⟩
        · have hz := hcells 0 (by omega)
          rw [List.getElem?_eq_getElem (by omega)] at hz
          cases hcz : W.cells? 0 ((⟨ab, ao, asp⟩ : Addr).add (0 * 6)) 6 with
          | none => rw [hcz] at hz; simp at hz
          | some cs0 =>
            obtain ⟨-, -, -, -, -, -, -, hspot0, -⟩ := tcells6 hcz
            simp [Addr.add] at hspot0
            have hi6 : ¬ i * 6 = 0 := by omega
            simp only [Addr.add, hi6, if_false] at hblk k0 k1 k2 k3 k4 k5
            exact ⟨t, c0, c1, c2, c3, c4, c5, hspot0, hblk, k0, k1, k2, k3, k4, k5, ht⟩
    by_cases hl0 : len0 = 0
    · subst hl0
      exact ⟨[], some a, cap0, rfl, by simp, hcap, by simp⟩
    · obtain ⟨t0, -, -, -, -, -, -, hsp0, hblk0, -⟩ := each 0 (by omega)
      have hex : ∃ f : Nat → Em8.Ty × Em8.Ty, ∀ i, i < len0 → ∃ c0 c1 c2 c3 c4 c5, W.cell? ⟨a.block, a.off + i * 6, none⟩ = some c0 ∧ W.cell? ⟨a.block, a.off + i * 6 + 1, none⟩ = some c1 ∧ W.cell? ⟨a.block, a.off + i * 6 + 2, none⟩ = some c2 ∧ W.cell? ⟨a.block, a.off + i * 6 + 3, none⟩ = some c3 ∧ W.cell? ⟨a.block, a.off + i * 6 + 4, none⟩ = some c4 ∧ W.cell? ⟨a.block, a.off + i * 6 + 5, none⟩ = some c5 ∧ Em8.IsTy W (f i).1 (.agg #[c0, c1, c2]) ∧ Em8.IsTy W (f i).2 (.agg #[c3, c4, c5]) := by
        refine ⟨fun i => if hi : i < len0 then (each i hi).choose else t0, fun i hi => ?_⟩
        simp only [hi, dif_pos]
        obtain ⟨c0, c1, c2, c3, c4, c5, -, -, hrest⟩ := (each i hi).choose_spec
        exact ⟨c0, c1, c2, c3, c4, c5, hrest⟩
      obtain ⟨f, hfx⟩ := hex
      refine ⟨(List.range len0).map f, some a, cap0, by simp, by simpa using hlc, hcap, fun _ => ⟨a.block, a.off, ?_, hblk0, fun j t hj => ?_⟩⟩
      · obtain ⟨ab, ao, asp⟩ := a
        simp at hsp0
        rw [hsp0]
      · have hjl : j < len0 := by
          have := (List.getElem?_eq_some_iff.1 hj).1
          simpa using this
        simp [hjl] at hj
        subst hj
        exact hfx j hjl
end Go.Proofs.Ytadhjnbhcenocaa

/- How a law's arguments are opened for its walk with the bound on each slice that every row bears: bytes, rows of bytes. -/
import Derived.Test.YtbiihiibebdjgaaFrame
import Derived.Test.YtbiihiibebdjgaaRows2
import Derived.Deep.Matrix
import Derived.SizedLaws
namespace Go.Em
open Go.ChangeShapes Go.WideShapes Go.ChangeAt Go.RowKit Go.Deep

theorem weightsAll_mem {H : Type} {P : Program} {e : TypeId} : ∀ {l : List (DataW H)} {d : DataW H}, d ∈ l → ∀ n ∈ d.weights P e, n ∈ DataW.weightsAll P e l
  | x :: r, d, h, n, hn => by
    simp only [DataW.weightsAll, List.mem_append]
    rcases List.mem_cons.1 h with rfl | h
    · exact Or.inl hn
    · exact Or.inr (weightsAll_mem h n hn)

/-- What the row says of the j-th argument's size. -/
theorem sized_arg {H : Type} {P : Program} {ts : List TypeId} {ds : List (DataW H)} (h : (DataW.weightsEach P ts ds).all (· ≤ reachBytes) = true) (j : Nat) {t : TypeId} {d : DataW H} (ht : ts[j]? = some t) (hd : ds[j]? = some d) :
    ∀ n ∈ d.weights P t, n ≤ 140737488351232 := fun n hn => by
  have := List.all_eq_true.1 h _ (DataW.weights_mem_each ht hd n hn)
  exact of_decide_eq_true this

theorem open_bytes_s {H : Type} {enc : TypeId × Value → H} {P : Program} {W : World} {r : Reach} {b0 t e base : Nat} {held : Bool} {v : Value} {d : DataW H} {p : List MemPlace}
    (ht : P.underlying t = some (.slice e)) (he : P.underlying e = some (.int .u8)) (hc : P.cellsOf e = 1) (hby : P.bytesOf e = 1) (hv : Value.okWide P W r b0 t v)
    (h : DataW.Trod enc P W base (fun _ => true) held t v d p) (hs : ∀ n ∈ d.weights P t, n ≤ 140737488351232) : ∃ L, IsBytes W v L ∧ L.length ≤ 140737488351232 := by
  obtain ⟨a, len, cap, rfl⟩ := okWide_slice ht hv
  obtain ⟨fuel, hf⟩ := h
  rcases open_ints ht he hc hf with ⟨hcs, _⟩ | ⟨x, l, c, zs, hcs, _, hl, hm, hz, hx, hcell, hwz⟩
  · simp [Value.cells] at hcs
    obtain ⟨rfl, rfl, rfl⟩ := hcs
    exact ⟨[], IsBytes.nil W, by simp⟩
  · simp [Value.cells] at hcs
    obtain ⟨rfl, rfl, rfl⟩ := hcs
    have hlz : len ≤ zs.length := by rw [hz]; split <;> omega
    have e1 : (zs.take len).length = len := by simp; omega
    refine ⟨zs.take len, ⟨some x, cap, by rw [e1], by rw [e1]; exact hl, hm, (fun h => by cases h), ?_, ?_⟩, ?_⟩
    · intro n hn
      exact bounds_u8 (hwz n (List.mem_of_mem_take hn))
    · intro j hj
      rw [e1] at hj
      refine ⟨x, rfl, ?_⟩
      rw [hcell j (by omega)]
      simp [hj]
    · simp only [Prod.mk.injEq] at hx
      obtain ⟨rfl, -⟩ := hx
      have := hs _ (by simp only [DataW.weights, ht, List.mem_cons]; exact Or.inl rfl)
      rw [hby] at this
      simp [lits] at this
      rw [e1]
      omega

theorem open_rows_s {H : Type} {enc : TypeId × Value → H} {P : Program} {W : World} {r : Reach} {b0 t e q base : Nat} {held : Bool} {v : Value} {d : DataW H} {p : List MemPlace}
    (ht : P.underlying t = some (.slice e)) (he : P.underlying e = some (.slice q)) (hq : P.underlying q = some (.int .u8)) (ce : P.cellsOf e = 1) (cq : P.cellsOf q = 1) (hby : P.bytesOf q = 1) (hv : Value.okWide P W r b0 t v)
    (h : DataW.Trod enc P W base (fun _ => true) held t v d p) (hs : ∀ n ∈ d.weights P t, n ≤ 140737488351232) : ∃ R, IsRows W v R ∧ ∀ L ∈ R, L.length ≤ 140737488351232 := by
  obtain ⟨a, len, cap, rfl⟩ := okWide_slice ht hv
  obtain ⟨fuel, hf⟩ := h
  rcases open_int_rows ht he hq ce cq hf with ⟨hcs, _⟩ | ⟨x, l, c, A, L, C, Z, hcs, _, hl, hm, hx, hr⟩
  · simp [Value.cells] at hcs
    obtain ⟨rfl, rfl, rfl⟩ := hcs
    exact ⟨[], IsRows.nil W, by simp⟩
  · simp [Value.cells] at hcs
    obtain ⟨rfl, rfl, rfl⟩ := hcs
    have hL : ∀ j, j < len → ((Z j).take (L j)).length = L j := by
      intro j hj
      obtain ⟨h1, h2, h3, h4, h5, h6, h7⟩ := hr j (by omega)
      simp; omega
    refine ⟨(List.range len).map fun r => (Z r).take (L r), ⟨some x, cap, by simp, by simpa using hl, hm, (fun h => by cases h), fun j hj => ?_⟩, ?_⟩
    · have hj' : j < len := by simpa using hj
      obtain ⟨h1, h2, h3, h4, h5, h6, h7⟩ := hr j (by omega)
      refine ⟨x, _, rfl, h1, ?_⟩
      have eL : ((List.range len).map fun r => (Z r).take (L r))[j]?.getD [] = (Z j).take (L j) := by simp [hj']
      rw [eL]
      have e1 := hL j hj'
      refine ⟨A j, C j, by rw [e1], by rw [e1]; exact h2, h3, h6, fun n hn => bounds_u8 (h5 n (List.mem_of_mem_take hn)), fun k hk => ?_⟩
      rw [e1] at hk
      cases hA : A j with
      | none => have := h6 hA; omega
      | some a' =>
        refine ⟨a', rfl, ?_⟩
        rw [(h7 a' hA).2 k (by omega)]
        simp [hk]
    · intro M hM
      simp only [List.mem_map, List.mem_range] at hM
      obtain ⟨j, hj, rfl⟩ := hM
      obtain ⟨h1, h2, h3, h4, h5, h6, h7⟩ := hr j (by omega)
      rw [hL j hj]
      simp only [Prod.mk.injEq] at hx
      obtain ⟨rfl, -⟩ := hx
      cases hA : A j with
      | none => have := h6 hA; omega
      | some a' =>
        have hmem : intRow (H := H) .u8 (A j) (L j) (Z j) ∈ (List.range len).map fun r => intRow (H := H) .u8 (A r) (L r) (Z r) := List.mem_map.2 ⟨j, List.mem_range.2 hj, rfl⟩
        have hw := hs ((lits (H := H) .u8 ((Z j).take (L j))).length + (lits (H := H) .u8 ((Z j).drop (L j))).length) (by
          simp only [DataW.weights, ht, List.mem_cons, List.mem_append]
          refine Or.inr (Or.inl (weightsAll_mem hmem _ ?_))
          rw [hA]
          simp [intRow, DataW.weights, he, hby])
        simp [lits] at hw
        omega
end Go.Em

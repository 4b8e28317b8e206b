/- How an expression (api.Node), as a law's argument, is opened for its walk. -/
import Derived.Test.YtlniokcekjemdaaDoorFrame2
import Derived.Test.YtlniokcekjemdaaDoorProg
import Derived.Test.YtlniokcekjemdaaDoorNd
import Derived.KernelRfl
namespace Go.Proofs.YtlniokcekjemdaaDoor
open Go.ChangeShapes Go.WideShapes Go.ChangeAt Go.RowKit Go.Deep

theorem cells6 {w : World} {base : Nat} {a : Addr} {cs : List Value} (h : w.cells? base a 6 = some cs) : ∃ c0 c1 c2 c3 c4 c5, cs = [c0, c1, c2, c3, c4, c5] ∧ a.spot = none ∧ a.block < w.heap.size ∧
    w.cell? ⟨a.block, a.off, none⟩ = some c0 ∧ w.cell? ⟨a.block, a.off + 1, none⟩ = some c1 ∧ w.cell? ⟨a.block, a.off + 2, none⟩ = some c2 ∧ w.cell? ⟨a.block, a.off + 3, none⟩ = some c3 ∧ w.cell? ⟨a.block, a.off + 4, none⟩ = some c4 ∧ w.cell? ⟨a.block, a.off + 5, none⟩ = some c5 := by
  have hb := World.cells?_block h (by omega)
  obtain ⟨h1, h2, h3⟩ := World.cells?_some h
  match cs, h2 with
  | [c0, c1, c2, c3, c4, c5], _ =>
    obtain ⟨b, off, spot⟩ := a
    have g0 := h3 0 (by omega)
    have hs : spot = none := by simpa [Addr.add] using World.cell?_spot g0
    subst hs
    exact ⟨c0, c1, c2, c3, c4, c5, rfl, rfl, hb, by simpa [Addr.add] using g0, by simpa [Addr.add] using h3 1 (by omega), by simpa [Addr.add] using h3 2 (by omega), by simpa [Addr.add] using h3 3 (by omega), by simpa [Addr.add] using h3 4 (by omega), by simpa [Addr.add] using h3 5 (by omega)⟩

theorem bytesNode : Tryd.prog.bytesOf 24 = 88 := by kernel_rfl
theorem cellsNode : Tryd.prog.cellsOf 24 = 6 := by kernel_rfl
theorem cellsStr : Tryd.prog.cellsOf 9 = 1 := by kernel_rfl
theorem cellsI64 : Tryd.prog.cellsOf 2 = 1 := by kernel_rfl
theorem cellsInt : Tryd.prog.cellsOf 3 = 1 := by kernel_rfl
theorem cellsNodes : Tryd.prog.cellsOf 22 = 1 := by kernel_rfl

theorem open_txt {H : Type} {enc : TypeId × Value → H} {W : World} {base : Nat} {spare : Nat → Bool} {held : Bool} {fuel : Nat} {v : Value} {x : DataW H × List MemPlace}
    (h : DataW.trod enc Tryd.prog W base spare held fuel 9 [v] = some x) (hw : ∀ k ∈ x.1.weights Tryd.prog 9, k ≤ 140737488351232) : ∃ L, v = .string (Em.str L) ∧ Em5.Txt L := by
  obtain ⟨s, hs, rfl, -⟩ := DataW.trod_string Tryd.underlying9 h
  simp at hs
  subst hs
  obtain ⟨L, hL⟩ := Em.isStr_of s
  have := hw s.data.toList.length (by simp [DataW.weights])
  have hz := hL.size
  refine ⟨L, by rw [← hL.1], hL.2, ?_⟩
  rw [← hz]
  have e : s.data.toList.length = s.size := by rw [Array.length_toList]; rfl
  rw [← e]
  exact this

theorem open_i64 {H : Type} {enc : TypeId × Value → H} {W : World} {base : Nat} {spare : Nat → Bool} {held : Bool} {fuel t : Nat} {v : Value} {x : DataW H × List MemPlace} (ht : Tryd.prog.underlying t = some (.int .i64))
    (h : DataW.trod enc Tryd.prog W base spare held fuel t [v] = some x) : ∃ n, v = .int .i64 n ∧ Em5.I64 n := by
  obtain ⟨n, hs, -, hw⟩ := DataW.trod_int ht h
  simp at hs
  exact ⟨n, hs, bounds_i64 hw⟩

theorem open_nd_aux {H : Type} {enc : TypeId × Value → H} {W : World} {held : Bool} : ∀ (fuel : Nat) (cs : List Value) (x : DataW H × List MemPlace), DataW.trod enc Tryd.prog W 0 (fun _ => true) held fuel 24 cs = some x →
    (∀ k ∈ x.1.weights Tryd.prog 24, k ≤ 140737488351232) → ∃ t, Em5.IsNd W t (.agg cs.toArray) := by
  intro fuel
  induction fuel using Nat.strongRecOn with
  | ind fuel ih =>
    intro cs x h hw
    obtain ⟨xs, n, rfl, rfl, hl, hlen, hf⟩ := DataW.trod_struct Tryd.underlying24 h
    rw [cellsNode] at hl
    match cs, hl with
    | [v0, v1, v2, v3, v4, v5], _ =>
    match xs, hlen with
    | [y0, y1, y2, y3, y4, y5], _ =>
      have f0 := hf 0 _ rfl
      have f1 := hf 1 _ rfl
      have f2 := hf 2 _ rfl
      have f3 := hf 3 _ rfl
      have f4 := hf 4 _ rfl
      have f5 := hf 5 _ rfl
      simp [cellsStr, cellsI64, cellsInt, cellsNodes] at f0 f1 f2 f3 f4 f5
      have hws : ∀ k ∈ y0.1.weights Tryd.prog 9 ++ (y1.1.weights Tryd.prog 9 ++ (y2.1.weights Tryd.prog 9 ++ (y3.1.weights Tryd.prog 2 ++ (y4.1.weights Tryd.prog 3 ++ y5.1.weights Tryd.prog 22)))), k ≤ 140737488351232 := by
        intro k hk
        apply hw k
        simp only [List.map_cons, List.map_nil, DataW.weights, Tryd.underlying24, DataW.weightsEach]
        simpa using hk
      obtain ⟨op, rfl, h0⟩ := open_txt f0 (fun k hk => hws k (List.mem_append_left _ hk))
      obtain ⟨nm, rfl, h1⟩ := open_txt f1 (fun k hk => hws k (List.mem_append_right _ (List.mem_append_left _ hk)))
      obtain ⟨ar, rfl, h2⟩ := open_txt f2 (fun k hk => hws k (List.mem_append_right _ (List.mem_append_right _ (List.mem_append_left _ hk))))
      obtain ⟨m, rfl, h3⟩ := open_i64 Tryd.underlying2 f3
      obtain ⟨p, rfl, h4⟩ := open_i64 Tryd.underlying3 f4
      have hw5 : ∀ k ∈ y5.1.weights Tryd.prog 22, k ≤ 140737488351232 := fun k hk => hws k (List.mem_append_right _ (List.mem_append_right _ (List.mem_append_right _ (List.mem_append_right _ (List.mem_append_right _ hk)))))
      rcases DataW.trod_slice Tryd.underlying22 f5 with ⟨hcs, hx⟩ | ⟨a, len, cap, elems, rest, n', hn, hcs, rfl, -, hlc, hcm, hel, hcells, hsp, -⟩
      · simp at hcs
        subst hcs
        refine ⟨.mk op nm ar m p [], ?_⟩
        unfold Em5.IsNd
        exact ⟨none, 0, rfl, h0, h1, h2, h3, h4, by simp, by simp, by simp⟩
      · simp at hcs
        subst hcs
        have hcap : cap ≤ 140737488351232 := by
          have := hw5 _ (by simp only [DataW.weights, Tryd.underlying22, List.mem_cons]; exact Or.inl rfl)
          rw [bytesNode] at this
          have hr := (hsp rfl).1
          simp only [List.length_map] at this
          omega
        rw [cellsNode] at hcells
        have each : ∀ i, i < len → ∃ t c0 c1 c2 c3 c4 c5, a.spot = none ∧ a.block < W.heap.size ∧ W.cell? ⟨a.block, a.off + i * 6, none⟩ = some c0 ∧ W.cell? ⟨a.block, a.off + i * 6 + 1, none⟩ = some c1 ∧ W.cell? ⟨a.block, a.off + i * 6 + 2, none⟩ = some c2 ∧ W.cell? ⟨a.block, a.off + i * 6 + 3, none⟩ = some c3 ∧ W.cell? ⟨a.block, a.off + i * 6 + 4, none⟩ = some c4 ∧ W.cell? ⟨a.block, a.off + i * 6 + 5, none⟩ = some c5 ∧ Em5.IsNd W t (.agg #[c0, c1, c2, c3, c4, c5]) := by
          intro i hi
          have hc := hcells i hi
          rw [List.getElem?_eq_getElem (by omega)] at hc
          cases hcs : W.cells? 0 (a.add (i * 6)) 6 with
          | none => rw [hcs] at hc; simp at hc
          | some cs =>
            rw [hcs] at hc
            simp only [Option.bind_some] at hc
            obtain ⟨c0, c1, c2, c3, c4, c5, rfl, hspot, hblk, k0, k1, k2, k3, k4, k5⟩ := cells6 hcs
            have hwi : ∀ k ∈ (elems[i]'(by omega)).1.weights Tryd.prog 24, k ≤ 140737488351232 := fun k hk => hw5 k (by
              simp only [DataW.weights, Tryd.underlying22, List.mem_cons, List.mem_append]
              exact Or.inr (Or.inl (Em.weightsAll_mem (List.mem_map.2 ⟨_, List.getElem_mem (by omega), rfl⟩) k hk)))
            obtain ⟨t, ht⟩ := ih n' (by omega) _ _ hc hwi
            obtain ⟨ab, ao, asp⟩ := a
            by_cases hi0 : i = 0
            · subst hi0
              simp [Addr.add] at hspot hblk k0 k1 k2 k3 k4 k5
              exact ⟨t, c0, c1, c2, c3, c4, c5, hspot, hblk, by simpa using k0, by simpa using k1, by simpa using k2, by simpa using k3, by simpa using k4, by simpa using k5, ht⟩
            · have hz := hcells 0 (by omega)
              rw [List.getElem?_eq_getElem (by omega)] at hz
              cases hcz : W.cells? 0 ((⟨ab, ao, asp⟩ : Addr).add (0 * 6)) 6 with
              | none => rw [hcz] at hz; simp at hz
              | some cs0 =>
                obtain ⟨-, -, -, -, -, -, -, hspot0, -⟩ := cells6 hcz
                simp [Addr.add] at hspot0
                have hi6 : ¬ i * 6 = 0 := by omega
                simp only [Addr.add, hi6, if_false] at hblk k0 k1 k2 k3 k4 k5
                exact ⟨t, c0, c1, c2, c3, c4, c5, hspot0, hblk, k0, k1, k2, k3, k4, k5, ht⟩
        by_cases hl0 : len = 0
        · subst hl0
          refine ⟨.mk op nm ar m p [], ?_⟩
          unfold Em5.IsNd
          exact ⟨some a, cap, rfl, h0, h1, h2, h3, h4, by simp, hcap, by simp⟩
        · obtain ⟨t0, -, -, -, -, -, -, hsp0, hblk0, -⟩ := each 0 (by omega)
          have hex : ∃ f : Nat → Em5.Nd, ∀ i, i < len → ∃ c0 c1 c2 c3 c4 c5, W.cell? ⟨a.block, a.off + i * 6, none⟩ = some c0 ∧ W.cell? ⟨a.block, a.off + i * 6 + 1, none⟩ = some c1 ∧ W.cell? ⟨a.block, a.off + i * 6 + 2, none⟩ = some c2 ∧ W.cell? ⟨a.block, a.off + i * 6 + 3, none⟩ = some c3 ∧ W.cell? ⟨a.block, a.off + i * 6 + 4, none⟩ = some c4 ∧ W.cell? ⟨a.block, a.off + i * 6 + 5, none⟩ = some c5 ∧ Em5.IsNd W (f i) (.agg #[c0, c1, c2, c3, c4, c5]) := by
            refine ⟨fun i => if hi : i < len then (each i hi).choose else t0, fun i hi => ?_⟩
            simp only [hi, dif_pos]
            obtain ⟨c0, c1, c2, c3, c4, c5, -, -, hrest⟩ := (each i hi).choose_spec
            exact ⟨c0, c1, c2, c3, c4, c5, hrest⟩
          obtain ⟨f, hfx⟩ := hex
          refine ⟨.mk op nm ar m p ((List.range len).map f), ?_⟩
          unfold Em5.IsNd
          refine ⟨some a, cap, by simp, h0, h1, h2, h3, h4, by simpa using hlc, hcap, fun _ => ⟨a.block, a.off, ?_, hblk0, Em5.kidsAt_mk _ _ fun j t hj => ?_⟩⟩
          · obtain ⟨ab, ao, asp⟩ := a
            simp at hsp0
            rw [hsp0]
          · have hjl : j < len := by
              have := (List.getElem?_eq_some_iff.1 hj).1
              simpa using this
            simp [hjl] at hj
            subst hj
            exact hfx j hjl

theorem open_nd {H : Type} {enc : TypeId × Value → H} {W : World} {r : Reach} {b0 : Nat} {held : Bool} {v : Value} {d : DataW H} {p : List MemPlace}
    (hv : Value.okWide Tryd.prog W r b0 24 v) (h : DataW.Trod enc Tryd.prog W 0 (fun _ => true) held 24 v d p) (hs : ∀ n ∈ d.weights Tryd.prog 24, n ≤ 140737488351232) : ∃ T, Em5.IsNd W T v := by
  obtain ⟨cs, rfl, -⟩ := okWide_struct Tryd.underlying24 hv
  obtain ⟨fuel, hf⟩ := h
  obtain ⟨t, ht⟩ := open_nd_aux fuel _ _ hf hs
  exact ⟨t, by simpa [Value.cells] using ht⟩
end Go.Proofs.YtlniokcekjemdaaDoor

/- How a type (api.Type), as a law's argument, is opened for its walk. -/
import Derived.Test.YtbiihiibebdjgaaFrame2
import Derived.Test.YtbiihiibebdjgaaProg
import Derived.Test.YtbiihiibebdjgaaTy
import Derived.KernelRfl
namespace Go.Proofs.Ytbiihiibebdjgaa
open Go.ChangeShapes Go.WideShapes Go.ChangeAt Go.RowKit Go.Deep

theorem tcells3 {w : World} {base : Nat} {a : Addr} {cs : List Value} (h : w.cells? base a 3 = some cs) : ∃ c0 c1 c2, cs = [c0, c1, c2] ∧ a.spot = none ∧ a.block < w.heap.size ∧
    w.cell? ⟨a.block, a.off, none⟩ = some c0 ∧ w.cell? ⟨a.block, a.off + 1, none⟩ = some c1 ∧ w.cell? ⟨a.block, a.off + 2, none⟩ = some c2 := by
  have hb := World.cells?_block h (by omega)
  obtain ⟨h1, h2, h3⟩ := World.cells?_some h
  match cs, h2 with
  | [c0, c1, c2], _ =>
    obtain ⟨b, off, spot⟩ := a
    have g0 := h3 0 (by omega)
    have hs : spot = none := by simpa [Addr.add] using World.cell?_spot g0
    subst hs
    exact ⟨c0, c1, c2, rfl, rfl, hb, by simpa [Addr.add] using g0, by simpa [Addr.add] using h3 1 (by omega), by simpa [Addr.add] using h3 2 (by omega)⟩

theorem bytesType : Try.prog.bytesOf 25 = 48 := by kernel_rfl
theorem cellsType : Try.prog.cellsOf 25 = 3 := by kernel_rfl
theorem tcellsStr : Try.prog.cellsOf 9 = 1 := by kernel_rfl
theorem tcellsInt : Try.prog.cellsOf 3 = 1 := by kernel_rfl
theorem cellsTypes : Try.prog.cellsOf 23 = 1 := by kernel_rfl

theorem topen_txt {H : Type} {enc : TypeId × Value → H} {W : World} {base : Nat} {spare : Nat → Bool} {held : Bool} {fuel : Nat} {v : Value} {x : DataW H × List MemPlace}
    (h : DataW.trod enc Try.prog W base spare held fuel 9 [v] = some x) (hw : ∀ k ∈ x.1.weights Try.prog 9, k ≤ 140737488351232) : ∃ L, v = .string (Em.str L) ∧ Em5.Txt L := by
  obtain ⟨s, hs, rfl, -⟩ := DataW.trod_string Try.underlying9 h
  simp at hs
  subst hs
  obtain ⟨L, hL⟩ := Em.isStr_of s
  have := hw s.data.toList.length (by simp [DataW.weights])
  have hz := hL.size
  refine ⟨L, by rw [← hL.1], hL.2, ?_⟩
  rw [← hz]
  have e : s.data.toList.length = s.size := by rw [Array.length_toList]; rfl
  rw [← e]
  exact this

theorem topen_i64 {H : Type} {enc : TypeId × Value → H} {W : World} {base : Nat} {spare : Nat → Bool} {held : Bool} {fuel t : Nat} {v : Value} {x : DataW H × List MemPlace} (ht : Try.prog.underlying t = some (.int .i64))
    (h : DataW.trod enc Try.prog W base spare held fuel t [v] = some x) : ∃ n, v = .int .i64 n ∧ Em5.I64 n := by
  obtain ⟨n, hs, -, hw⟩ := DataW.trod_int ht h
  simp at hs
  exact ⟨n, hs, bounds_i64 hw⟩

theorem open_ty_aux {H : Type} {enc : TypeId × Value → H} {W : World} {held : Bool} : ∀ (fuel : Nat) (cs : List Value) (x : DataW H × List MemPlace), DataW.trod enc Try.prog W 0 (fun _ => true) held fuel 25 cs = some x →
    (∀ k ∈ x.1.weights Try.prog 25, k ≤ 140737488351232) → ∃ t, Em8.IsTy W t (.agg cs.toArray) := by
  intro fuel
  induction fuel using Nat.strongRecOn with
  | ind fuel ih =>
    intro cs x h hw
    obtain ⟨xs, n, rfl, rfl, hl, hlen, hf⟩ := DataW.trod_struct Try.underlying25 h
    rw [cellsType] at hl
    match cs, hl with
    | [v0, v1, v2], _ =>
    match xs, hlen with
    | [y0, y1, y2], _ =>
      have f0 := hf 0 _ rfl
      have f1 := hf 1 _ rfl
      have f2 := hf 2 _ rfl
      simp [tcellsStr, tcellsInt, cellsTypes] at f0 f1 f2
      have hws : ∀ k ∈ y0.1.weights Try.prog 9 ++ (y1.1.weights Try.prog 3 ++ y2.1.weights Try.prog 23), k ≤ 140737488351232 := by
        intro k hk
        apply hw k
        simp only [List.map_cons, List.map_nil, DataW.weights, Try.underlying25, DataW.weightsEach]
        simpa using hk
      obtain ⟨op, rfl, h0⟩ := topen_txt f0 (fun k hk => hws k (List.mem_append_left _ hk))
      obtain ⟨m, rfl, h3⟩ := topen_i64 Try.underlying3 f1
      have hw5 : ∀ k ∈ y2.1.weights Try.prog 23, k ≤ 140737488351232 := fun k hk => hws k (List.mem_append_right _ (List.mem_append_right _ hk))
      rcases DataW.trod_slice Try.underlying23 f2 with ⟨hcs, hx⟩ | ⟨a, len, cap, elems, rest, n', hn, hcs, rfl, -, hlc, hcm, hel, hcells, hsp, -⟩
      · simp at hcs
        subst hcs
        refine ⟨.mk op m [], ?_⟩
        unfold Em8.IsTy
        exact ⟨none, 0, rfl, h0, h3, by simp, by simp, by simp⟩
      · simp at hcs
        subst hcs
        have hcap : cap ≤ 9223372036854775807 := by
          have := hw5 _ (by simp only [DataW.weights, Try.underlying23, List.mem_cons]; exact Or.inl rfl)
          rw [bytesType] at this
          have hr := (hsp rfl).1
          simp only [List.length_map] at this
          omega
        rw [cellsType] at hcells
        have each : ∀ i, i < len → ∃ t c0 c1 c2, a.spot = none ∧ a.block < W.heap.size ∧ W.cell? ⟨a.block, a.off + i * 3, none⟩ = some c0 ∧ W.cell? ⟨a.block, a.off + i * 3 + 1, none⟩ = some c1 ∧ W.cell? ⟨a.block, a.off + i * 3 + 2, none⟩ = some c2 ∧ Em8.IsTy W t (.agg #[c0, c1, c2]) := by
          intro i hi
          have hc := hcells i hi
          rw [List.getElem?_eq_getElem (by omega)] at hc
          cases hcs : W.cells? 0 (a.add (i * 3)) 3 with
          | none => rw [hcs] at hc; simp at hc
          | some cs =>
            rw [hcs] at hc
            simp only [Option.bind_some] at hc
            obtain ⟨c0, c1, c2, rfl, hspot, hblk, k0, k1, k2⟩ := tcells3 hcs
            have hwi : ∀ k ∈ (elems[i]'(by omega)).1.weights Try.prog 25, k ≤ 140737488351232 := fun k hk => hw5 k (by
              simp only [DataW.weights, Try.underlying23, List.mem_cons, List.mem_append]
              exact Or.inr (Or.inl (Em.weightsAll_mem (List.mem_map.2 ⟨_, List.getElem_mem (by omega), rfl⟩) k hk)))
            obtain ⟨t, ht⟩ := ih n' (by omega) _ _ hc hwi
            obtain ⟨ab, ao, asp⟩ := a
            by_cases hi0 : i = 0
            · subst hi0
              simp [Addr.add] at hspot hblk k0 k1 k2
              exact ⟨t, c0, c1, c2, hspot, hblk, by simpa using k0, by simpa using k1, by simpa using k2, ht⟩
            · have hz := hcells 0 (by omega)
              rw [List.getElem?_eq_getElem (by omega)] at hz
              cases hcz : W.cells? 0 ((⟨ab, ao, asp⟩ : Addr).add (0 * 3)) 3 with
              | none => rw [hcz] at hz; simp at hz
              | some cs0 =>
                obtain ⟨-, -, -, -, hspot0, -⟩ := tcells3 hcz
                simp [Addr.add] at hspot0
                have hi6 : ¬ i * 3 = 0 := by omega
                simp only [Addr.add, hi6, if_false] at hblk k0 k1 k2
                exact ⟨t, c0, c1, c2, hspot0, hblk, k0, k1, k2, ht⟩
        by_cases hl0 : len = 0
        · subst hl0
          refine ⟨.mk op m [], ?_⟩
          unfold Em8.IsTy
          exact ⟨some a, cap, rfl, h0, h3, by simp, hcap, by simp⟩
        · obtain ⟨t0, -, -, -, hsp0, hblk0, -⟩ := each 0 (by omega)
          have hex : ∃ f : Nat → Em8.Ty, ∀ i, i < len → ∃ c0 c1 c2, W.cell? ⟨a.block, a.off + i * 3, none⟩ = some c0 ∧ W.cell? ⟨a.block, a.off + i * 3 + 1, none⟩ = some c1 ∧ W.cell? ⟨a.block, a.off + i * 3 + 2, none⟩ = some c2 ∧ Em8.IsTy W (f i) (.agg #[c0, c1, c2]) := by
            refine ⟨fun i => if hi : i < len then (each i hi).choose else t0, fun i hi => ?_⟩
            simp only [hi, dif_pos]
            obtain ⟨c0, c1, c2, -, -, hrest⟩ := (each i hi).choose_spec
            exact ⟨c0, c1, c2, hrest⟩
          obtain ⟨f, hfx⟩ := hex
          refine ⟨.mk op m ((List.range len).map f), ?_⟩
          unfold Em8.IsTy
          refine ⟨some a, cap, by simp, h0, h3, by simpa using hlc, hcap, fun _ => ⟨a.block, a.off, ?_, hblk0, Em8.tysAt_mk _ _ fun j t hj => ?_⟩⟩
          · obtain ⟨ab, ao, asp⟩ := a
            simp at hsp0
            rw [hsp0]
          · have hjl : j < len := by
              have := (List.getElem?_eq_some_iff.1 hj).1
              simpa using this
            simp [hjl] at hj
            subst hj
            exact hfx j hjl

theorem open_ty {H : Type} {enc : TypeId × Value → H} {W : World} {r : Reach} {b0 : Nat} {held : Bool} {v : Value} {d : DataW H} {p : List MemPlace}
    (hv : Value.okWide Try.prog W r b0 25 v) (h : DataW.Trod enc Try.prog W 0 (fun _ => true) held 25 v d p) (hs : ∀ n ∈ d.weights Try.prog 25, n ≤ 140737488351232) : ∃ T, Em8.IsTy W T v := by
  obtain ⟨cs, rfl, -⟩ := okWide_struct Try.underlying25 hv
  obtain ⟨fuel, hf⟩ := h
  obtain ⟨t, ht⟩ := open_ty_aux fuel _ _ hf hs
  exact ⟨t, by simpa [Value.cells] using ht⟩
end Go.Proofs.Ytbiihiibebdjgaa

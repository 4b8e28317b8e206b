/- A slice of an env's bounds (api.Bound) in memory; how it, and one bound, as a law's argument, is opened for its walk. -/
import Derived.Test.YtbiihiibebdjgaaFrameT
import Derived.Test.YtbiihiibebdjgaaInts
namespace Go.Proofs.Ytbiihiibebdjgaa
open Go.ChangeShapes Go.WideShapes Go.ChangeAt Go.RowKit Go.Deep

/-- A name with its scheme. -/
structure Bd where
  nm : List Int
  vs : List Int
  ty : Em8.Ty
/-- The five cells of a bound. -/
def IsBd (w : World) (x : Bd) (c0 c1 c2 c3 c4 : Value) : Prop := c0 = .string (Em.str x.nm) ∧ Em5.Txt x.nm ∧ IsInts w c1 x.vs ∧ Em8.IsTy w x.ty (.agg #[c2, c3, c4])
theorem IsBd.below {w w' : World} {x : Bd} {c0 c1 c2 c3 c4 : Value} (h : IsBd w x c0 c1 c2 c3 c4) (hb : Below w.heap.size w w') : IsBd w' x c0 c1 c2 c3 c4 := ⟨h.1, h.2.1, h.2.2.1.below hb, Em8.isTy_below hb _ _ h.2.2.2⟩
/-- A slice of bounds. -/
def IsBds (w : World) (v : Value) (l : List Bd) : Prop :=
  ∃ a cap, v = .slice a l.length cap ∧ l.length ≤ cap ∧ cap ≤ 9223372036854775807 ∧ (0 < l.length → ∃ b off, a = some ⟨b, off, none⟩ ∧ b < w.heap.size ∧ ∀ (j : Nat) (x : Bd), l[j]? = some x →
    ∃ c0 c1 c2 c3 c4, w.cell? ⟨b, off + j * 5, none⟩ = some c0 ∧ w.cell? ⟨b, off + j * 5 + 1, none⟩ = some c1 ∧ w.cell? ⟨b, off + j * 5 + 2, none⟩ = some c2 ∧ w.cell? ⟨b, off + j * 5 + 3, none⟩ = some c3 ∧ w.cell? ⟨b, off + j * 5 + 4, none⟩ = some c4 ∧ IsBd w x c0 c1 c2 c3 c4)
theorem IsBds.nil (w : World) : IsBds w (.slice none 0 0) [] := ⟨none, 0, rfl, by simp, by simp, by simp⟩
theorem IsBds.below {w w' : World} {v : Value} {l : List Bd} (h : IsBds w v l) (hb : Below w.heap.size w w') : IsBds w' v l := by
  obtain ⟨a, cap, e, h1, h2, h3⟩ := h
  refine ⟨a, cap, e, h1, h2, fun hp => ?_⟩
  obtain ⟨b, off, e1, hl, hk⟩ := h3 hp
  refine ⟨b, off, e1, Nat.lt_of_lt_of_le hl hb.size, fun j p hj => ?_⟩
  obtain ⟨c0, c1, c2, c3, c4, k0, k1, k2, k3, k4, g⟩ := hk j p hj
  have key : ∀ o, w'.cell? ⟨b, o, none⟩ = w.cell? ⟨b, o, none⟩ := fun o => hb.cell (p := ⟨b, o, none⟩) hl
  exact ⟨c0, c1, c2, c3, c4, by rw [key]; exact k0, by rw [key]; exact k1, by rw [key]; exact k2, by rw [key]; exact k3, by rw [key]; exact k4, g.below hb⟩

theorem tcells5 {w : World} {base : Nat} {a : Addr} {cs : List Value} (h : w.cells? base a 5 = some cs) : ∃ c0 c1 c2 c3 c4, cs = [c0, c1, c2, c3, c4] ∧ a.spot = none ∧ a.block < w.heap.size ∧
    w.cell? ⟨a.block, a.off, none⟩ = some c0 ∧ w.cell? ⟨a.block, a.off + 1, none⟩ = some c1 ∧ w.cell? ⟨a.block, a.off + 2, none⟩ = some c2 ∧ w.cell? ⟨a.block, a.off + 3, none⟩ = some c3 ∧ w.cell? ⟨a.block, a.off + 4, none⟩ = some c4 := by
  have hb := World.cells?_block h (by omega)
  obtain ⟨h1, h2, h3⟩ := World.cells?_some h
  match cs, h2 with
  | [c0, c1, c2, c3, c4], _ =>
    obtain ⟨b, off, spot⟩ := a
    have g0 := h3 0 (by omega)
    have hs : spot = none := by simpa [Addr.add] using World.cell?_spot g0
    subst hs
    exact ⟨c0, c1, c2, c3, c4, rfl, rfl, hb, by simpa [Addr.add] using g0, by simpa [Addr.add] using h3 1 (by omega), by simpa [Addr.add] using h3 2 (by omega), by simpa [Addr.add] using h3 3 (by omega), by simpa [Addr.add] using h3 4 (by omega)⟩
theorem cellsBd : Try.prog.cellsOf 41 = 5 := by kernel_rfl
theorem cellsScheme : Try.prog.cellsOf 31 = 4 := by kernel_rfl
theorem cellsInts : Try.prog.cellsOf 29 = 1 := by kernel_rfl
theorem open_ints_aux {H : Type} {enc : TypeId × Value → H} {W : World} {held : Bool} (fuel : Nat) (c : Value) (x : DataW H × List MemPlace) (h : DataW.trod enc Try.prog W 0 (fun _ => true) held fuel 29 [c] = some x) : ∃ l, IsInts W c l := by
  rcases open_ints Try.underlying29 Try.underlying3 (by kernel_rfl) h with ⟨hcs, _⟩ | ⟨a, len, cap, zs, hcs, _, hl, hm, hz, hx, hcell, hwz⟩
  · simp at hcs; subst hcs
    exact ⟨[], none, 0, rfl, by simp, by simp [maxLen], by simp, by simp⟩
  · simp at hcs; subst hcs
    have hlz : len ≤ zs.length := by rw [hz]; split <;> omega
    have e1 : (zs.take len).length = len := by simp; omega
    refine ⟨zs.take len, some a, cap, by rw [e1], by rw [e1]; exact hl, hm, fun n hn => bounds_i64 (hwz n (List.mem_of_mem_take hn)), fun j t hj => ⟨a, rfl, ?_⟩⟩
    have hjl : j < len := by have := (List.getElem?_eq_some_iff.1 hj).1; omega
    rw [hcell j (by omega)]
    rw [List.getElem?_take, if_pos hjl] at hj
    simp [List.getD_eq_getElem?_getD, hj]
theorem open_bd_aux {H : Type} {enc : TypeId × Value → H} {W : World} {held : Bool} (fuel : Nat) (c0 c1 c2 c3 c4 : Value) (x : DataW H × List MemPlace) (h : DataW.trod enc Try.prog W 0 (fun _ => true) held fuel 41 [c0, c1, c2, c3, c4] = some x)
    (hw : ∀ k ∈ x.1.weights Try.prog 41, k ≤ 140737488351232) : ∃ p : Bd, IsBd W p c0 c1 c2 c3 c4 := by
  obtain ⟨xs, n, rfl, rfl, hl, hlen, hf⟩ := DataW.trod_struct Try.underlying41 h
  match xs, hlen with
  | [y0, y1], _ =>
    have f0 := hf 0 _ rfl
    have f1 := hf 1 _ rfl
    simp [tcellsStr, cellsScheme] at f0 f1
    have hws : ∀ k ∈ y0.1.weights Try.prog 9 ++ y1.1.weights Try.prog 31, k ≤ 140737488351232 := by
      intro k hk
      apply hw k
      simp only [List.map_cons, List.map_nil, DataW.weights, Try.underlying41, DataW.weightsEach]
      simpa using hk
    obtain ⟨nm, rfl, h0⟩ := topen_txt f0 (fun k hk => hws k (List.mem_append_left _ hk))
    obtain ⟨zs, m, hn, hy, hl2, hlen2, hf2⟩ := DataW.trod_struct Try.underlying31 f1
    subst hn
    match zs, hlen2 with
    | [z0, z1], _ =>
      have g0 := hf2 0 _ rfl
      have g1 := hf2 1 _ rfl
      simp [cellsInts, cellsType] at g0 g1
      obtain ⟨vs, hvs⟩ := open_ints_aux _ _ _ g0
      obtain ⟨t, ht⟩ := open_ty_aux m _ _ g1 (fun k hk => hws k (List.mem_append_right _ (by
        rw [hy]
        simp only [List.map_cons, List.map_nil, DataW.weights, Try.underlying31, DataW.weightsEach]
        simp only [List.mem_append]
        exact .inr (by simpa using hk))))
      exact ⟨⟨nm, vs, t⟩, rfl, h0, hvs, ht⟩

theorem open_bds {H : Type} {enc : TypeId × Value → H} {W : World} {r : Reach} {b0 : Nat} {held : Bool} {v : Value} {d : DataW H} {p : List MemPlace}
    (hv : Value.okWide Try.prog W r b0 22 v) (h : DataW.Trod enc Try.prog W 0 (fun _ => true) held 22 v d p) (hs : ∀ n ∈ d.weights Try.prog 22, n ≤ 140737488351232) : ∃ l, IsBds W v l := by
  obtain ⟨a0, len0, cap0, rfl⟩ := okWide_slice Try.underlying22 hv
  obtain ⟨fuel, f2⟩ := h
  rcases DataW.trod_slice Try.underlying22 f2 with ⟨hcs, hx⟩ | ⟨a, len, cap, elems, rest, n', hn, hcs, hd, -, hlc, hcm, hel, hcells, hsp, -⟩
  · simp [Value.cells] at hcs
    obtain ⟨rfl, rfl, rfl⟩ := hcs
    exact ⟨[], IsBds.nil W⟩
  · simp [Value.cells] at hcs
    obtain ⟨rfl, rfl, rfl⟩ := hcs
    have hcap : cap0 ≤ 9223372036854775807 := by unfold maxLen at hcm; omega
    rw [cellsBd] at hcells
    have hd1 : d = DataW.slice (elems.map (·.1)) (rest.map (·.1)) := congrArg Prod.fst hd
    subst hd1
    have each : ∀ i, i < len0 → ∃ (t : Bd) (c0 c1 c2 c3 c4 : Value), a.spot = none ∧ a.block < W.heap.size ∧ W.cell? ⟨a.block, a.off + i * 5, none⟩ = some c0 ∧ W.cell? ⟨a.block, a.off + i * 5 + 1, none⟩ = some c1 ∧ W.cell? ⟨a.block, a.off + i * 5 + 2, none⟩ = some c2 ∧ W.cell? ⟨a.block, a.off + i * 5 + 3, none⟩ = some c3 ∧ W.cell? ⟨a.block, a.off + i * 5 + 4, none⟩ = some c4 ∧ IsBd W t c0 c1 c2 c3 c4 := by
      intro i hi
      have hc := hcells i hi
      rw [List.getElem?_eq_getElem (by omega)] at hc
      cases hcs : W.cells? 0 (a.add (i * 5)) 5 with
      | none => rw [hcs] at hc; simp at hc
      | some cs =>
        rw [hcs] at hc
        simp only [Option.bind_some] at hc
        obtain ⟨c0, c1, c2, c3, c4, rfl, hspot, hblk, k0, k1, k2, k3, k4⟩ := tcells5 hcs
        have hwi : ∀ k ∈ (elems[i]'(by omega)).1.weights Try.prog 41, k ≤ 140737488351232 := fun k hk => hs k (by
          simp only [DataW.weights, Try.underlying22, List.mem_cons, List.mem_append]
          exact Or.inr (Or.inl (Em.weightsAll_mem (List.mem_map.2 ⟨_, List.getElem_mem (by omega), rfl⟩) k hk)))
        obtain ⟨t, ht⟩ := open_bd_aux n' _ _ _ _ _ _ hc hwi
        obtain ⟨ab, ao, asp⟩ := a
        by_cases hi0 : i = 0
        · subst hi0
          simp [Addr.add] at hspot hblk k0 k1 k2 k3 k4
          exact ⟨t, c0, c1, c2, c3, c4, hspot, hblk, by simpa using k0, by simpa using k1, by simpa using k2, by simpa using k3, by simpa using k4, ht⟩
        · have hz := hcells 0 (by omega)
          rw [List.getElem?_eq_getElem (by omega)] at hz
          cases hcz : W.cells? 0 ((⟨ab, ao, asp⟩ : Addr).add (0 * 5)) 5 with
          | none => rw [hcz] at hz; simp at hz
          | some cs0 =>
            obtain ⟨-, -, -, -, -, -, hspot0, -⟩ := tcells5 hcz
            simp [Addr.add] at hspot0
            have hi6 : ¬ i * 5 = 0 := by omega
            simp only [Addr.add, hi6, if_false] at hblk k0 k1 k2 k3 k4
            exact ⟨t, c0, c1, c2, c3, c4, hspot0, hblk, k0, k1, k2, k3, k4, ht⟩
    by_cases hl0 : len0 = 0
    · subst hl0
      exact ⟨[], some a, cap0, rfl, by simp, hcap, by simp⟩
    · obtain ⟨t0, -, -, -, -, -, hsp0, hblk0, -⟩ := each 0 (by omega)
      have hex : ∃ f : Nat → Bd, ∀ i, i < len0 → ∃ c0 c1 c2 c3 c4, W.cell? ⟨a.block, a.off + i * 5, none⟩ = some c0 ∧ W.cell? ⟨a.block, a.off + i * 5 + 1, none⟩ = some c1 ∧ W.cell? ⟨a.block, a.off + i * 5 + 2, none⟩ = some c2 ∧ W.cell? ⟨a.block, a.off + i * 5 + 3, none⟩ = some c3 ∧ W.cell? ⟨a.block, a.off + i * 5 + 4, none⟩ = some c4 ∧ IsBd W (f i) c0 c1 c2 c3 c4 := by
        refine ⟨fun i => if hi : i < len0 then (each i hi).choose else t0, fun i hi => ?_⟩
        simp only [hi, dif_pos]
        obtain ⟨c0, c1, c2, c3, c4, -, -, hrest⟩ := (each i hi).choose_spec
        exact ⟨c0, c1, c2, c3, c4, hrest⟩
      obtain ⟨f, hfx⟩ := hex
      refine ⟨(List.range len0).map f, some a, cap0, by simp, by simpa using hlc, hcap, fun _ => ⟨a.block, a.off, ?_, hblk0, fun j t hj => ?_⟩⟩
      · obtain ⟨ab, ao, asp⟩ := a
        simp at hsp0
        rw [hsp0]
      · have hjl : j < len0 := by
          have := (List.getElem?_eq_some_iff.1 hj).1
          simpa using this
        simp [hjl] at hj
        subst hj
        exact hfx j hjl
/-- A bound as a value. -/
def IsBdV (w : World) (v : Value) (x : Bd) : Prop := ∃ c0 c1 c2 c3 c4, v = .agg #[c0, c1, c2, c3, c4] ∧ IsBd w x c0 c1 c2 c3 c4
theorem open_bd {H : Type} {enc : TypeId × Value → H} {W : World} {r : Reach} {b0 : Nat} {held : Bool} {v : Value} {d : DataW H} {p : List MemPlace}
    (hv : Value.okWide Try.prog W r b0 41 v) (h : DataW.Trod enc Try.prog W 0 (fun _ => true) held 41 v d p) (hs : ∀ n ∈ d.weights Try.prog 41, n ≤ 140737488351232) : ∃ x, IsBdV W v x := by
  obtain ⟨cs, rfl, hlen⟩ := okWide_struct Try.underlying41 hv
  obtain ⟨fuel, hf⟩ := h
  have hsz : cs.size = 5 := by
    rw [cellsBd] at hlen
    exact hlen
  obtain ⟨l⟩ := cs
  match l, hsz with
  | [c0, c1, c2, c3, c4], _ =>
    obtain ⟨x, hx⟩ := open_bd_aux fuel c0 c1 c2 c3 c4 _ (by simpa [Value.cells] using hf) hs
    exact ⟨x, c0, c1, c2, c3, c4, rfl, hx⟩
theorem open_txt {H : Type} {enc : TypeId × Value → H} {W : World} {r : Reach} {b0 : Nat} {held : Bool} {v : Value} {d : DataW H} {p : List MemPlace}
    (hv : Value.okWide Try.prog W r b0 9 v) (h : DataW.Trod enc Try.prog W 0 (fun _ => true) held 9 v d p) (hs : ∀ n ∈ d.weights Try.prog 9, n ≤ 140737488351232) : ∃ L, v = .string (Em.str L) ∧ Em5.Txt L := by
  obtain ⟨s, rfl, -, -, -⟩ := ChangeMaps.open_string Try.underlying9 hv h
  obtain ⟨fuel, hf⟩ := h
  exact topen_txt (by simpa [Value.cells] using hf) hs
end Go.Proofs.Ytbiihiibebdjgaa

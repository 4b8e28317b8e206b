/- Several texts in one: Frame, Rows2, Frame2, FrameT, FrameP, FramePr. -/
import Derived.Test.YtadhjnbhcenocaaBytes
import Derived.ProofKit
import Derived.OpenShut
import Derived.ShutString
import Derived.ChangeOld
import Derived.Deep.Matrix
import Derived.SizedLaws
import Derived.Test.YtadhjnbhcenocaaProg
import Derived.Test.YtadhjnbhcenocaaTy
import Derived.KernelRfl
import Derived.Test.YtadhjnbhcenocaaTyApp
namespace Go.Em
open Go.ChangeShapes Go.WideShapes Go.ChangeAt Go.RowKit

theorem open_int {H : Type} {enc : TypeId × Value → H} {P : Program} {W : World} {r : Reach} {b0 t base : Nat} {spare : Nat → Bool} {held : Bool} {k : IntKind} {v : Value} {d : DataW H} {p : List MemPlace}
    (ht : P.underlying t = some (.int k)) (hv : Value.okWide P W r b0 t v) (h : DataW.Trod enc P W base spare held t v d p) : ∃ n, v = .int k n ∧ (Lit.int k n).wf = true := by
  obtain ⟨n, rfl, -, -, hw⟩ := ChangeShapes.open_int ht hv h
  exact ⟨n, rfl, hw⟩

theorem open_bool {H : Type} {enc : TypeId × Value → H} {P : Program} {W : World} {r : Reach} {b0 t base : Nat} {spare : Nat → Bool} {held : Bool} {v : Value} {d : DataW H} {p : List MemPlace}
    (ht : P.underlying t = some .bool) (hv : Value.okWide P W r b0 t v) (h : DataW.Trod enc P W base spare held t v d p) : ∃ b, v = .bool b := by
  obtain ⟨b, rfl, -, -⟩ := RowKit.open_bool ht hv h
  exact ⟨b, rfl⟩

theorem open_str {H : Type} {enc : TypeId × Value → H} {P : Program} {W : World} {r : Reach} {b0 t base : Nat} {spare : Nat → Bool} {held : Bool} {v : Value} {d : DataW H} {p : List MemPlace}
    (ht : P.underlying t = some .string) (hv : Value.okWide P W r b0 t v) (h : DataW.Trod enc P W base spare held t v d p) : ∃ s, v = .string s ∧ s.size ≤ maxLen := by
  obtain ⟨s, rfl, -, -, hs⟩ := ChangeMaps.open_string ht hv h
  exact ⟨s, rfl, hs⟩

theorem open_bytes {H : Type} {enc : TypeId × Value → H} {P : Program} {W : World} {r : Reach} {b0 t e base : Nat} {spare : Nat → Bool} {held : Bool} {v : Value} {d : DataW H} {p : List MemPlace}
    (ht : P.underlying t = some (.slice e)) (he : P.underlying e = some (.int .u8)) (hc : P.cellsOf e = 1) (hv : Value.okWide P W r b0 t v)
    (h : DataW.Trod enc P W base spare held t v d p) : ∃ L, IsBytes W v L := by
  obtain ⟨a, len, cap, rfl⟩ := okWide_slice ht hv
  obtain ⟨fuel, hf⟩ := h
  rcases open_ints ht he hc hf with ⟨hcs, _⟩ | ⟨x, l, c, zs, hcs, _, hl, hm, hz, _, hcell, hwz⟩
  · simp [Value.cells] at hcs
    obtain ⟨rfl, rfl, rfl⟩ := hcs
    exact ⟨[], IsBytes.nil W⟩
  · simp [Value.cells] at hcs
    obtain ⟨rfl, rfl, rfl⟩ := hcs
    have hlz : len ≤ zs.length := by rw [hz]; split <;> omega
    have e1 : (zs.take len).length = len := by simp; omega
    refine ⟨zs.take len, some x, cap, by rw [e1], by rw [e1]; exact hl, hm, (fun h => by cases h), ?_, ?_⟩
    · intro n hn
      exact bounds_u8 (hwz n (List.mem_of_mem_take hn))
    · intro j hj
      rw [e1] at hj
      refine ⟨x, rfl, ?_⟩
      rw [hcell j (by omega)]
      simp [hj]
end Go.Em

namespace Go.Em
open Go.RowKit

/-- In the world w the value u is a slice whose elements are slices that hold the bytes R. -/
def IsRows (w : World) (u : Value) (R : List (List Int)) : Prop :=
  ∃ a cap, u = .slice a R.length cap ∧ R.length ≤ cap ∧ cap ≤ maxLen ∧ (a = none → cap = 0) ∧
    ∀ j, j < R.length → ∃ ad s, a = some ad ∧ w.cell? (ad.add j) = some s ∧ IsBytes w s (R[j]?.getD [])

theorem IsRows.nil (w : World) : IsRows w (.slice none 0 0) [] :=
  ⟨none, 0, rfl, by simp, by simp [maxLen], fun _ => rfl, by simp⟩

theorem IsRows.len {w : World} {u : Value} {R : List (List Int)} (h : IsRows w u R) : R.length ≤ 9223372036854775807 := by
  obtain ⟨a, cap, -, h1, h2, -⟩ := h; unfold maxLen at h2; omega

theorem IsRows.plain {w : World} {u : Value} {R : List (List Int)} (h : IsRows w u R) (hp : 0 < R.length) :
    ∃ b off cap, u = .slice (some ⟨b, off, none⟩) R.length cap ∧ R.length ≤ cap ∧ cap ≤ maxLen ∧ ∀ j, j < R.length → ∃ s, w.cell? ⟨b, off + j, none⟩ = some s ∧ IsBytes w s (R[j]?.getD []) := by
  obtain ⟨a, cap, rfl, h1, h2, -, hc⟩ := h
  obtain ⟨ad, s0, rfl, hc0, -⟩ := hc 0 hp
  obtain ⟨b, off, spot⟩ := ad
  have hspot : spot = none := by simpa [Addr.add] using World.cell?_spot hc0
  subst hspot
  refine ⟨b, off, cap, rfl, h1, h2, fun j hj => ?_⟩
  obtain ⟨ad, s, had, hcj, hs⟩ := hc j hj
  cases had
  refine ⟨s, ?_, hs⟩
  rw [← hcj]
  unfold Addr.add
  split
  · rename_i h0; subst h0; rfl
  · rfl

theorem IsRows.empty {w : World} {u : Value} {R : List (List Int)} (h : IsRows w u R) (hp : R.length = 0) :
    ∃ a cap, u = .slice a 0 cap ∧ cap ≤ maxLen ∧ (a = none → cap = 0) := by
  obtain ⟨a, cap, rfl, h1, h2, h3, -⟩ := h
  exact ⟨a, cap, by rw [hp], h2, h3⟩

theorem IsRows.below {w w' : World} {u : Value} {R : List (List Int)} (h : IsRows w u R) (hb : Below w.heap.size w w') : IsRows w' u R := by
  obtain ⟨a, cap, rfl, h1, h2, h3, hc⟩ := h
  refine ⟨a, cap, rfl, h1, h2, h3, fun j hj => ?_⟩
  obtain ⟨ad, s, rfl, hcj, hs⟩ := hc j hj
  exact ⟨ad, s, rfl, by rw [hb.cell (cell_lt hcj)]; exact hcj, hs.below hb⟩

/-- '[][]byte{b}', as a variadic call makes it. -/
theorem rows_one (w : World) (t : TypeId) {g : Nat} (hg : g = w.heap.size) {s : Value} {L : List Int} (h : IsBytes w s L) : IsRows (w.alloc (.cells #[s] t)) (.slice (some ⟨g, 0, none⟩) 1 1) [L] := by
  subst hg
  refine ⟨some ⟨w.heap.size, 0, none⟩, 1, rfl, by simp, by simp [maxLen], (fun h => by cases h), fun j hj => ⟨_, s, rfl, ?_, ?_⟩⟩
  · have : j = 0 := by simp at hj; omega
    subst this; simp [Addr.add]
  · have : j = 0 := by simp at hj; omega
    subst this
    exact h.below ((Below.refl _ _).alloc (Nat.le_refl _) _)
theorem rows_two (w : World) (t : TypeId) {g : Nat} (hg : g = w.heap.size) {s s' : Value} {L M : List Int} (h : IsBytes w s L) (h' : IsBytes w s' M) : IsRows (w.alloc (.cells #[s, s'] t)) (.slice (some ⟨g, 0, none⟩) 2 2) [L, M] := by
  subst hg
  refine ⟨some ⟨w.heap.size, 0, none⟩, 2, rfl, by simp, by simp [maxLen], (fun h => by cases h), fun j hj => ?_⟩
  match j, hj with
  | 0, _ => exact ⟨_, s, rfl, by simp [Addr.add], h.below ((Below.refl _ _).alloc (Nat.le_refl _) _)⟩
  | 1, _ => exact ⟨_, s', rfl, by simp [Addr.add], h'.below ((Below.refl _ _).alloc (Nat.le_refl _) _)⟩
  | j + 2, hj => simp at hj; omega
end Go.Em

namespace Go.Em
open Go.ChangeShapes Go.WideShapes Go.ChangeAt Go.RowKit Go.Deep

theorem weightsAll_mem {H : Type} {P : Program} {e : TypeId} : ∀ {l : List (DataW H)} {d : DataW H}, d ∈ l → ∀ n ∈ d.weights P e, n ∈ DataW.weightsAll P e l
  | x :: r, d, h, n, hn => by
    simp only [DataW.weightsAll, List.mem_append]
    rcases List.mem_cons.1 h with rfl | h
    · exact Or.inl hn
    · exact Or.inr (weightsAll_mem h n hn)

/-- What the row says of the j-th argument's size. -/
theorem sized_arg {H : Type} {P : Program} {ts : List TypeId} {ds : List (DataW H)} (h : (DataW.weightsEach P ts ds).all (· ≤ reachBytes) = true) (j : Nat) {t : TypeId} {d : DataW H} (ht : ts[j]? = some t) (hd : ds[j]? = some d) :
    ∀ n ∈ d.weights P t, n ≤ 140737488351232 := fun n hn => by
  have := List.all_eq_true.1 h _ (DataW.weights_mem_each ht hd n hn)
  exact of_decide_eq_true this

theorem open_bytes_s {H : Type} {enc : TypeId × Value → H} {P : Program} {W : World} {r : Reach} {b0 t e base : Nat} {held : Bool} {v : Value} {d : DataW H} {p : List MemPlace}
    (ht : P.underlying t = some (.slice e)) (he : P.underlying e = some (.int .u8)) (hc : P.cellsOf e = 1) (hby : P.bytesOf e = 1) (hv : Value.okWide P W r b0 t v)
    (h : DataW.Trod enc P W base (fun _ => true) held t v d p) (hs : ∀ n ∈ d.weights P t, n ≤ 140737488351232) : ∃ L, IsBytes W v L ∧ L.length ≤ 140737488351232 := by
  obtain ⟨a, len, cap, rfl⟩ := okWide_slice ht hv
  obtain ⟨fuel, hf⟩ := h
  rcases open_ints ht he hc hf with ⟨hcs, _⟩ | ⟨x, l, c, zs, hcs, _, hl, hm, hz, hx, hcell, hwz⟩
  · simp [Value.cells] at hcs
    obtain ⟨rfl, rfl, rfl⟩ := hcs
    exact ⟨[], IsBytes.nil W, by simp⟩
  · simp [Value.cells] at hcs
    obtain ⟨rfl, rfl, rfl⟩ := hcs
    have hlz : len ≤ zs.length := by rw [hz]; split <;> omega
    have e1 : (zs.take len).length = len := by simp; omega
    refine ⟨zs.take len, ⟨some x, cap, by rw [e1], by rw [e1]; exact hl, hm, (fun h => by cases h), ?_, ?_⟩, ?_⟩
    · intro n hn
      exact bounds_u8 (hwz n (List.mem_of_mem_take hn))
    · intro j hj
      rw [e1] at hj
      refine ⟨x, rfl, ?_⟩
      rw [hcell j (by omega)]
      simp [hj]
    · simp only [Prod.mk.injEq] at hx
      obtain ⟨rfl, -⟩ := hx
      have := hs _ (by simp only [DataW.weights, ht, List.mem_cons]; exact Or.inl rfl)
      rw [hby] at this
      simp [lits] at this
      rw [e1]
      omega

theorem open_rows_s {H : Type} {enc : TypeId × Value → H} {P : Program} {W : World} {r : Reach} {b0 t e q base : Nat} {held : Bool} {v : Value} {d : DataW H} {p : List MemPlace}
    (ht : P.underlying t = some (.slice e)) (he : P.underlying e = some (.slice q)) (hq : P.underlying q = some (.int .u8)) (ce : P.cellsOf e = 1) (cq : P.cellsOf q = 1) (hby : P.bytesOf q = 1) (hv : Value.okWide P W r b0 t v)
    (h : DataW.Trod enc P W base (fun _ => true) held t v d p) (hs : ∀ n ∈ d.weights P t, n ≤ 140737488351232) : ∃ R, IsRows W v R ∧ ∀ L ∈ R, L.length ≤ 140737488351232 := by
  obtain ⟨a, len, cap, rfl⟩ := okWide_slice ht hv
  obtain ⟨fuel, hf⟩ := h
  rcases open_int_rows ht he hq ce cq hf with ⟨hcs, _⟩ | ⟨x, l, c, A, L, C, Z, hcs, _, hl, hm, hx, hr⟩
  · simp [Value.cells] at hcs
    obtain ⟨rfl, rfl, rfl⟩ := hcs
    exact ⟨[], IsRows.nil W, by simp⟩
  · simp [Value.cells] at hcs
    obtain ⟨rfl, rfl, rfl⟩ := hcs
    have hL : ∀ j, j < len → ((Z j).take (L j)).length = L j := by
      intro j hj
      obtain ⟨h1, h2, h3, h4, h5, h6, h7⟩ := hr j (by omega)
      simp; omega
    refine ⟨(List.range len).map fun r => (Z r).take (L r), ⟨some x, cap, by simp, by simpa using hl, hm, (fun h => by cases h), fun j hj => ?_⟩, ?_⟩
    · have hj' : j < len := by simpa using hj
      obtain ⟨h1, h2, h3, h4, h5, h6, h7⟩ := hr j (by omega)
      refine ⟨x, _, rfl, h1, ?_⟩
      have eL : ((List.range len).map fun r => (Z r).take (L r))[j]?.getD [] = (Z j).take (L j) := by simp [hj']
      rw [eL]
      have e1 := hL j hj'
      refine ⟨A j, C j, by rw [e1], by rw [e1]; exact h2, h3, h6, fun n hn => bounds_u8 (h5 n (List.mem_of_mem_take hn)), fun k hk => ?_⟩
      rw [e1] at hk
      cases hA : A j with
      | none => have := h6 hA; omega
      | some a' =>
        refine ⟨a', rfl, ?_⟩
        rw [(h7 a' hA).2 k (by omega)]
        simp [hk]
    · intro M hM
      simp only [List.mem_map, List.mem_range] at hM
      obtain ⟨j, hj, rfl⟩ := hM
      obtain ⟨h1, h2, h3, h4, h5, h6, h7⟩ := hr j (by omega)
      rw [hL j hj]
      simp only [Prod.mk.injEq] at hx
      obtain ⟨rfl, -⟩ := hx
      cases hA : A j with
      | none => have := h6 hA; omega
      | some a' =>
        have hmem : intRow (H := H) .u8 (A j) (L j) (Z j) ∈ (List.range len).map fun r => intRow (H := H) .u8 (A r) (L r) (Z r) := List.mem_map.2 ⟨j, List.mem_range.2 hj, rfl⟩
        have hw := hs ((lits (H := H) .u8 ((Z j).take (L j))).length + (lits (H := H) .u8 ((Z j).drop (L j))).length) (by
          simp only [DataW.weights, ht, List.mem_cons, List.mem_append]
          refine Or.inr (Or.inl (weightsAll_mem hmem _ ?_))
          rw [hA]
          simp [intRow, DataW.weights, he, hby])
        simp [lits] at hw
        omega
end Go.Em

namespace Go.Proofs.Ytadhjnbhcenocaa
open Go.ChangeShapes Go.WideShapes Go.ChangeAt Go.RowKit Go.Deep

theorem tcells3 {w : World} {base : Nat} {a : Addr} {cs : List Value} (h : w.cells? base a 3 = some cs) : ∃ c0 c1 c2, cs = [c0, c1, c2] ∧ a.spot = none ∧ a.block < w.heap.size ∧
    w.cell? ⟨a.block, a.off, none⟩ = some c0 ∧ w.cell? ⟨a.block, a.off + 1, none⟩ = some c1 ∧ w.cell? ⟨a.block, a.off + 2, none⟩ = some c2 := by
  have hb := World.cells?_block h (by omega)
  obtain ⟨h1, h2, h3⟩ := World.cells?_some h
  match cs, h2 with
  | [c0, c1, c2], _ =>
    obtain ⟨b, off, spot⟩ := a
    have g0 := h3 0 (by omega)
    have hs : spot = none := by simpa [Addr.add] using World.cell?_spot g0
    subst hs
    exact ⟨c0, c1, c2, rfl, rfl, hb, by simpa [Addr.add] using g0, by simpa [Addr.add] using h3 1 (by omega), by simpa [Addr.add] using h3 2 (by omega)⟩

theorem bytesType : Try.prog.bytesOf 25 = 48 := by kernel_rfl
theorem cellsType : Try.prog.cellsOf 25 = 3 := by kernel_rfl
theorem tcellsStr : Try.prog.cellsOf 9 = 1 := by kernel_rfl
theorem tcellsInt : Try.prog.cellsOf 3 = 1 := by kernel_rfl
theorem cellsTypes : Try.prog.cellsOf 23 = 1 := by kernel_rfl

theorem topen_txt {H : Type} {enc : TypeId × Value → H} {W : World} {base : Nat} {spare : Nat → Bool} {held : Bool} {fuel : Nat} {v : Value} {x : DataW H × List MemPlace}
    (h : DataW.trod enc Try.prog W base spare held fuel 9 [v] = some x) (hw : ∀ k ∈ x.1.weights Try.prog 9, k ≤ 140737488351232) : ∃ L, v = .string (Em.str L) ∧ Em5.Txt L := by
  obtain ⟨s, hs, rfl, -⟩ := DataW.trod_string Try.underlying9 h
  simp at hs
  subst hs
  obtain ⟨L, hL⟩ := Em.isStr_of s
  have := hw s.data.toList.length (by simp [DataW.weights])
  have hz := hL.size
  refine ⟨L, by rw [← hL.1], hL.2, ?_⟩
  rw [← hz]
  have e : s.data.toList.length = s.size := by rw [Array.length_toList]; rfl
  rw [← e]
  exact this

theorem topen_i64 {H : Type} {enc : TypeId × Value → H} {W : World} {base : Nat} {spare : Nat → Bool} {held : Bool} {fuel t : Nat} {v : Value} {x : DataW H × List MemPlace} (ht : Try.prog.underlying t = some (.int .i64))
    (h : DataW.trod enc Try.prog W base spare held fuel t [v] = some x) : ∃ n, v = .int .i64 n ∧ Em5.I64 n := by
  obtain ⟨n, hs, -, hw⟩ := DataW.trod_int ht h
  simp at hs
  exact ⟨n, hs, bounds_i64 hw⟩

theorem open_ty_aux {H : Type} {enc : TypeId × Value → H} {W : World} {held : Bool} : ∀ (fuel : Nat) (cs : List Value) (x : DataW H × List MemPlace), DataW.trod enc Try.prog W 0 (fun _ => true) held fuel 25 cs = some x →
    (∀ k ∈ x.1.weights Try.prog 25, k ≤ 140737488351232) → ∃ t, Em8.IsTy W t (.agg cs.toArray) := by
  intro fuel
  induction fuel using Nat.strongRecOn with
  | ind fuel ih =>
    intro cs x h hw
    obtain ⟨xs, n, rfl, rfl, hl, hlen, hf⟩ := DataW.trod_struct Try.underlying25 h
    rw [cellsType] at hl
    match cs, hl with
    | [v0, v1, v2], _ =>
    match xs, hlen with
    | [y0, y1, y2], _ =>
      have f0 := hf 0 _ rfl
      have f1 := hf 1 _ rfl
      have f2 := hf 2 _ rfl
      simp [tcellsStr, tcellsInt, cellsTypes] at f0 f1 f2
      have hws : ∀ k ∈ y0.1.weights Try.prog 9 ++ (y1.1.weights Try.prog 3 ++ y2.1.weights Try.prog 23), k ≤ 140737488351232 := by
        intro k hk
        apply hw k
        simp only [List.map_cons, List.map_nil, DataW.weights, Try.underlying25, DataW.weightsEach]
        simpa using hk
      obtain ⟨op, rfl, h0⟩ := topen_txt f0 (fun k hk => hws k (List.mem_append_left _ hk))
      obtain ⟨m, rfl, h3⟩ := topen_i64 Try.underlying3 f1
      have hw5 : ∀ k ∈ y2.1.weights Try.prog 23, k ≤ 140737488351232 := fun k hk => hws k (List.mem_append_right _ (List.mem_append_right _ hk))
      rcases DataW.trod_slice Try.underlying23 f2 with ⟨hcs, hx⟩ | ⟨a, len, cap, elems, rest, n', hn, hcs, rfl, -, hlc, hcm, hel, hcells, hsp, -⟩
      · simp at hcs
        subst hcs
        refine ⟨.mk op m [], ?_⟩
        unfold Em8.IsTy
        exact ⟨none, 0, rfl, h0, h3, by simp, by simp, by simp⟩
      · simp at hcs
        subst hcs
        have hcap : cap ≤ 9223372036854775807 := by
          have := hw5 _ (by simp only [DataW.weights, Try.underlying23, List.mem_cons]; exact Or.inl rfl)
          rw [bytesType] at this
          have hr := (hsp rfl).1
          simp only [List.length_map] at this
          omega
        rw [cellsType] at hcells
        have each : ∀ i, i < len → ∃ t c0 c1 c2, a.spot = none ∧ a.block < W.heap.size ∧ W.cell? ⟨a.block, a.off + i * 3, none⟩ = some c0 ∧ W.cell? ⟨a.block, a.off + i * 3 + 1, none⟩ = some c1 ∧ W.cell? ⟨a.block, a.off + i * 3 + 2, none⟩ = some c2 ∧ Em8.IsTy W t (.agg #[c0, c1, c2]) := by
          intro i hi
          have hc := hcells i hi
          rw [List.getElem?_eq_getElem (by omega)] at hc
          cases hcs : W.cells? 0 (a.add (i * 3)) 3 with
          | none => rw [hcs] at hc; simp at hc
          | some cs =>
            rw [hcs] at hc
            simp only [Option.bind_some] at hc
            obtain ⟨c0, c1, c2, rfl, hspot, hblk, k0, k1, k2⟩ := tcells3 hcs
            have hwi : ∀ k ∈ (elems[i]'(by omega)).1.weights Try.prog 25, k ≤ 140737488351232 := fun k hk => hw5 k (by
              simp only [DataW.weights, Try.underlying23, List.mem_cons, List.mem_append]
              exact Or.inr (Or.inl (Em.weightsAll_mem (List.mem_map.2 ⟨_, List.getElem_mem (by omega), rfl⟩) k hk)))
            obtain ⟨t, ht⟩ := ih n' (by omega) _ _ hc hwi
            obtain ⟨ab, ao, asp⟩ := a
            by_cases hi0 : i = 0
            · subst hi0
              simp [Addr.add] at hspot hblk k0 k1 k2
              exact ⟨t, c0, c1, c2, hspot, hblk, by simpa using k0, by simpa using k1, by simpa using k2, ht⟩
            · have hz := hcells 0 (by omega)
              rw [List.getElem?_eq_getElem (by omega)] at hz
              cases hcz : W.cells? 0 ((⟨ab, ao, asp⟩ : Addr).add (0 * 3)) 3 with
              | none => rw [hcz] at hz; simp at hz
              | some cs0 =>
                obtain ⟨-, -, -, -, hspot0, -⟩ := tcells3 hcz
                simp [Addr.add] at hspot0
                have hi6 : ¬ i * 3 = 0 := by omega
                simp only [Addr.add, hi6, if_false] at hblk k0 k1 k2
                exact ⟨t, c0, c1, c2, hspot0, hblk, k0, k1, k2, ht⟩
        by_cases hl0 : len = 0
        · subst hl0
          refine ⟨.mk op m [], ?_⟩
          unfold Em8.IsTy
          exact ⟨some a, cap, rfl, h0, h3, by simp, hcap, by simp⟩
        · obtain ⟨t0, -, -, -, hsp0, hblk0, -⟩ := each 0 (by omega)
          have hex : ∃ f : Nat → Em8.Ty, ∀ i, i < len → ∃ c0 c1 c2, W.cell? ⟨a.block, a.off + i * 3, none⟩ = some c0 ∧ W.cell? ⟨a.block, a.off + i * 3 + 1, none⟩ = some c1 ∧ W.cell? ⟨a.block, a.off + i * 3 + 2, none⟩ = some c2 ∧ Em8.IsTy W (f i) (.agg #[c0, c1, c2]) := by
            refine ⟨fun i => if hi : i < len then (each i hi).choose else t0, fun i hi => ?_⟩
            simp only [hi, dif_pos]
            obtain ⟨c0, c1, c2, -, -, hrest⟩ := (each i hi).choose_spec
            exact ⟨c0, c1, c2, hrest⟩
          obtain ⟨f, hfx⟩ := hex
          refine ⟨.mk op m ((List.range len).map f), ?_⟩
          unfold Em8.IsTy
          refine ⟨some a, cap, by simp, h0, h3, by simpa using hlc, hcap, fun _ => ⟨a.block, a.off, ?_, hblk0, Em8.tysAt_mk _ _ fun j t hj => ?_⟩⟩
          · obtain ⟨ab, ao, asp⟩ := a
            simp at hsp0
            rw [hsp0]
          · have hjl : j < len := by
              have := (List.getElem?_eq_some_iff.1 hj).1
              simpa using this
            simp [hjl] at hj
            subst hj
            exact hfx j hjl

theorem open_ty {H : Type} {enc : TypeId × Value → H} {W : World} {r : Reach} {b0 : Nat} {held : Bool} {v : Value} {d : DataW H} {p : List MemPlace}
    (hv : Value.okWide Try.prog W r b0 25 v) (h : DataW.Trod enc Try.prog W 0 (fun _ => true) held 25 v d p) (hs : ∀ n ∈ d.weights Try.prog 25, n ≤ 140737488351232) : ∃ T, Em8.IsTy W T v := by
  obtain ⟨cs, rfl, -⟩ := okWide_struct Try.underlying25 hv
  obtain ⟨fuel, hf⟩ := h
  obtain ⟨t, ht⟩ := open_ty_aux fuel _ _ hf hs
  exact ⟨t, by simpa [Value.cells] using ht⟩
end Go.Proofs.Ytadhjnbhcenocaa

namespace Go.Proofs.Ytadhjnbhcenocaa
open Go.ChangeShapes Go.WideShapes Go.ChangeAt Go.RowKit Go.Deep

theorem open_tys {H : Type} {enc : TypeId × Value → H} {W : World} {r : Reach} {b0 : Nat} {held : Bool} {v : Value} {d : DataW H} {p : List MemPlace}
    (hv : Value.okWide Try.prog W r b0 23 v) (h : DataW.Trod enc Try.prog W 0 (fun _ => true) held 23 v d p) (hs : ∀ n ∈ d.weights Try.prog 23, n ≤ 140737488351232) : ∃ l, IsTys W v l := by
  obtain ⟨a0, len0, cap0, rfl⟩ := okWide_slice Try.underlying23 hv
  obtain ⟨fuel, f2⟩ := h
  rcases DataW.trod_slice Try.underlying23 f2 with ⟨hcs, hx⟩ | ⟨a, len, cap, elems, rest, n', hn, hcs, hd, -, hlc, hcm, hel, hcells, hsp, -⟩
  · simp [Value.cells] at hcs
    obtain ⟨rfl, rfl, rfl⟩ := hcs
    exact ⟨[], IsTys.nil W⟩
  · simp [Value.cells] at hcs
    obtain ⟨rfl, rfl, rfl⟩ := hcs
    have hcap : cap0 ≤ 9223372036854775807 := by unfold maxLen at hcm; omega
    rw [cellsType] at hcells
    have hd1 : d = DataW.slice (elems.map (·.1)) (rest.map (·.1)) := congrArg Prod.fst hd
    subst hd1
    have each : ∀ i, i < len0 → ∃ t c0 c1 c2, a.spot = none ∧ a.block < W.heap.size ∧ W.cell? ⟨a.block, a.off + i * 3, none⟩ = some c0 ∧ W.cell? ⟨a.block, a.off + i * 3 + 1, none⟩ = some c1 ∧ W.cell? ⟨a.block, a.off + i * 3 + 2, none⟩ = some c2 ∧ Em8.IsTy W t (.agg #[c0, c1, c2]) := by
      intro i hi
      have hc := hcells i hi
      rw [List.getElem?_eq_getElem (by omega)] at hc
      cases hcs : W.cells? 0 (a.add (i * 3)) 3 with
      | none => rw [hcs] at hc; simp at hc
      | some cs =>
        rw [hcs] at hc
        simp only [Option.bind_some] at hc
        obtain ⟨c0, c1, c2, rfl, hspot, hblk, k0, k1, k2⟩ := tcells3 hcs
        have hwi : ∀ k ∈ (elems[i]'(by omega)).1.weights Try.prog 25, k ≤ 140737488351232 := fun k hk => hs k (by
          simp only [DataW.weights, Try.underlying23, List.mem_cons, List.mem_append]
          exact Or.inr (Or.inl (Em.weightsAll_mem (List.mem_map.2 ⟨_, List.getElem_mem (by omega), rfl⟩) k hk)))
        obtain ⟨t, ht⟩ := open_ty_aux n' _ _ hc hwi
        obtain ⟨ab, ao, asp⟩ := a
        by_cases hi0 : i = 0
        · subst hi0
          simp [Addr.add] at hspot hblk k0 k1 k2
          exact ⟨t, c0, c1, c2, hspot, hblk, by simpa using k0, by simpa using k1, by simpa using k2, ht⟩
        · have hz := hcells 0 (by omega)
          rw [List.getElem?_eq_getElem (by omega)] at hz
          cases hcz : W.cells? 0 ((⟨ab, ao, asp⟩ : Addr).add (0 * 3)) 3 with
          | none => rw [hcz] at hz; simp at hz
          | some cs0 =>
            obtain ⟨-, -, -, -, hspot0, -⟩ := tcells3 hcz
            simp [Addr.add] at hspot0
            have hi6 : ¬ i * 3 = 0 := by omega
            simp only [Addr.add, hi6, if_false] at hblk k0 k1 k2
            exact ⟨t, c0, c1, c2, hspot0, hblk, k0, k1, k2, ht⟩
    by_cases hl0 : len0 = 0
    · subst hl0
      exact ⟨[], some a, cap0, rfl, by simp, hcap, by simp⟩
    · obtain ⟨t0, -, -, -, hsp0, hblk0, -⟩ := each 0 (by omega)
      have hex : ∃ f : Nat → Em8.Ty, ∀ i, i < len0 → ∃ c0 c1 c2, W.cell? ⟨a.block, a.off + i * 3, none⟩ = some c0 ∧ W.cell? ⟨a.block, a.off + i * 3 + 1, none⟩ = some c1 ∧ W.cell? ⟨a.block, a.off + i * 3 + 2, none⟩ = some c2 ∧ Em8.IsTy W (f i) (.agg #[c0, c1, c2]) := by
        refine ⟨fun i => if hi : i < len0 then (each i hi).choose else t0, fun i hi => ?_⟩
        simp only [hi, dif_pos]
        obtain ⟨c0, c1, c2, -, -, hrest⟩ := (each i hi).choose_spec
        exact ⟨c0, c1, c2, hrest⟩
      obtain ⟨f, hfx⟩ := hex
      refine ⟨(List.range len0).map f, some a, cap0, by simp, by simpa using hlc, hcap, fun _ => ⟨a.block, a.off, ?_, hblk0, Em8.tysAt_mk _ _ fun j t hj => ?_⟩⟩
      · obtain ⟨ab, ao, asp⟩ := a
        simp at hsp0
        rw [hsp0]
      · have hjl : j < len0 := by
          have := (List.getElem?_eq_some_iff.1 hj).1
          simpa using this
        simp [hjl] at hj
        subst hj
        exact hfx j hjl
end Go.Proofs.Ytadhjnbhcenocaa

namespace Go.Proofs.Ytadhjnbhcenocaa
open Go.ChangeShapes Go.WideShapes Go.ChangeAt Go.RowKit Go.Deep

/-- A slice of pairs of types. -/
def IsPairs (w : World) (v : Value) (l : List (Em8.Ty × Em8.Ty)) : Prop :=
  ∃ a cap, v = .slice a l.length cap ∧ l.length ≤ cap ∧ cap ≤ 9223372036854775807 ∧ (0 < l.length → ∃ b off, a = some ⟨b, off, none⟩ ∧ b < w.heap.size ∧ ∀ (j : Nat) (p : Em8.Ty × Em8.Ty), l[j]? = some p →
    ∃ c0 c1 c2 c3 c4 c5, w.cell? ⟨b, off + j * 6, none⟩ = some c0 ∧ w.cell? ⟨b, off + j * 6 + 1, none⟩ = some c1 ∧ w.cell? ⟨b, off + j * 6 + 2, none⟩ = some c2 ∧ w.cell? ⟨b, off + j * 6 + 3, none⟩ = some c3 ∧ w.cell? ⟨b, off + j * 6 + 4, none⟩ = some c4 ∧ w.cell? ⟨b, off + j * 6 + 5, none⟩ = some c5 ∧ Em8.IsTy w p.1 (.agg #[c0, c1, c2]) ∧ Em8.IsTy w p.2 (.agg #[c3, c4, c5]))
theorem IsPairs.nil (w : World) : IsPairs w (.slice none 0 0) [] := ⟨none, 0, rfl, by simp, by simp, by simp⟩
theorem IsPairs.below {w w' : World} {v : Value} {l : List (Em8.Ty × Em8.Ty)} (h : IsPairs w v l) (hb : Below w.heap.size w w') : IsPairs w' v l := by
  obtain ⟨a, cap, e, h1, h2, h3⟩ := h
  refine ⟨a, cap, e, h1, h2, fun hp => ?_⟩
  obtain ⟨b, off, e1, hl, hk⟩ := h3 hp
  refine ⟨b, off, e1, Nat.lt_of_lt_of_le hl hb.size, fun j p hj => ?_⟩
  obtain ⟨c0, c1, c2, c3, c4, c5, k0, k1, k2, k3, k4, k5, g1, g2⟩ := hk j p hj
  have key : ∀ o, w'.cell? ⟨b, o, none⟩ = w.cell? ⟨b, o, none⟩ := fun o => hb.cell (p := ⟨b, o, none⟩) hl
  exact ⟨c0, c1, c2, c3, c4, c5, by rw [key]; exact k0, by rw [key]; exact k1, by rw [key]; exact k2, by rw [key]; exact k3, by rw [key]; exact k4, by rw [key]; exact k5, Em8.isTy_below hb _ _ g1, Em8.isTy_below hb _ _ g2⟩

theorem tcells6 {w : World} {base : Nat} {a : Addr} {cs : List Value} (h : w.cells? base a 6 = some cs) : ∃ c0 c1 c2 c3 c4 c5, cs = [c0, c1, c2, c3, c4, c5] ∧ a.spot = none ∧ a.block < w.heap.size ∧
    w.cell? ⟨a.block, a.off, none⟩ = some c0 ∧ w.cell? ⟨a.block, a.off + 1, none⟩ = some c1 ∧ w.cell? ⟨a.block, a.off + 2, none⟩ = some c2 ∧ w.cell? ⟨a.block, a.off + 3, none⟩ = some c3 ∧ w.cell? ⟨a.block, a.off + 4, none⟩ = some c4 ∧ w.cell? ⟨a.block, a.off + 5, none⟩ = some c5 := by
  have hb := World.cells?_block h (by omega)
  obtain ⟨h1, h2, h3⟩ := World.cells?_some h
  match cs, h2 with
  | [c0, c1, c2, c3, c4, c5], _ =>
    obtain ⟨b, off, spot⟩ := a
    have g0 := h3 0 (by omega)
    have hs : spot = none := by simpa [Addr.add] using World.cell?_spot g0
    subst hs
    exact ⟨c0, c1, c2, c3, c4, c5, rfl, rfl, hb, by simpa [Addr.add] using g0, by simpa [Addr.add] using h3 1 (by omega), by simpa [Addr.add] using h3 2 (by omega), by simpa [Addr.add] using h3 3 (by omega), by simpa [Addr.add] using h3 4 (by omega), by simpa [Addr.add] using h3 5 (by omega)⟩
theorem cellsPair : Try.prog.cellsOf 37 = 6 := by kernel_rfl
theorem open_pair_aux {H : Type} {enc : TypeId × Value → H} {W : World} {held : Bool} (fuel : Nat) (c0 c1 c2 c3 c4 c5 : Value) (x : DataW H × List MemPlace) (h : DataW.trod enc Try.prog W 0 (fun _ => true) held fuel 37 [c0, c1, c2, c3, c4, c5] = some x)
    (hw : ∀ k ∈ x.1.weights Try.prog 37, k ≤ 140737488351232) : ∃ p : Em8.Ty × Em8.Ty, Em8.IsTy W p.1 (.agg #[c0, c1, c2]) ∧ Em8.IsTy W p.2 (.agg #[c3, c4, c5]) := by
  obtain ⟨xs, n, rfl, rfl, hl, hlen, hf⟩ := DataW.trod_struct Try.underlying37 h
  match xs, hlen with
  | [y0, y1], _ =>
    have f0 := hf 0 _ rfl
    have f1 := hf 1 _ rfl
    simp [cellsType] at f0 f1
    have hws : ∀ k ∈ y0.1.weights Try.prog 25 ++ y1.1.weights Try.prog 25, k ≤ 140737488351232 := by
      intro k hk
      apply hw k
      simp only [List.map_cons, List.map_nil, DataW.weights, Try.underlying37, DataW.weightsEach]
      simpa using hk
    obtain ⟨s, hs⟩ := open_ty_aux n _ _ f0 (fun k hk => hws k (List.mem_append_left _ hk))
    obtain ⟨t, ht⟩ := open_ty_aux n _ _ f1 (fun k hk => hws k (List.mem_append_right _ hk))
    exact ⟨(s, t), hs, ht⟩

theorem open_pairs {H : Type} {enc : TypeId × Value → H} {W : World} {r : Reach} {b0 : Nat} {held : Bool} {v : Value} {d : DataW H} {p : List MemPlace}
    (hv : Value.okWide Try.prog W r b0 22 v) (h : DataW.Trod enc Try.prog W 0 (fun _ => true) held 22 v d p) (hs : ∀ n ∈ d.weights Try.prog 22, n ≤ 140737488351232) : ∃ l, IsPairs W v l := by
  obtain ⟨a0, len0, cap0, rfl⟩ := okWide_slice Try.underlying22 hv
  obtain ⟨fuel, f2⟩ := h
  rcases DataW.trod_slice Try.underlying22 f2 with ⟨hcs, hx⟩ | ⟨a, len, cap, elems, rest, n', hn, hcs, hd, -, hlc, hcm, hel, hcells, hsp, -⟩
  · simp [Value.cells] at hcs
    obtain ⟨rfl, rfl, rfl⟩ := hcs
    exact ⟨[], IsPairs.nil W⟩
  · simp [Value.cells] at hcs
    obtain ⟨rfl, rfl, rfl⟩ := hcs
    have hcap : cap0 ≤ 9223372036854775807 := by unfold maxLen at hcm; omega
    rw [cellsPair] at hcells
    have hd1 : d = DataW.slice (elems.map (·.1)) (rest.map (·.1)) := congrArg Prod.fst hd
    subst hd1
    have each : ∀ i, i < len0 → ∃ (t : Em8.Ty × Em8.Ty) (c0 c1 c2 c3 c4 c5 : Value), a.spot = none ∧ a.block < W.heap.size ∧ W.cell? ⟨a.block, a.off + i * 6, none⟩ = some c0 ∧ W.cell? ⟨a.block, a.off + i * 6 + 1, none⟩ = some c1 ∧ W.cell? ⟨a.block, a.off + i * 6 + 2, none⟩ = some c2 ∧ W.cell? ⟨a.block, a.off + i * 6 + 3, none⟩ = some c3 ∧ W.cell? ⟨a.block, a.off + i * 6 + 4, none⟩ = some c4 ∧ W.cell? ⟨a.block, a.off + i * 6 + 5, none⟩ = some c5 ∧ Em8.IsTy W t.1 (.agg #[c0, c1, c2]) ∧ Em8.IsTy W t.2 (.agg #[c3, c4, c5]) := by
      intro i hi
      have hc := hcells i hi
      rw [List.getElem?_eq_getElem (by omega)] at hc
      cases hcs : W.cells? 0 (a.add (i * 6)) 6 with
      | none => rw [hcs] at hc; simp at hc
      | some cs =>
        rw [hcs] at hc
        simp only [Option.bind_some] at hc
        obtain ⟨c0, c1, c2, c3, c4, c5, rfl, hspot, hblk, k0, k1, k2, k3, k4, k5⟩ := tcells6 hcs
        have hwi : ∀ k ∈ (elems[i]'(by omega)).1.weights Try.prog 37, k ≤ 140737488351232 := fun k hk => hs k (by
          simp only [DataW.weights, Try.underlying22, List.mem_cons, List.mem_append]
          exact Or.inr (Or.inl (Em.weightsAll_mem (List.mem_map.2 ⟨_, List.getElem_mem (by omega), rfl⟩) k hk)))
        obtain ⟨t, ht⟩ := open_pair_aux n' _ _ _ _ _ _ _ hc hwi
        obtain ⟨ab, ao, asp⟩ := a
        by_cases hi0 : i = 0
        · subst hi0
          simp [Addr.add] at hspot hblk k0 k1 k2 k3 k4 k5
          exact ⟨t, c0, c1, c2, c3, c4, c5, hspot, hblk, by simpa using k0, by simpa using k1, by simpa using k2, by simpa using k3, by simpa using k4, by simpa using k5, ht⟩
        · have hz := hcells 0 (by omega)
          rw [List.getElem?_eq_getElem (by omega)] at hz
          cases hcz : W.cells? 0 ((⟨ab, ao, asp⟩ : Addr).add (0 * 6)) 6 with
          | none => rw [hcz] at hz; simp at hz
          | some cs0 =>
            obtain ⟨-, -, -, -, -, -, -, hspot0, -⟩ := tcells6 hcz
            simp [Addr.add] at hspot0
            have hi6 : ¬ i * 6 = 0 := by omega
            simp only [Addr.add, hi6, if_false] at hblk k0 k1 k2 k3 k4 k5
            exact ⟨t, c0, c1, c2, c3, c4, c5, hspot0, hblk, k0, k1, k2, k3, k4, k5, ht⟩
    by_cases hl0 : len0 = 0
    · subst hl0
      exact ⟨[], some a, cap0, rfl, by simp, hcap, by simp⟩
    · obtain ⟨t0, -, -, -, -, -, -, hsp0, hblk0, -⟩ := each 0 (by omega)
      have hex : ∃ f : Nat → Em8.Ty × Em8.Ty, ∀ i, i < len0 → ∃ c0 c1 c2 c3 c4 c5, W.cell? ⟨a.block, a.off + i * 6, none⟩ = some c0 ∧ W.cell? ⟨a.block, a.off + i * 6 + 1, none⟩ = some c1 ∧ W.cell? ⟨a.block, a.off + i * 6 + 2, none⟩ = some c2 ∧ W.cell? ⟨a.block, a.off + i * 6 + 3, none⟩ = some c3 ∧ W.cell? ⟨a.block, a.off + i * 6 + 4, none⟩ = some c4 ∧ W.cell? ⟨a.block, a.off + i * 6 + 5, none⟩ = some c5 ∧ Em8.IsTy W (f i).1 (.agg #[c0, c1, c2]) ∧ Em8.IsTy W (f i).2 (.agg #[c3, c4, c5]) := by
        refine ⟨fun i => if hi : i < len0 then (each i hi).choose else t0, fun i hi => ?_⟩
        simp only [hi, dif_pos]
        obtain ⟨c0, c1, c2, c3, c4, c5, -, -, hrest⟩ := (each i hi).choose_spec
        exact ⟨c0, c1, c2, c3, c4, c5, hrest⟩
      obtain ⟨f, hfx⟩ := hex
      refine ⟨(List.range len0).map f, some a, cap0, by simp, by simpa using hlc, hcap, fun _ => ⟨a.block, a.off, ?_, hblk0, fun j t hj => ?_⟩⟩
      · obtain ⟨ab, ao, asp⟩ := a
        simp at hsp0
        rw [hsp0]
      · have hjl : j < len0 := by
          have := (List.getElem?_eq_some_iff.1 hj).1
          simpa using this
        simp [hjl] at hj
        subst hj
        exact hfx j hjl
end Go.Proofs.Ytadhjnbhcenocaa

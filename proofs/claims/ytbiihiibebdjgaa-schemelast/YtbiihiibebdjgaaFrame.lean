/- How a law's arguments are opened for its walk: an integer, a bool, a string, a slice of bytes. -/
import Derived.Test.YtbiihiibebdjgaaBytes
import Derived.ProofKit
import Derived.OpenShut
import Derived.ShutString
import Derived.ChangeOld
namespace Go.Em
open Go.ChangeShapes Go.WideShapes Go.ChangeAt Go.RowKit

theorem open_int {H : Type} {enc : TypeId × Value → H} {P : Program} {W : World} {r : Reach} {b0 t base : Nat} {spare : Nat → Bool} {held : Bool} {k : IntKind} {v : Value} {d : DataW H} {p : List MemPlace}
    (ht : P.underlying t = some (.int k)) (hv : Value.okWide P W r b0 t v) (h : DataW.Trod enc P W base spare held t v d p) : ∃ n, v = .int k n ∧ (Lit.int k n).wf = true := by
  obtain ⟨n, rfl, -, -, hw⟩ := ChangeShapes.open_int ht hv h
  exact ⟨n, rfl, hw⟩

theorem open_bool {H : Type} {enc : TypeId × Value → H} {P : Program} {W : World} {r : Reach} {b0 t base : Nat} {spare : Nat → Bool} {held : Bool} {v : Value} {d : DataW H} {p : List MemPlace}
    (ht : P.underlying t = some .bool) (hv : Value.okWide P W r b0 t v) (h : DataW.Trod enc P W base spare held t v d p) : ∃ b, v = .bool b := by
  obtain ⟨b, rfl, -, -⟩ := RowKit.open_bool ht hv h
  exact ⟨b, rfl⟩

theorem open_str {H : Type} {enc : TypeId × Value → H} {P : Program} {W : World} {r : Reach} {b0 t base : Nat} {spare : Nat → Bool} {held : Bool} {v : Value} {d : DataW H} {p : List MemPlace}
    (ht : P.underlying t = some .string) (hv : Value.okWide P W r b0 t v) (h : DataW.Trod enc P W base spare held t v d p) : ∃ s, v = .string s ∧ s.size ≤ maxLen := by
  obtain ⟨s, rfl, -, -, hs⟩ := ChangeMaps.open_string ht hv h
  exact ⟨s, rfl, hs⟩

theorem open_bytes {H : Type} {enc : TypeId × Value → H} {P : Program} {W : World} {r : Reach} {b0 t e base : Nat} {spare : Nat → Bool} {held : Bool} {v : Value} {d : DataW H} {p : List MemPlace}
    (ht : P.underlying t = some (.slice e)) (he : P.underlying e = some (.int .u8)) (hc : P.cellsOf e = 1) (hv : Value.okWide P W r b0 t v)
    (h : DataW.Trod enc P W base spare held t v d p) : ∃ L, IsBytes W v L := by
  obtain ⟨a, len, cap, rfl⟩ := okWide_slice ht hv
  obtain ⟨fuel, hf⟩ := h
  rcases open_ints ht he hc hf with ⟨hcs, _⟩ | ⟨x, l, c, zs, hcs, _, hl, hm, hz, _, hcell, hwz⟩
  · simp [Value.cells] at hcs
    obtain ⟨rfl, rfl, rfl⟩ := hcs
    exact ⟨[], IsBytes.nil W⟩
  · simp [Value.cells] at hcs
    obtain ⟨rfl, rfl, rfl⟩ := hcs
    have hlz : len ≤ zs.length := by rw [hz]; split <;> omega
    have e1 : (zs.take len).length = len := by simp; omega
    refine ⟨zs.take len, some x, cap, by rw [e1], by rw [e1]; exact hl, hm, (fun h => by cases h), ?_, ?_⟩
    · intro n hn
      exact bounds_u8 (hwz n (List.mem_of_mem_take hn))
    · intro j hj
      rw [e1] at hj
      refine ⟨x, rfl, ?_⟩
      rw [hcell j (by omega)]
      simp [hj]
end Go.Em

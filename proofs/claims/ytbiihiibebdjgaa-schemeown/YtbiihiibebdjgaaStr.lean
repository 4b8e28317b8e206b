/- A string as a list of numbers. -/
import Derived.Test.YtbiihiibebdjgaaBytes
import Derived.Laws.Strings2
import Derived.Deep.Draws
namespace Go.Em
open Go.RowKit

/-- The string s has the bytes L. -/
def IsStr (s : ByteArray) (L : List Int) : Prop := s = str L ∧ ∀ x ∈ L, 0 ≤ x ∧ x ≤ 255

theorem isStr_of (s : ByteArray) : ∃ L, IsStr s L := by
  refine ⟨s.data.toList.map fun c => (c.toNat : Int), ?_, ?_⟩
  · unfold str
    cases s with
    | mk d =>
      congr 1
      rw [List.map_map]
      have : ((fun n : Int => UInt8.ofNat n.toNat) ∘ fun c : UInt8 => (c.toNat : Int)) = id := by funext c; simp
      rw [this]; simp
  · intro x hx
    simp only [List.mem_map] at hx
    obtain ⟨c, -, rfl⟩ := hx
    have := c.toNat_lt
    omega
theorem isStr_str {L : List Int} (h : ∀ x ∈ L, 0 ≤ x ∧ x ≤ 255) : IsStr (str L) L := ⟨rfl, h⟩
theorem IsStr.size {s : ByteArray} {L : List Int} (h : IsStr s L) : s.size = L.length := by
  rw [h.1]; simp [str, ByteArray.size]
theorem IsStr.get {s : ByteArray} {L : List Int} (h : IsStr s L) (k : Nat) (hk : k < s.size) : ((s[k]'hk).toNat : Int) = L[k]?.getD 0 := by
  obtain ⟨rfl, hb⟩ := h
  have hk' : k < L.length := by simpa [str, ByteArray.size] using hk
  have hx := hb (L[k]) (List.getElem_mem hk')
  have e : ((str L)[k]'hk) = UInt8.ofNat (L[k]).toNat := by
    simp [str, ByteArray.getElem_eq_getElem_data]
  rw [e, List.getElem?_eq_getElem hk', Option.getD_some]
  simp
  omega
theorem IsStr.extract {s : ByteArray} {L : List Int} (h : IsStr s L) (a b : Nat) : IsStr (s.extract a b) ((L.drop a).take (b - a)) := by
  refine ⟨?_, fun x hx => h.2 x (List.mem_of_mem_drop (List.mem_of_mem_take hx))⟩
  rw [h.1]
  unfold str
  rw [ByteArray.extract_mk]
  simp [List.map_take, List.map_drop]
theorem IsStr.beq {s t : ByteArray} {L M : List Int} (h : IsStr s L) (k : IsStr t M) : (s.toList == t.toList) = decide (L = M) := by
  by_cases e : L = M
  · subst e
    rw [h.1, k.1]; simp
  · rw [decide_eq_false e, beq_eq_false_iff_ne]
    intro he
    exact e (str_inj h.2 k.2 (by rw [← h.1, ← k.1]; exact toList_inj he))
theorem IsStr.inj {s : ByteArray} {L M : List Int} (h : IsStr s L) (k : IsStr s M) : L = M := str_inj h.2 k.2 (by rw [← h.1, ← k.1])
theorem ret_bool {a b : Bool} (h : a = b) : Ending.returned (.bool a) = .returned (.bool b) := by rw [h]
theorem ret_int {k : IntKind} {a b : Int} (h : a = b) : Ending.returned (.int k a) = .returned (.int k b) := by rw [h]
theorem bcell {W w1 : World} (hb : Below W.heap.size W w1) : (∀ b o, b < W.heap.size → w1.cell? ⟨b, o, none⟩ = W.cell? ⟨b, o, none⟩) ∧ (∀ b o, b < W.heap.size → w1.frozen? ⟨b, o, none⟩ = W.frozen? ⟨b, o, none⟩) :=
  ⟨fun b o h => hb.cell (p := ⟨b, o, none⟩) h, fun b o h => hb.frozen (p := ⟨b, o, none⟩) h⟩
theorem below_set4 {B g : Nat} {w w1 : World} (h : Below B w w1) (hg : B ≤ g) (a b c d : Value) : Below B w ((((w1.setCell ⟨g, 0, none⟩ a).setCell ⟨g, 1, none⟩ b).setCell ⟨g, 2, none⟩ c).setCell ⟨g, 3, none⟩ d) :=
  (((h.setCell (p := ⟨g, 0, none⟩) hg _).setCell (p := ⟨g, 1, none⟩) hg _).setCell (p := ⟨g, 2, none⟩) hg _).setCell (p := ⟨g, 3, none⟩) hg _
theorem held1 {B : Nat} {w w' : World} {p : Prop} (h : Below B w w' ∧ p) : Below B w w' := h.1
theorem below_drewN {B : Nat} {a w : World} (h : Below B a w) (n : Nat) : Below B a (w.drewN n) := ⟨h.os, h.tape, h.output, h.size, h.block⟩
end Go.Em

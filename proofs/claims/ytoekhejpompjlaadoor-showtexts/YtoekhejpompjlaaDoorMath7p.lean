/- The bytes of an expression's text. -/
import Derived.Test.YtoekhejpompjlaaDoorPureC
import Derived.Test.YtoekhejpompjlaaDoorPureA
namespace Go.Em7
open Go.RowKit Go.Em5

def Byt (L : List Int) : Prop := ∀ x ∈ L, 0 ≤ x ∧ x ≤ 255
theorem byt_app {a b : List Int} (ha : Byt a) (hb : Byt b) : Byt (a ++ b) := fun x hx => by
  rcases List.mem_append.1 hx with h | h
  · exact ha x h
  · exact hb x h
theorem byt_tx {ts : List (List Int)} (h : ∀ t ∈ ts, Byt t) (i : Nat) : Byt (tx ts i) := by
  unfold tx
  cases hi : ts[i]? with
  | none => intro x hx; cases hx
  | some t => exact h t (List.mem_of_getElem? hi)
theorem byt_sign (op : List Int) : Byt (signOf op) := by
  unfold signOf
  split
  · unfold Byt; decide
  split
  · unfold Byt; decide
  split
  · unfold Byt; decide
  split
  · unfold Byt; decide
  split
  · unfold Byt; decide
  split
  · unfold Byt; decide
  split
  · unfold Byt; decide
  split
  · unfold Byt; decide
  split
  · unfold Byt; decide
  split
  · unfold Byt; decide
  · unfold Byt; decide
theorem byt_digs (n : Nat) : Byt (digs n) := fun x hx => by
  have := digsF_mem 20 n x hx
  omega
theorem byt_inner {op nm ar : List Int} {ts : List (List Int)} (ho : Byt op) (hn : Byt nm) (ha : Byt ar) (ht : ∀ t ∈ ts, Byt t) : Byt (innerB op nm ar ts) := by
  have t0 := byt_tx ht 0
  have t1 := byt_tx ht 1
  have t2 := byt_tx ht 2
  have hs := byt_sign op
  unfold innerB
  split
  · exact byt_app (byt_app t0 hs) t1
  split
  · exact byt_app (byt_app (byt_app (by unfold Byt; decide) hn) (by unfold Byt; decide)) t0
  split
  · exact byt_app (byt_app (byt_app (byt_app (byt_app (by unfold Byt; decide) hn) (by unfold Byt; decide)) t0) (by unfold Byt; decide)) t1
  split
  · exact byt_app (byt_app (byt_app (byt_app (byt_app (byt_app (byt_app (by unfold Byt; decide) hn) (by unfold Byt; decide)) ha) (by unfold Byt; decide)) t0) (by unfold Byt; decide)) t1
  split
  · exact byt_app (byt_app (byt_app (byt_app (byt_app (by unfold Byt; decide) t0) (by unfold Byt; decide)) t1) (by unfold Byt; decide)) t2
  split
  · exact byt_app (byt_app (byt_app (byt_app (byt_app (byt_app (byt_app (byt_app (byt_app (by unfold Byt; decide) t0) (by unfold Byt; decide)) t1) (by unfold Byt; decide)) hn) (by unfold Byt; decide)) ha) (by unfold Byt; decide)) t2
  split
  · exact byt_app (byt_app (byt_app (byt_app (byt_app (by unfold Byt; decide) t0) (by unfold Byt; decide)) hn) (by unfold Byt; decide)) t1
  · refine byt_app ho fun x hx => ?_
    obtain ⟨t, h1, h2⟩ := List.mem_flatMap.1 hx
    rcases List.mem_cons.1 h2 with rfl | h2
    · omega
    · exact ht t h1 x h2
theorem byt_text {op nm ar : List Int} {n : Int} {ts : List (List Int)} (ho : Byt op) (hn : Byt nm) (ha : Byt ar) (ht : ∀ t ∈ ts, Byt t) : Byt (textB op nm ar n ts) := by
  have t0 := byt_tx ht 0
  have t1 := byt_tx ht 1
  unfold textB
  split
  · exact byt_digs _
  split
  · split
    · unfold Byt; decide
    · unfold Byt; decide
  split
  · unfold Byt; decide
  split
  · unfold Byt; decide
  split
  · exact byt_app (byt_app (by unfold Byt; decide) hn) (by unfold Byt; decide)
  split
  · exact hn
  split
  · exact byt_app (byt_app (byt_app (byt_app (by unfold Byt; decide) t0) (by unfold Byt; decide)) t1) (by unfold Byt; decide)
  split
  · exact byt_app (by unfold Byt; decide) t0
  · exact byt_app (byt_app (by unfold Byt; decide) (byt_inner ho hn ha ht)) (by unfold Byt; decide)
/-- The text of what lies in memory is of bytes. -/
theorem text_byt {w : World} (T : Nd) : ∀ v, IsNd w T v → Byt (text T) := by
  induction T using Nd.ind with
  | h op nm ar n p l ih =>
    intro v h
    unfold IsNd at h
    obtain ⟨a, cap, -, t1, t2, t3, -, -, -, -, hk⟩ := h
    show Byt (textB op nm ar n (texts l))
    refine byt_text t1.1 t2.1 t3.1 fun t ht => ?_
    rw [texts_map] at ht
    obtain ⟨x, hx, rfl⟩ := List.mem_map.1 ht
    obtain ⟨j, hj, e⟩ := List.getElem_of_mem hx
    obtain ⟨b, off, -, -, hka⟩ := hk (by omega)
    obtain ⟨c0, c1, c2, c3, c4, c5, -, -, -, -, -, -, kn⟩ := kidsAt_get l off j x hka (by rw [List.getElem?_eq_getElem hj, e])
    exact ih x hx _ kn
end Go.Em7

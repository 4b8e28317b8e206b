/- Of two expressions that are one, places aside, both are such or neither. No program is named here. -/
import Derived.Test.YtoekhejpompjlaaDoorPureC
namespace Go.Em7
open Go.RowKit Go.Em5

mutual
theorem same_each : ∀ a b : Nd, same a b = true → each a = each b
  | .mk op nm ar n p l, .mk op' nm' ar' n' p' l', h => by
    simp only [same, Bool.and_eq_true, decide_eq_true_eq] at h
    obtain ⟨rfl, rfl, rfl, rfl, h⟩ := h
    obtain ⟨h1, h2⟩ := sames_each l l' h
    simp only [each, namesOk, Nd.op, Nd.nm, Nd.ar, Nd.n]
    rw [h1, h2]
theorem sames_each : ∀ l m : List Nd, sames l m = true → l.length = m.length ∧ eachs l = eachs m
  | [], [], _ => ⟨rfl, rfl⟩
  | [], _ :: _, h => by simp [sames] at h
  | _ :: _, [], h => by simp [sames] at h
  | a :: l, b :: m, h => by
    simp only [sames, Bool.and_eq_true] at h
    obtain ⟨h1, h2⟩ := sames_each l m h.2
    simp only [eachs, List.length_cons]
    rw [same_each a b h.1, h1, h2]
    exact ⟨rfl, rfl⟩
end
mutual
theorem same_size : ∀ a b : Nd, same a b = true → a.size = b.size
  | .mk op nm ar n p l, .mk op' nm' ar' n' p' l', h => by
    simp only [same, Bool.and_eq_true, decide_eq_true_eq] at h
    obtain ⟨rfl, rfl, rfl, rfl, h⟩ := h
    rw [Nd.size, Nd.size, sames_size l l' h]
theorem sames_size : ∀ l m : List Nd, sames l m = true → sizes l = sizes m
  | [], [], _ => rfl
  | [], _ :: _, h => by simp [sames] at h
  | _ :: _, [], h => by simp [sames] at h
  | a :: l, b :: m, h => by
    simp only [sames, Bool.and_eq_true] at h
    simp only [sizes]
    rw [same_size a b h.1, sames_size l m h.2]
end
theorem same_isNd {a b : Nd} (h : same a b = true) : isNd a = isNd b := by
  unfold isNd
  rw [same_each a b h, same_size a b h]
end Go.Em7

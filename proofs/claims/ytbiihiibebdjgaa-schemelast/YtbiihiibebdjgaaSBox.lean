/- Schemes in boxes (package scheme's laws). -/
import Derived.Test.YtbiihiibebdjgaaKnown10
import Derived.Test.YtbiihiibebdjgaaBdOwn
namespace Go.Proofs.Ytbiihiibebdjgaa
open Go.RowKit Go.Em8
set_option linter.unusedSimpArgs false
set_option linter.unusedVariables false

/-- A box that holds a scheme. -/
def SBox (w : World) (g : Nat) (L : List Int) (T : Ty) : Prop :=
  ∃ va vk vc s n ka kl kc, w.heap[g]? = some (.cells #[.slice va vk vc, .string s, .int .i64 n, .slice ka kl kc] 31 (0, 0)) ∧ IsInts w (.slice va vk vc) L ∧ IsTy w T (.agg #[.string s, .int .i64 n, .slice ka kl kc])
theorem SBox.below {w w' : World} {g : Nat} {L : List Int} {T : Ty} (h : SBox w g L T) (hb : Below w.heap.size w w') : SBox w' g L T := by
  obtain ⟨va, vk, vc, s, n, ka, kl, kc, h1, h2, h3⟩ := h
  exact ⟨va, vk, vc, s, n, ka, kl, kc, (hb.block _ (Array.getElem?_eq_some_iff.1 h1).1).trans h1, h2.below hb, isTy_below hb _ _ h3⟩
theorem SBox.made {w : World} {L : List Int} {T : Ty} {va ka : Option Addr} {vk vc kl kc : Nat} {s : ByteArray} {n : Int} (h2 : IsInts w (.slice va vk vc) L) (h3 : IsTy w T (.agg #[.string s, .int .i64 n, .slice ka kl kc])) :
    SBox (w.alloc (.cells #[.slice va vk vc, .string s, .int .i64 n, .slice ka kl kc] 31)) w.heap.size L T := by
  have hb : Below w.heap.size w (w.alloc (.cells #[.slice va vk vc, .string s, .int .i64 n, .slice ka kl kc] 31)) := (Below.refl _ _).alloc (Nat.le_refl _) _
  exact ⟨va, vk, vc, s, n, ka, kl, kc, World.alloc_heap_new w _, h2.below hb, isTy_below hb _ _ h3⟩
theorem box4_cells {w : World} {g : Nat} {c0 c1 c2 c3 : Value} {t : TypeId} (h : w.heap[g]? = some (.cells #[c0, c1, c2, c3] t (0, 0))) : w.cell? ⟨g, 0, none⟩ = some c0 ∧ w.cell? ⟨g, 1, none⟩ = some c1 ∧ w.cell? ⟨g, 2, none⟩ = some c2 ∧ w.cell? ⟨g, 3, none⟩ = some c3 ∧ ∀ o, w.frozen? ⟨g, o, none⟩ = false :=
  ⟨by simp [World.cell?, h], by simp [World.cell?, h], by simp [World.cell?, h], by simp [World.cell?, h], fun o => by simp [World.frozen?, h]⟩
abbrev set4 (x : World) (g : Nat) (a b c d : Value) : World := (((x.setCell ⟨g, 0, none⟩ a).setCell ⟨g, 1, none⟩ b).setCell ⟨g, 2, none⟩ c).setCell ⟨g, 3, none⟩ d
theorem set4_same {x : World} {g : Nat} {o0 o1 o2 o3 a b c d : Value} {t : TypeId} (h : x.heap[g]? = some (.cells #[o0, o1, o2, o3] t (0, 0))) : (set4 x g a b c d).heap[g]? = some (.cells #[a, b, c, d] t (0, 0)) := by
  simp [set4, World.setCell, Array.getElem?_modify, h]
theorem set4_other {x : World} {g k : Nat} {a b c d : Value} (h : k ≠ g) : (set4 x g a b c d).heap[k]? = x.heap[k]? := by
  unfold set4
  rw [Below.heap_setCell _ _ _ _ (by simp; exact h), Below.heap_setCell _ _ _ _ (by simp; exact h), Below.heap_setCell _ _ _ _ (by simp; exact h), Below.heap_setCell _ _ _ _ (by simp; exact h)]
theorem set4_size (x : World) (g : Nat) (a b c d : Value) : (set4 x g a b c d).heap.size = x.heap.size := by simp [set4]
theorem OwnInts.neS {x : World} {B g : Nat} {v : Value} {l : List Int} {c : Array Value} (h : OwnInts x B v l) (hg : x.heap[g]? = some (.cells c 31 (0, 0))) : some g ≠ v.ownBlock := by
  intro e
  rcases h.cases with ⟨rfl, -⟩ | ⟨g', cap, cur, rfl, -, -, -, -, hh, -⟩
  · cases e
  · cases e
    rw [hg] at hh
    simp at hh
theorem OwnInts.set4 {x : World} {B g : Nat} {v a b c d : Value} {l : List Int} (h : OwnInts x B v l) (hne : some g ≠ v.ownBlock) : OwnInts (set4 x g a b c d) B v l := (((h.setOther hne).setOther hne).setOther hne).setOther hne
theorem isTyP_set4 {P : Nat → Prop} {x : World} {g : Nat} {a b c d : Value} {t : Ty} {v : Value} (h : IsTyP P x t v) (hg : ¬ P g) : IsTyP P (Go.Proofs.Ytbiihiibebdjgaa.set4 x g a b c d) t v :=
  isTyP_keep (by rw [set4_size]; exact Nat.le_refl _) (fun k hk _ => ⟨set4_other (g := g) (fun e => hg (by rw [← e]; exact hk)), hk⟩) _ _ h
theorem isTyP_below {P : Nat → Prop} {w w' : World} {t : Ty} {v : Value} (h : IsTyP P w t v) (hb : Below w.heap.size w w') : IsTyP P w' t v := isTyP_keep hb.size (fun k hk hl => ⟨hb.block k hl, hk⟩) _ _ h
/-- The type's blocks lie between two marks. -/
def Btw (lo hi b : Nat) : Prop := lo ≤ b ∧ b < hi
theorem isTyP_btw {w : World} {lo : Nat} {t : Ty} {v : Value} (h : IsTyP (fun b => lo ≤ b) w t v) : IsTyP (Btw lo w.heap.size) w t v := isTyP_wide h fun _ h1 h2 => ⟨h1, h2⟩
abbrev zeroS : Obj := .cells #[.slice none 0 0, .string ⟨#[]⟩, .int .i64 0, .slice none 0 0] 31
/-- A scheme stored in a box that was made beside it. -/
theorem sbox_set {x : World} {g lo hi B : Nat} {c : Array Value} {L : List Int} {T : Ty} {va ka : Option Addr} {vk vc kl kc : Nat} {s : ByteArray} {n : Int} {o0 o1 o2 o3 : Value} (h : x.heap[g]? = some (.cells #[o0, o1, o2, o3] 31 (0, 0)))
    (ho : OwnInts x B (.slice va vk vc) L) (hi64 : ∀ y ∈ L, Em5.I64 y) (ht : IsTyP (Btw lo hi) x T (.agg #[.string s, .int .i64 n, .slice ka kl kc])) (hg : g < lo ∨ hi ≤ g) : SBox (set4 x g (.slice va vk vc) (.string s) (.int .i64 n) (.slice ka kl kc)) g L T :=
  ⟨va, vk, vc, s, n, ka, kl, kc, set4_same h, (ho.set4 (ho.neS h)).is hi64, isTyP_is _ _ (isTyP_set4 ht (by unfold Btw; omega))⟩
/-- Two schemes stored in two boxes that were made beside them. -/
theorem sbox_two {X x : World} {g7 g8 lo hi B B' : Nat} {L L' : List Int} {T : Ty} {va ka va' ka' : Option Addr} {vk vc kl kc vk' vc' kl' kc' : Nat} {s s' : ByteArray} {n n' : Int} (h7 : x.heap[g7]? = some zeroS) (h8 : x.heap[g8]? = some zeroS) (hne : g7 ≠ g8) (hX7 : X.heap.size ≤ g7) (hX8 : X.heap.size ≤ g8) (hb : Below X.heap.size X x)
    (ho : OwnInts x B (.slice va vk vc) L) (hi64 : ∀ y ∈ L, Em5.I64 y) (ht : IsTyP (Btw lo hi) x T (.agg #[.string s, .int .i64 n, .slice ka kl kc])) (hg7 : g7 < lo ∨ hi ≤ g7) (hg8 : g8 < lo ∨ hi ≤ g8)
    (ho' : OwnInts x B' (.slice va' vk' vc') L') (hi64' : ∀ y ∈ L', Em5.I64 y) (ht' : IsTy X T (.agg #[.string s', .int .i64 n', .slice ka' kl' kc'])) :
    SBox (set4 (set4 x g7 (.slice va vk vc) (.string s) (.int .i64 n) (.slice ka kl kc)) g8 (.slice va' vk' vc') (.string s') (.int .i64 n') (.slice ka' kl' kc')) g7 L T ∧ SBox (set4 (set4 x g7 (.slice va vk vc) (.string s) (.int .i64 n) (.slice ka kl kc)) g8 (.slice va' vk' vc') (.string s') (.int .i64 n') (.slice ka' kl' kc')) g8 L' T ∧
      Below X.heap.size X (set4 (set4 x g7 (.slice va vk vc) (.string s) (.int .i64 n) (.slice ka kl kc)) g8 (.slice va' vk' vc') (.string s') (.int .i64 n') (.slice ka' kl' kc')) := by
  have hbel := below_set4 (below_set4 hb hX7 (.slice va vk vc) (.string s) (.int .i64 n) (.slice ka kl kc)) hX8 (.slice va' vk' vc') (.string s') (.int .i64 n') (.slice ka' kl' kc')
  have h8' : (set4 x g7 (.slice va vk vc) (.string s) (.int .i64 n) (.slice ka kl kc)).heap[g8]? = some zeroS := (set4_other (fun e => hne e.symm)).trans h8
  have o1 := ho.set4 (a := .slice va vk vc) (b := .string s) (c := .int .i64 n) (d := .slice ka kl kc) (ho.neS h7)
  have o2 := ho'.set4 (a := .slice va vk vc) (b := .string s) (c := .int .i64 n) (d := .slice ka kl kc) (ho'.neS h7)
  refine ⟨⟨va, vk, vc, s, n, ka, kl, kc, (set4_other hne).trans (set4_same h7), (o1.set4 (o1.neS h8')).is hi64, isTyP_is _ _ (isTyP_set4 (isTyP_set4 ht (by unfold Btw; omega)) (by unfold Btw; omega))⟩, ⟨va', vk', vc', s', n', ka', kl', kc', set4_same h8', (o2.set4 (o2.neS h8')).is hi64', isTy_below hbel _ _ ht'⟩, hbel⟩

/-- What a Look comes to. -/
def lookR (l : List Bd) (nm : List Int) : Bool × List Int × Ty := match lastB l nm with
  | some x => (true, x.vs, x.ty)
  | none => (false, [], .mk [] 0 [])
theorem isTy_zero (w : World) : IsTy w (.mk [] 0 []) (.agg #[.string ⟨#[]⟩, .int .i64 0, .slice none 0 0]) := by
  unfold IsTy
  exact ⟨none, 0, rfl, ⟨by simp, by simp⟩, by unfold Em5.I64; omega, by simp, by simp, by simp⟩
theorem isInts_nil (w : World) : IsInts w (.slice none 0 0) [] := ⟨none, 0, rfl, by simp, by simp [maxLen], by simp, by simp⟩
def LookU (w : World) (r : Bool × List Int × Ty) (e : Ending) (w' : World) : Prop :=
  ∃ va vk vc s n ka kl kc, e = .returned (.tuple #[.agg #[.slice va vk vc, .string s, .int .i64 n, .slice ka kl kc], .bool r.1]) ∧ IsInts w' (.slice va vk vc) r.2.1 ∧ IsTy w' r.2.2 (.agg #[.string s, .int .i64 n, .slice ka kl kc]) ∧ Below w.heap.size w w'
theorem LookOk.uni {w w' : World} {l : List Bd} {nm : List Int} {e : Ending} (h : LookOk w l nm e w') : LookU w (lookR l nm) e w' := by
  obtain ⟨hb, ⟨x, va, vk, vc, s, n, ka, kl, kc, h1, h2, h3, h4⟩ | ⟨h1, h2⟩⟩ := h
  · unfold lookR; rw [h1]; exact ⟨va, vk, vc, s, n, ka, kl, kc, h2, h3, h4, hb⟩
  · unfold lookR; rw [h1]; exact ⟨none, 0, 0, _, 0, none, 0, 0, h2, isInts_nil _, isTy_zero _, hb⟩
theorem SBox.all {w : World} {g : Nat} {L : List Int} {T : Ty} (h : SBox w g L T) : ∃ va vk vc s n ka kl kc, Hid (∀ w', Below w.heap.size w w' → w'.cell? ⟨g, 0, none⟩ = some (.slice va vk vc) ∧ w'.cell? ⟨g, 1, none⟩ = some (.string s) ∧ w'.cell? ⟨g, 2, none⟩ = some (.int .i64 n) ∧ w'.cell? ⟨g, 3, none⟩ = some (.slice ka kl kc) ∧ IsInts w' (.slice va vk vc) L ∧ IsTy w' T (.agg #[.string s, .int .i64 n, .slice ka kl kc])) := by
  obtain ⟨va, vk, vc, s, n, ka, kl, kc, h1, h2, h3⟩ := h
  refine ⟨va, vk, vc, s, n, ka, kl, kc, fun w' hb => ?_⟩
  obtain ⟨c0, c1, c2, c3, -⟩ := box4_cells ((hb.block _ (Array.getElem?_eq_some_iff.1 h1).1).trans h1)
  exact ⟨c0, c1, c2, c3, h2.below hb, isTy_below hb _ _ h3⟩
theorem isBds_one {w : World} {g : Nat} {x : Bd} {c0 c1 c2 c3 c4 : Value} {t : TypeId} (h : w.heap[g]? = some (.cells #[c0, c1, c2, c3, c4] t (0, 0))) (hx : IsBd w x c0 c1 c2 c3 c4) : IsBds w (.slice (some ⟨g, 0, none⟩) 1 1) [x] := by
  refine ⟨some ⟨g, 0, none⟩, 1, rfl, by simp, by simp, fun _ => ⟨g, 0, rfl, (Array.getElem?_eq_some_iff.1 h).1, fun j y hj => ?_⟩⟩
  match j, hj with
  | 0, hj =>
    simp at hj
    subst hj
    exact ⟨c0, c1, c2, c3, c4, by simp [World.cell?, h], by simp [World.cell?, h], by simp [World.cell?, h], by simp [World.cell?, h], by simp [World.cell?, h], hx⟩
theorem lastB_app (l : List Bd) (x : Bd) : lastB (l ++ [x]) x.nm = some x := by
  unfold lastB
  simp
theorem BdsOk.app {l : List Bd} {x : Bd} (h : l.length < 20 ∧ ∀ x ∈ l, MayBd x) (hx : x.ty.size ≤ 2000) (hv : x.vs.length ≤ 1000) : BdsOk (l ++ [x]) := by
  refine ⟨by simp; omega, fun b hb => ?_⟩
  rcases List.mem_append.1 hb with hb | hb
  · have := h.2 b hb
    exact ⟨this.1, by have := this.2.2; omega⟩
  · simp at hb
    subst hb
    exact ⟨hx, hv⟩
end Go.Proofs.Ytbiihiibebdjgaa

/- A Sub of the document's own: its two rows and its number, and what becomes of it where other memory is written. -/
import Derived.Test.YtadhjnbhcenocaaROf
namespace Go.Proofs.Ytadhjnbhcenocaa
open Go.RowKit Go.Em8 Go.Em9
set_option linter.unusedSimpArgs false
set_option linter.unusedVariables false

theorem ownTys_keepB {P : Nat → Prop} {e : TypeId} {w w' : World} {B : Nat} {v : Value} {l : List Ty} (h : OwnTys P e w B v l) (hs : w.heap.size ≤ w'.heap.size) (hb : ∀ b, (P b ∨ some b = v.ownBlock) → b < w.heap.size → w'.heap[b]? = w.heap[b]?) : OwnTys P e w' B v l := by
  obtain ⟨cs, hcs, hown, hel⟩ := h
  refine ⟨cs, hcs, ⟨hown.1, ?_⟩, fun j t c hj hc => isTyP_keep hs (fun b hp hl => ⟨hb b (.inl hp.1) hl, hp⟩) t _ (hel j t c hj hc)⟩
  rcases hown.2 with h1 | ⟨g, gc, cur, h1, h2, h3, h4⟩
  · exact .inl h1
  · refine .inr ⟨g, gc, cur, h1, h2, ?_, h4⟩
    have hlt := World.ownsRow.lt hown g (by rw [h1]; rfl)
    rw [hb g (.inr (by rw [h1]; rfl)) hlt.2]; exact h3
theorem ownInts_keepB {w w' : World} {B : Nat} {v : Value} {l : List Int} (h : OwnInts w B v l) (hb : ∀ b, some b = v.ownBlock → w'.heap[b]? = w.heap[b]?) : OwnInts w' B v l := by
  refine ⟨h.1, ?_⟩
  rcases h.2 with h1 | ⟨g, gc, cur, h1, h2, h3, h4⟩
  · exact .inl h1
  · refine .inr ⟨g, gc, cur, h1, h2, ?_, h4⟩
    rw [hb g (by rw [h1]; rfl)]
    exact h3

/-- The blocks that a Sub itself lies in. -/
def SubOf (sb : Nat) (vv tt : Value) (b : Nat) : Prop := b = sb ∨ some b = vv.ownBlock ∨ some b = tt.ownBlock
/-- In the world w the block sb is a Sub that says D: its rows vv, tt are its own, from block B on, and what the types of the second lie in is of Z, and none of the Sub's own blocks. -/
structure Sub9 (w : World) (B : Nat) (Z : Nat → Prop) (sb : Nat) (vv tt : Value) (D : Said) (N : Int) : Prop where
  c0 : w.cell? ⟨sb, 0, none⟩ = some vv
  c1 : w.cell? ⟨sb, 1, none⟩ = some tt
  c2 : w.cell? ⟨sb, 2, none⟩ = some (.int .i64 N)
  fz : ∀ o, w.frozen? ⟨sb, o, none⟩ = false
  own : OwnInts w B vv (D.map (·.1))
  i64 : ∀ p ∈ D, Em5.I64 p.1
  tys : OwnTys (fun b => Z b ∧ b ≠ sb ∧ some b ≠ vv.ownBlock) 25 w B tt (D.map (·.2))
  hsb : B ≤ sb
  nv : some sb ≠ vv.ownBlock
  nt : some sb ≠ tt.ownBlock
  vt : vv.ownBlock = none ∨ vv.ownBlock ≠ tt.ownBlock
  len : D.length ≤ 1000000
theorem Sub9.lt {w : World} {B : Nat} {Z : Nat → Prop} {sb : Nat} {vv tt : Value} {D : Said} {N : Int} (h : Sub9 w B Z sb vv tt D N) : sb < w.heap.size := Em.cell_lt h.c0
theorem Sub9.of_lt {w : World} {B : Nat} {Z : Nat → Prop} {sb : Nat} {vv tt : Value} {D : Said} {N : Int} (h : Sub9 w B Z sb vv tt D N) {k : Nat} (hk : SubOf sb vv tt k) : B ≤ k ∧ k < w.heap.size := by
  rcases hk with rfl | e | e
  · exact ⟨h.hsb, h.lt⟩
  · exact World.ownsRow.lt h.own k e.symm
  · obtain ⟨cs, -, hr, -⟩ := h.tys
    exact World.ownsRow.lt hr k e.symm
theorem Sub9.below {w w' : World} {B : Nat} {Z : Nat → Prop} {sb : Nat} {vv tt : Value} {D : Said} {N : Int} (h : Sub9 w B Z sb vv tt D N) (hb : Below w.heap.size w w') : Sub9 w' B Z sb vv tt D N := by
  have hlt := h.lt
  have key : ∀ o, w'.cell? ⟨sb, o, none⟩ = w.cell? ⟨sb, o, none⟩ := fun o => hb.cell (p := ⟨sb, o, none⟩) hlt
  exact ⟨by rw [key]; exact h.c0, by rw [key]; exact h.c1, by rw [key]; exact h.c2, fun o => by rw [hb.frozen (p := ⟨sb, o, none⟩) hlt]; exact h.fz o, h.own.below hb, h.i64, ownTys_below h.tys hb, h.hsb, h.nv, h.nt, h.vt, h.len⟩
theorem Sub9.r {w : World} {B : Nat} {Z : Nat → Prop} {sb : Nat} {vv tt : Value} {D : Said} {N : Int} (h : Sub9 w B Z sb vv tt D N) : SubR w sb D := by
  have hI := h.own.is (fun x hx => by obtain ⟨p, hp, rfl⟩ := List.mem_map.1 hx; exact h.i64 p hp)
  obtain ⟨va, vc, e0⟩ := h.own.form
  obtain ⟨ta, tc, e1, -, -⟩ := ownTys_form h.tys
  have c0 := h.c0
  have c1 := h.c1
  rw [e0, List.length_map] at c0
  rw [e1, List.length_map] at c1
  refine ⟨va, vc, ta, tc, c0, c1, h.len, fun hp => ?_⟩
  obtain ⟨b, off, cap, e2, -, -, hb, hc⟩ := hI.plain (by simpa using hp)
  obtain ⟨ta', tc', e3, -, -, h3⟩ := ownTys_isP h.tys
  obtain ⟨b', off', e4, hb', hat⟩ := h3 (by simpa using hp)
  rw [e0] at e2
  rw [e1] at e3
  cases e2
  cases e3
  refine ⟨b, off, b', off', rfl, hb, e4, hb', fun j p hj => hc j p.1 (by rw [List.getElem?_map, hj]; rfl), tysAt_mk _ off' fun j t hj => ?_⟩
  obtain ⟨c0, c1, c2, k0, k1, k2, kn⟩ := tysAtP_get _ off' j t hat hj
  exact ⟨c0, c1, c2, k0, k1, k2, isTyP_is _ _ kn⟩
/-- Its number is another; all other blocks that were are as they were. -/
theorem Sub9.turn {w w' : World} {B : Nat} {Z : Nat → Prop} {sb : Nat} {vv tt : Value} {D : Said} {N N' : Int} (h : Sub9 w B Z sb vv tt D N) (hs : w.heap.size ≤ w'.heap.size) (hb : ∀ k, k < w.heap.size → k ≠ sb → w'.heap[k]? = w.heap[k]?)
    (k0 : w'.cell? ⟨sb, 0, none⟩ = some vv) (k1 : w'.cell? ⟨sb, 1, none⟩ = some tt) (k2 : w'.cell? ⟨sb, 2, none⟩ = some (.int .i64 N')) (hf : ∀ o, w'.frozen? ⟨sb, o, none⟩ = false) : Sub9 w' B Z sb vv tt D N' := by
  refine ⟨k0, k1, k2, hf, ownInts_keepB h.own (fun b e => hb b (World.ownsRow.lt h.own b e.symm).2 (fun e2 => h.nv (by rw [← e2]; exact e))), h.i64, ownTys_keepB h.tys hs (fun b hp hl => hb b hl ?_), h.hsb, h.nv, h.nt, h.vt, h.len⟩
  rcases hp with hp | hp
  · exact hp.2.1
  · exact fun e => h.nt (by rw [← e]; exact hp)
/-- A new one. -/
theorem sub_start (w : World) (Z : Nat → Prop) {g : Nat} (hg : g = w.heap.size) : Sub9 (w.alloc (.cells #[.slice none 0 0, .slice none 0 0, .int .i64 0] 34)) g Z g (.slice none 0 0) (.slice none 0 0) [] 0 := by
  subst hg
  exact ⟨by simp, by simp, by simp, fun o => by simp [go_sem], OwnInts.nil _ _, by simp, OwnTys.nil _ _ _ _, Nat.le_refl _, by simp [Value.ownBlock], by simp [Value.ownBlock], .inl rfl, by simp⟩

end Go.Proofs.Ytadhjnbhcenocaa

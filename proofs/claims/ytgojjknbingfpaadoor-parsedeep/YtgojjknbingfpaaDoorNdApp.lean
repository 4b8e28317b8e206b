/- 'append(l, n)' onto expressions of a call's own. -/
import Derived.Test.YtgojjknbingfpaaDoorProg
import Derived.Test.YtgojjknbingfpaaDoorNdOwn
import Derived.Test.YtgojjknbingfpaaDoorPaI
import Derived.WalkKit
import Derived.WalkSpells
import Derived.WalkLawsBesides
namespace Go.Proofs.YtgojjknbingfpaaDoor
open Go.RowKit Go.Em5 Go.Em6
set_option linter.unusedSimpArgs false

theorem infoNd : (Tryd.prog.info? 24).map (fun i => (i.zero, i.size, i.bytes)) = some (some (.agg #[.string ⟨#[]⟩, .string ⟨#[]⟩, .string ⟨#[]⟩, .int .i64 0, .int .i64 0, .slice none 0 0]), 6, 88) := by kernel_rfl
theorem cells_six (w : World) (t : TypeId) {g : Nat} (hg : g = w.heap.size) (a b c d e f : Value) : ∀ j u, [a, b, c, d, e, f][j]? = some u → (w.alloc (.cells #[a, b, c, d, e, f] t)).cell? ((⟨g, 0, none⟩ : Addr).add j) = some u := by
  subst hg
  intro j u hj
  match j, hj with
  | 0, hj => simpa [Addr.add] using hj
  | 1, hj => simpa [Addr.add] using hj
  | 2, hj => simpa [Addr.add] using hj
  | 3, hj => simpa [Addr.add] using hj
  | 4, hj => simpa [Addr.add] using hj
  | 5, hj => simpa [Addr.add] using hj
  | j + 6, hj => simp at hj

/-- Six cells are written, one behind the other. -/
def put6 (w : World) (r o : Nat) (c0 c1 c2 c3 c4 c5 : Value) : World := (((((w.setCell ⟨r, o, none⟩ c0).setCell ⟨r, o + 1, none⟩ c1).setCell ⟨r, o + 2, none⟩ c2).setCell ⟨r, o + 3, none⟩ c3).setCell ⟨r, o + 4, none⟩ c4).setCell ⟨r, o + 5, none⟩ c5
theorem put6_size (w : World) (r o : Nat) (c0 c1 c2 c3 c4 c5 : Value) : (put6 w r o c0 c1 c2 c3 c4 c5).heap.size = w.heap.size := by simp [put6]
theorem put6_far (w : World) (r o : Nat) (c0 c1 c2 c3 c4 c5 : Value) (b : Nat) (hb : b ≠ r) : (put6 w r o c0 c1 c2 c3 c4 c5).heap[b]? = w.heap[b]? := by
  unfold put6
  rw [Below.heap_setCell _ _ _ _ hb, Below.heap_setCell _ _ _ _ hb, Below.heap_setCell _ _ _ _ hb, Below.heap_setCell _ _ _ _ hb, Below.heap_setCell _ _ _ _ hb, Below.heap_setCell _ _ _ _ hb]
def set6A (cur : Array Value) (o : Nat) (c0 c1 c2 c3 c4 c5 : Value) : Array Value := (((((cur.setIfInBounds o c0).setIfInBounds (o + 1) c1).setIfInBounds (o + 2) c2).setIfInBounds (o + 3) c3).setIfInBounds (o + 4) c4).setIfInBounds (o + 5) c5
theorem put6_near (w : World) (r o : Nat) (c0 c1 c2 c3 c4 c5 : Value) (cur : Array Value) (e : TypeId) (h : w.heap[r]? = some (.cells cur e (0, 0))) : (put6 w r o c0 c1 c2 c3 c4 c5).heap[r]? = some (.cells (set6A cur o c0 c1 c2 c3 c4 c5) e (0, 0)) :=
  heap_set _ _ _ _ (heap_set _ _ _ _ (heap_set _ _ _ _ (heap_set _ _ _ _ (heap_set _ _ _ _ (heap_set _ _ _ _ h)))))
theorem take_set6 (cur : Array Value) (o : Nat) (c0 c1 c2 c3 c4 c5 : Value) (xs zs : List Value) (hx : xs.length = o) (hs : o + 6 ≤ cur.size) (ht : cur.toList.take (o + 6) = xs ++ zs) : (set6A cur o c0 c1 c2 c3 c4 c5).toList.take (o + 6) = xs ++ [c0, c1, c2, c3, c4, c5] := by
  apply List.ext_getElem?
  intro i
  have hti : ∀ j, j < o → cur[j]? = xs[j]? := fun j hj => by
    have := congrArg (fun L => L[j]?) ht
    simp only [List.getElem?_take, if_pos (show j < o + 6 by omega)] at this
    rw [List.getElem?_append_left (by omega)] at this
    simpa using this
  by_cases h1 : i < o
  · rw [List.getElem?_take, if_pos (by omega), List.getElem?_append_left (by omega), ← hti i h1]
    simp only [Array.getElem?_toList, set6A, Array.getElem?_setIfInBounds]
    simp only [if_neg (show ¬ o + 5 = i by omega), if_neg (show ¬ o + 4 = i by omega), if_neg (show ¬ o + 3 = i by omega), if_neg (show ¬ o + 2 = i by omega), if_neg (show ¬ o + 1 = i by omega), if_neg (show ¬ o = i by omega)]
  · by_cases h2 : i < o + 6
    · rw [List.getElem?_take, if_pos h2, List.getElem?_append_right (by omega), hx]
      simp only [Array.getElem?_toList, set6A, Array.getElem?_setIfInBounds, Array.size_setIfInBounds]
      obtain ⟨k, hk, rfl⟩ : ∃ k, k < 6 ∧ i = o + k := ⟨i - o, by omega, by omega⟩
      rw [show o + k - o = k by omega]
      match k, hk with
      | 0, _ => simp; omega
      | 1, _ => simp; omega
      | 2, _ => simp; omega
      | 3, _ => simp; omega
      | 4, _ => simp; omega
      | 5, _ => simp; omega
    · rw [List.getElem?_eq_none (by simp; omega), List.getElem?_eq_none (by simp; omega)]

/-- 'append(l, zero)' onto expressions of one's own: what stands there then, and what it is once the last one is written. -/
theorem run_app0 {P : Nat → Prop} {w : World} (B : Nat) (v : Value) (l : List Nd) (hown : OwnNds P 24 w B v l) (ad : Addr) (hnews : ∀ j u, ([.string ⟨#[]⟩, .string ⟨#[]⟩, .string ⟨#[]⟩, .int .i64 0, .int .i64 0, .slice none 0 0] : List Value)[j]? = some u → w.cell? (ad.add j) = some u)
    (hsz : l.length ≤ 1000000) (hb : B ≤ w.heap.size) (ty : TypeId) :
    ∃ r cap w', (Builtin.append_ #[22, 22] ty #[v, .slice (some ad) 1 1]).run Tryd.prog w = .ok (.slice (some ⟨r, 0, none⟩) (l.length + 1) cap) w' ∧ B ≤ r ∧ r < w'.heap.size ∧ Below B w w' ∧ l.length + 1 ≤ cap ∧ cap ≤ 9223372036854775807 ∧
      w'.cell? ⟨r, l.length * 6, none⟩ = some (.string ⟨#[]⟩) ∧ w'.cell? ⟨r, l.length * 6 + 1, none⟩ = some (.string ⟨#[]⟩) ∧ w'.cell? ⟨r, l.length * 6 + 2, none⟩ = some (.string ⟨#[]⟩) ∧ w'.cell? ⟨r, l.length * 6 + 3, none⟩ = some (.int .i64 0) ∧ w'.cell? ⟨r, l.length * 6 + 4, none⟩ = some (.int .i64 0) ∧ w'.cell? ⟨r, l.length * 6 + 5, none⟩ = some (.slice none 0 0) ∧ (∀ o, w'.frozen? ⟨r, o, none⟩ = false) ∧
      (∀ (W : World) (t : Nd) (c0 c1 c2 c3 c4 c5 : Value), IsNdP (fun b => P b ∧ some b ≠ v.ownBlock) w t (.agg #[c0, c1, c2, c3, c4, c5]) → W.heap.size = w'.heap.size → W.heap[r]? = (put6 w' r (l.length * 6) c0 c1 c2 c3 c4 c5).heap[r]? → (∀ b, b ≠ r → (P b ∨ B ≤ b) → W.heap[b]? = w'.heap[b]?) → OwnNds P 24 W B (.slice (some ⟨r, 0, none⟩) (l.length + 1) cap) (l ++ [t])) := by
  obtain ⟨i0, hi, hz0, hz1, hz2⟩ := info_parts infoNd
  obtain ⟨cs, hcs, hrow, h6, hel⟩ := hown
  obtain ⟨v', w', hr, h2, h3, h4, h5⟩ := run_append_own_at (P := Tryd.prog) w B 22 ty 24 i0 _ 6 88 Tryd.underlying22 hi hz0 hz1 hz2 rfl (by decide) v _ _ hrow ad 1 1 [.string ⟨#[]⟩, .string ⟨#[]⟩, .string ⟨#[]⟩, .int .i64 0, .int .i64 0, .slice none 0 0] rfl hnews (by intro u hu; simp only [List.mem_cons, List.not_mem_nil, or_false] at hu; rcases hu with rfl | rfl | rfl | rfl | rfl | rfl <;> rfl) (by unfold maxLen; omega) (by omega) (by omega)
  have hbel : Below B w w' := (Below.refl _ _).grown h3 (by omega) (fun k hk => (World.ownsRow.lt hrow k hk).1)
  rcases h2.2 with ⟨-, h20⟩ | ⟨r, cap, cur, rfl, hg, hh, hle, hmx, hcs6, htk⟩
  · omega
  · have hxl : (cs.flatMap six).length = l.length * 6 := hrow.1
    have hlt : r < w'.heap.size := heap_lt hh
    have key : ∀ k, k < 6 → w'.cell? ⟨r, l.length * 6 + k, none⟩ = ([.string ⟨#[]⟩, .string ⟨#[]⟩, .string ⟨#[]⟩, .int .i64 0, .int .i64 0, .slice none 0 0] : List Value)[k]? := fun k hk => by
      have e : w'.cell? ⟨r, l.length * 6 + k, none⟩ = cur[l.length * 6 + k]? := by simp [World.cell?, hh]
      have e2 := congrArg (fun L => L[l.length * 6 + k]?) htk
      simp only [List.getElem?_take, if_pos (show l.length * 6 + k < (l.length + 1) * 6 by omega)] at e2
      rw [List.getElem?_append_right (by omega), hxl, show l.length * 6 + k - l.length * 6 = k by omega] at e2
      rw [e, ← e2]; simp
    unfold maxLen at hmx
    refine ⟨r, cap, w', hr, hg, hlt, hbel, hle, by omega, key 0 (by omega), key 1 (by omega), key 2 (by omega), key 3 (by omega), key 4 (by omega), key 5 (by omega), fun o => by simp [World.frozen?, hh], ?_⟩
    intro W t c0 c1 c2 c3 c4 c5 ht hWz hWr hWb
    have hel0 := hel
    have keepE : ∀ (s : Nd) (u : Value), IsNdP (fun b => P b ∧ some b ≠ v.ownBlock) w s u → IsNdP (fun b => P b ∧ some b ≠ (Value.slice (some ⟨r, 0, none⟩) (l.length + 1) cap).ownBlock) W s u := by
      intro s u hs
      refine isNdP_keep (by have := hbel.size; omega) (fun b hp hl => ?_) s u hs
      have hne : some b ≠ (Value.slice (some ⟨r, 0, none⟩) (l.length + 1) cap).ownBlock := by
        rcases h5 with e | e
        · rw [e]; exact hp.2
        · rw [e]; intro e2; simp at e2; omega
      have hbr : b ≠ r := fun e => hne (by rw [e]; rfl)
      exact ⟨(hWb b hbr (.inl hp.1)).trans (h3.block b hl hp.2), hp.1, hne⟩
    have hnear := put6_near w' r (l.length * 6) c0 c1 c2 c3 c4 c5 cur _ hh
    refine ⟨cs ++ [.agg #[c0, c1, c2, c3, c4, c5]], by simp [hcs], ⟨?_, .inr ⟨r, cap, set6A cur (l.length * 6) c0 c1 c2 c3 c4 c5, by simp, hg, hWr.trans hnear, by simpa using hle, by unfold maxLen; omega, by simp [set6A, hcs6], ?_⟩⟩, fun c hc => ?_, fun j s c hj hc => ?_⟩
    · simp [six, hxl]; omega
    · rw [List.flatMap_append, List.length_append, List.length_singleton, show (l.length + 1) * 6 = l.length * 6 + 6 by omega]
      exact take_set6 cur (l.length * 6) c0 c1 c2 c3 c4 c5 (cs.flatMap six) _ hxl (by rw [hcs6]; omega) (by rw [show (l.length + 1) * 6 = l.length * 6 + 6 by omega] at htk; exact htk)
    · rcases List.mem_append.1 hc with h | h
      · exact h6 c h
      · simp at h; subst h; rfl
    · by_cases hjl : j < l.length
      · rw [List.getElem?_append_left hjl] at hj
        rw [List.getElem?_append_left (by omega)] at hc
        exact keepE s _ (hel0 j s c hj hc)
      · have hj2 : j < (l ++ [t]).length := (List.getElem?_eq_some_iff.1 hj).1
        have hje : j = l.length := by simp at hj2; omega
        subst hje
        rw [List.getElem?_append_right (Nat.le_refl _)] at hj
        rw [List.getElem?_append_right (by omega), hcs] at hc
        simp at hj hc
        subst hj; subst hc
        exact keepE _ _ ht
/-- What stands behind such an append. -/
structure App0 (P : Nat → Prop) (w : World) (B : Nat) (v : Value) (l : List Nd) (r cap : Nat) (w' : World) : Prop where
  base : B ≤ r
  lt : r < w'.heap.size
  bel : Below B w w'
  le : l.length + 1 ≤ cap
  mx : cap ≤ 9223372036854775807
  c0 : w'.cell? ⟨r, l.length * 6, none⟩ = some (.string ⟨#[]⟩)
  c1 : w'.cell? ⟨r, l.length * 6 + 1, none⟩ = some (.string ⟨#[]⟩)
  c2 : w'.cell? ⟨r, l.length * 6 + 2, none⟩ = some (.string ⟨#[]⟩)
  c3 : w'.cell? ⟨r, l.length * 6 + 3, none⟩ = some (.int .i64 0)
  c4 : w'.cell? ⟨r, l.length * 6 + 4, none⟩ = some (.int .i64 0)
  c5 : w'.cell? ⟨r, l.length * 6 + 5, none⟩ = some (.slice none 0 0)
  fr : ∀ o, w'.frozen? ⟨r, o, none⟩ = false
  fin : ∀ (W : World) (t : Nd) (c0 c1 c2 c3 c4 c5 : Value), IsNdP (fun b => P b ∧ some b ≠ v.ownBlock) w t (.agg #[c0, c1, c2, c3, c4, c5]) → W.heap.size = w'.heap.size → W.heap[r]? = (put6 w' r (l.length * 6) c0 c1 c2 c3 c4 c5).heap[r]? → (∀ b, b ≠ r → (P b ∨ B ≤ b) → W.heap[b]? = w'.heap[b]?) → OwnNds P 24 W B (.slice (some ⟨r, 0, none⟩) (l.length + 1) cap) (l ++ [t])
theorem step_app0 {P : Nat → Prop} {w : World} {ops : Array Oper} {o : Oper} {a : Act} {K : Act → World → Prop} {Q : Exit → Act → World → Prop} {E : Prop} (hgd : o.guard = none) (s x : Operand) (ho : o.op = .call { callee := .builtin .append, args := #[s, x], argTypes := #[22, 22] })
    (B : Nat) (v : Value) (l : List Nd) (hs : a.eval s = v) (hown : OwnNds P 24 w B v l) (ad : Addr) (hnews : ∀ j u, ([.string ⟨#[]⟩, .string ⟨#[]⟩, .string ⟨#[]⟩, .int .i64 0, .int .i64 0, .slice none 0 0] : List Value)[j]? = some u → w.cell? (ad.add j) = some u) (hx : a.eval x = .slice (some ad) 1 1) (hsz : l.length ≤ 1000000) (hb : B ≤ w.heap.size)
    (h : ∀ r cap w', App0 P w B v l r cap w' → K (a.put o.dst (.slice (some ⟨r, 0, none⟩) (l.length + 1) cap)) w') : if Region.wanted o (yielded ops a.tmps) = true then Oper.wp Tryd.prog o a w K Q else E := by
  have hw : Region.wanted o (yielded ops a.tmps) = true := by simp [Region.wanted, hgd]
  rw [if_pos hw]
  obtain ⟨r, cap, w', hr, h1, h2, h3, h4, h5, h6, h7, h8, h9, h10, h11, h12, h13⟩ := run_app0 B v l hown ad hnews hsz hb o.type
  unfold Oper.wp execOp
  simp only [ho, resolve, invoke, builtin, Sem.run_bind, Sem.run_pure, Result.andThen_ok, List.map_toArray, List.map_cons, List.map_nil, hs, hx, hr]
  exact h r cap w' ⟨h1, h2, h3, h4, h5, h6, h7, h8, h9, h10, h11, h12, h13⟩
theorem setCell_os (w : World) (a : Addr) (v : Value) : (w.setCell a v).os = w.os := rfl
theorem setCell_tape (w : World) (a : Addr) (v : Value) : (w.setCell a v).tape = w.tape := rfl
theorem setCell_output (w : World) (a : Addr) (v : Value) : (w.setCell a v).output = w.output := rfl
theorem setCell_comm (w : World) {b b' : Nat} (h : b ≠ b') (o o' : Nat) (v v' : Value) : (w.setCell ⟨b, o, none⟩ v).setCell ⟨b', o', none⟩ v' = (w.setCell ⟨b', o', none⟩ v').setCell ⟨b, o, none⟩ v := by
  unfold World.setCell
  simp only
  congr 1
  apply Array.ext_getElem?
  intro i
  simp only [Array.getElem?_modify]
  by_cases h1 : b' = i
  · subst h1
    simp only [if_neg h, if_true]
  · simp only [if_neg h1]
/-- The last expression and the row itself are written, in whatever order. -/
theorem kid_world {w : World} {g r : Nat} (hgr : g ≠ r) (o : Nat) {u0 u1 u2 u3 u4 u5 : Value} (hs : Six w g u0 u1 u2 u3 u4 u5) (v c0 c1 c2 c3 c4 c5 : Value) :
    ∃ W, ((((((w.setCell ⟨r, o, none⟩ c0).setCell ⟨r, o + 1, none⟩ c1).setCell ⟨r, o + 2, none⟩ c2).setCell ⟨r, o + 3, none⟩ c3).setCell ⟨r, o + 4, none⟩ c4).setCell ⟨r, o + 5, none⟩ c5).setCell ⟨g, 5, none⟩ v = W ∧
      ((((((w.setCell ⟨g, 5, none⟩ v).setCell ⟨r, o, none⟩ c0).setCell ⟨r, o + 1, none⟩ c1).setCell ⟨r, o + 2, none⟩ c2).setCell ⟨r, o + 3, none⟩ c3).setCell ⟨r, o + 4, none⟩ c4).setCell ⟨r, o + 5, none⟩ c5 = W ∧
      Six W g u0 u1 u2 u3 u4 v ∧ W.heap.size = w.heap.size ∧ W.heap[r]? = (put6 w r o c0 c1 c2 c3 c4 c5).heap[r]? ∧ (∀ b, b ≠ r → b ≠ g → W.heap[b]? = w.heap[b]?) ∧ W.os = w.os ∧ W.tape = w.tape ∧ W.output = w.output := by
  have hrg : r ≠ g := fun e => hgr e.symm
  have h6 : Six (put6 w r o c0 c1 c2 c3 c4 c5) g u0 u1 u2 u3 u4 u5 := hs.far (k := r) (fun j hj => put6_far _ _ _ _ _ _ _ _ _ j hj) hgr
  obtain ⟨W, hW, sx, hz, hk, -⟩ := h6.set5 v
  refine ⟨W, hW, ?_, sx, by rw [hz, put6_size], hk r hrg, fun b h1 h2 => by rw [hk b h2, put6_far _ _ _ _ _ _ _ _ _ b h1], by rw [← hW]; unfold put6; simp only [setCell_os], by rw [← hW]; unfold put6; simp only [setCell_tape], by rw [← hW]; unfold put6; simp only [setCell_output]⟩
  rw [← hW]
  unfold put6
  rw [setCell_comm _ hgr, setCell_comm _ hgr, setCell_comm _ hgr, setCell_comm _ hgr, setCell_comm _ hgr, setCell_comm _ hgr]
end Go.Proofs.YtgojjknbingfpaaDoor

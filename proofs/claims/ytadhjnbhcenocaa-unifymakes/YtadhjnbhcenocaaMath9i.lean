/- The walk that finds whether something has itself within; what is known when it ends. No program is named here. -/
import Derived.Test.YtadhjnbhcenocaaMath9h
namespace Go.Em9
open Go.RowKit Go.Em5 Go.Em8

/-- The walk: n is the attempt's number, sk which ends are left out, sn what stands at each term, V the list of what is left (its last one is next), x0 where it began. -/
structure Walk (F : Fo) (E : Nat → Nat) (n : Int) (sk : Nat → Prop) (sn : Nat → Int) (V : List (Nat × Bool)) (x0 : Nat) : Prop where
  at_ : ∀ e ∈ F.L, sn e = n ∨ sn e = -n → E e = e
  fin : ∃ (R : Nat → Nat) (c : Nat), ∀ e ∈ F.L, sn e = n → R e < c ∧ ∀ k ∈ F.ks e, (sn (E k) = n ∧ R (E k) < R e) ∨ sk (E k)
  opn : ∀ i o, V[i]? = some (o, true) → sn o = -n ∧ E o = o ∧ ∀ k ∈ F.ks o, sn (E k) = n ∨ sk (E k) ∨ ∃ (j : Nat) (v : Nat × Bool), i < j ∧ V[j]? = some v ∧ E v.1 = E k
  root : sn (E x0) = n ∨ sk (E x0) ∨ ∃ v ∈ V, E v.1 = E x0
  has : ∀ e ∈ F.L, sn e = -n → ∃ i : Nat, V[i]? = some (e, true)
  mem : ∀ v ∈ V, v.1 ∈ F.L
  uniq : ∀ (i j : Nat) o, V[i]? = some (o, true) → V[j]? = some (o, true) → i = j
  big : ∀ t, Sol F E t → ∀ (i j : Nat) o v, i < j → V[i]? = some (o, true) → V[j]? = some v → (tsub t (F.ty v.1)).size < (tsub t (F.ty o)).size

section
variable {F : Fo} {E : Nat → Nat} {n : Int} {sk : Nat → Prop} {sn : Nat → Int} {V : List (Nat × Bool)} {x0 : Nat}
theorem Walk.start (hx : x0 ∈ F.L) (hs : ∀ e ∈ F.L, sn e ≠ n ∧ sn e ≠ -n) : Walk F E n sk sn [(x0, false)] x0 := by
  refine ⟨fun e he h => ?_, ⟨fun _ => 0, 0, fun e he h => absurd h (hs e he).1⟩, fun i o h => ?_, .inr (.inr ⟨(x0, false), by simp, rfl⟩), fun e he h => absurd h (hs e he).2, by simpa using hx, fun i j o h _ => ?_, fun t _ i j o v hij h _ => ?_⟩
  · rcases h with h | h
    · exact absurd h (hs e he).1
    · exact absurd h (hs e he).2
  · cases i <;> simp at h
  · cases i <;> simp at h
  · cases i <;> simp at h
theorem get_app_lt {α : Type} {l m : List α} {i : Nat} (h : i < l.length) : (l ++ m)[i]? = l[i]? := List.getElem?_append_left h
theorem get_lt {α : Type} {l : List α} {i : Nat} {x : α} (h : l[i]? = some x) : i < l.length := (List.getElem?_eq_some_iff.1 h).1
theorem get_app {α : Type} {l m : List α} {i : Nat} {x : α} (h : l[i]? = some x) : (l ++ m)[i]? = some x := by rw [get_app_lt (get_lt h)]; exact h
theorem get_one {α : Type} {l : List α} {x y : α} {i : Nat} (h : (l ++ [x])[i]? = some y) : l[i]? = some y ∨ (i = l.length ∧ y = x) := by
  have hl := get_lt h
  simp only [List.length_append, List.length_cons, List.length_nil] at hl
  by_cases hi : i < l.length
  · rw [get_app_lt hi] at h; exact .inl h
  · have : i = l.length := by omega
    subst this
    simp at h
    exact .inr ⟨rfl, h.symm⟩
/-- A mark is come to: what it marks is done. -/
theorem Walk.leave {o : Nat} {sn' : Nat → Int} (hF : FoOk F) (hE : EndOk F E) (hn : n ≠ 0) (h : Walk F E n sk sn (V ++ [(o, true)]) x0) (h1 : sn' o = n) (h2 : ∀ b, b ≠ o → sn' b = sn b) : Walk F E n sk sn' V x0 := by
  obtain ⟨o1, o2, o3⟩ := h.opn V.length o (by simp)
  have hoL : o ∈ F.L := h.mem (o, true) (by simp)
  have hne : -n ≠ n := by omega
  have keep : ∀ b, sn b = n → sn' b = n := fun b hb => by
    by_cases hbo : b = o
    · subst hbo; exact h1
    · rw [h2 b hbo]; exact hb
  have back : ∀ b, sn' b = -n → b ≠ o ∧ sn b = -n := fun b hb => by
    by_cases hbo : b = o
    · subst hbo; rw [h1] at hb; exact absurd hb.symm hne
    · rw [h2 b hbo] at hb; exact ⟨hbo, hb⟩
  obtain ⟨R, c, hR⟩ := h.fin
  have hk : ∀ k ∈ F.ks o, sn (E k) = n ∨ sk (E k) := fun k hk => by
    rcases o3 k hk with g | g | ⟨j, v, hj, hv, -⟩
    · exact .inl g
    · exact .inr g
    · have := get_lt hv
      simp only [List.length_append, List.length_cons, List.length_nil] at this
      omega
  -- what was said of an item of the stack: it is below the mark, or the mark itself
  have item : ∀ k (j : Nat) (v : Nat × Bool), (V ++ [(o, true)])[j]? = some v → E v.1 = k → V[j]? = some v ∨ sn' k = n := by
    intro k j v hv he
    rcases get_one hv with g | ⟨-, rfl⟩
    · exact .inl g
    · right
      rw [← he]
      show sn' (E o) = n
      rw [o2]; exact h1
  refine ⟨fun e he hs => ?_, ⟨fun e => if e = o then c else R e, c + 1, fun e he hs => ?_⟩, fun i m hm => ?_, ?_, fun e he hs => ?_, fun v hv => h.mem v (by simp [hv]), fun i j o' hi hj => h.uniq i j o' (get_app hi) (get_app hj), fun t ht i j o' v hij hi hj => h.big t ht i j o' v hij (get_app hi) (get_app hj)⟩
  · by_cases heo : e = o
    · subst heo; exact o2
    · rw [h2 e heo] at hs; exact h.at_ e he hs
  · by_cases heo : e = o
    · subst heo
      refine ⟨by simp, fun k hkk => ?_⟩
      rcases hk k hkk with g | g
      · have hne2 : E k ≠ e := fun e2 => by rw [e2, o1] at g; exact hne g
        refine .inl ⟨keep _ g, ?_⟩
        simp only
        rw [if_neg hne2, if_pos trivial]
        exact (hR _ (hE.mem k (hF.kid _ hoL k hkk)) g).1
      · exact .inr g
    · rw [h2 e heo] at hs
      obtain ⟨g1, g2⟩ := hR e he hs
      refine ⟨by simp only; rw [if_neg heo]; omega, fun k hkk => ?_⟩
      rcases g2 k hkk with ⟨g3, g4⟩ | g
      · have hne2 : E k ≠ o := fun e2 => by rw [e2, o1] at g3; exact hne g3
        exact .inl ⟨keep _ g3, by simp only; rw [if_neg hne2, if_neg heo]; exact g4⟩
      · exact .inr g
  · obtain ⟨g1, g2, g3⟩ := h.opn i m (get_app hm)
    by_cases hmo : m = o
    · subst hmo
      have := h.uniq i V.length m (get_app hm) (by simp)
      have := get_lt hm
      omega
    · refine ⟨by rw [h2 m hmo]; exact g1, g2, fun k hkk => ?_⟩
      rcases g3 k hkk with g | g | ⟨j, v, hj, hv, he⟩
      · exact .inl (keep _ g)
      · exact .inr (.inl g)
      · rcases item _ j v hv he with g | g
        · exact .inr (.inr ⟨j, v, hj, g, he⟩)
        · exact .inl g
  · rcases h.root with g | g | ⟨v, hv, he⟩
    · exact .inl (keep _ g)
    · exact .inr (.inl g)
    · obtain ⟨j, hj⟩ := List.getElem?_of_mem hv
      rcases item _ j v hj he with g | g
      · exact .inr (.inr ⟨v, List.mem_of_getElem? g, he⟩)
      · exact .inl g
  · obtain ⟨g1, g2⟩ := back e hs
    obtain ⟨i, hi⟩ := h.has e he g2
    rcases get_one hi with g | ⟨-, g⟩
    · exact ⟨i, g⟩
    · injection g with g; exact absurd g g1
/-- What is done, or left out. -/
theorem Walk.past {v : Nat} (h : Walk F E n sk sn (V ++ [(v, false)]) x0) (hv : sn (E v) = n ∨ sk (E v)) : Walk F E n sk sn V x0 := by
  have item : ∀ k (j : Nat) (u : Nat × Bool), (V ++ [(v, false)])[j]? = some u → E u.1 = k → V[j]? = some u ∨ sn k = n ∨ sk k := by
    intro k j u hu he
    rcases get_one hu with g | ⟨-, rfl⟩
    · exact .inl g
    · right; rw [← he]; exact hv
  refine ⟨h.at_, h.fin, fun i m hm => ?_, ?_, fun e he hs => ?_, fun u hu => h.mem u (by simp [hu]), fun i j o hi hj => h.uniq i j o (get_app hi) (get_app hj), fun t ht i j o u hij hi hj => h.big t ht i j o u hij (get_app hi) (get_app hj)⟩
  · obtain ⟨g1, g2, g3⟩ := h.opn i m (get_app hm)
    refine ⟨g1, g2, fun k hkk => ?_⟩
    rcases g3 k hkk with g | g | ⟨j, u, hj, hu, he⟩
    · exact .inl g
    · exact .inr (.inl g)
    · rcases item _ j u hu he with g | g | g
      · exact .inr (.inr ⟨j, u, hj, g, he⟩)
      · exact .inl g
      · exact .inr (.inl g)
  · rcases h.root with g | g | ⟨u, hu, he⟩
    · exact .inl g
    · exact .inr (.inl g)
    · obtain ⟨j, hj⟩ := List.getElem?_of_mem hu
      rcases item _ j u hj he with g | g | g
      · exact .inr (.inr ⟨u, List.mem_of_getElem? g, he⟩)
      · exact .inl g
      · exact .inr (.inl g)
  · obtain ⟨i, hi⟩ := h.has e he hs
    rcases get_one hi with g | ⟨-, g⟩
    · exact ⟨i, g⟩
    · injection g with _ g; cases g
/-- What is open is come to again: something has itself within. -/
theorem Walk.round {v : Nat} (hE : EndOk F E) (h : Walk F E n sk sn (V ++ [(v, false)]) x0) (hv : sn (E v) = -n) : ∀ t, ¬ Sol F E t := by
  intro t ht
  have hvL := h.mem (v, false) (by simp)
  obtain ⟨i, hi⟩ := h.has (E v) (hE.mem v hvL) hv
  rcases get_one hi with g | ⟨-, g⟩
  · have := h.big t ht i V.length (E v) (v, false) (get_lt g) hi (by simp)
    simp only at this
    rw [ht v hvL] at this
    omega
  · injection g with _ g; cases g
theorem sol_kid {t : Int → Ty} (hF : FoOk F) {b k : Nat} (hb : b ∈ F.L) (hk : k ∈ F.ks b) : (tsub t (F.ty k)).size < (tsub t (F.ty b)).size := by
  have hv : (F.ty b).op ≠ tVar := fun hv => by rw [(hF.varKids hb hv).1] at hk; cases hk
  rw [hF.form hb, tsub_else t hv, List.map_map]
  exact ty_size_kid (List.mem_map.2 ⟨k, hk, rfl⟩)
/-- An end is come to for the first time. -/
theorem Walk.enter {v : Nat} {sn' : Nat → Int} (hF : FoOk F) (hE : EndOk F E) (hn : n ≠ 0) (h : Walk F E n sk sn (V ++ [(v, false)]) x0) (hv : sn (E v) ≠ n ∧ sn (E v) ≠ -n) (h1 : sn' (E v) = -n) (h2 : ∀ b, b ≠ E v → sn' b = sn b) :
    Walk F E n sk sn' (V ++ [(E v, true)] ++ (F.ks (E v)).map (fun k => (k, false))) x0 := by
  have hvL : v ∈ F.L := h.mem (v, false) (by simp)
  have hxL := hE.mem v hvL
  have hne : -n ≠ n := by omega
  have hi := hE.idem
  have keep : ∀ b, sn b = n → sn' b = n := fun b hb => by
    rw [h2 b (fun e => hv.1 (by rw [← e]; exact hb))]; exact hb
  have back : ∀ b, sn' b = n → sn b = n := fun b hb => by
    by_cases e : b = E v
    · subst e; rw [h1] at hb; exact absurd hb hne
    · rw [← h2 b e]; exact hb
  have item : ∀ (k j : Nat) (u : Nat × Bool), (V ++ [(v, false)])[j]? = some u → E u.1 = k → ∃ u', (V ++ [(E v, true)] ++ (F.ks (E v)).map (fun k => (k, false)))[j]? = some u' ∧ E u'.1 = k := by
    intro k j u hu he
    rcases get_one hu with g | ⟨rfl, rfl⟩
    · exact ⟨u, get_app (get_app g), he⟩
    · refine ⟨(E v, true), get_app (by simp), ?_⟩
      rw [← he]; exact hi v
  have mark : ∀ (i o : Nat), (V ++ [(E v, true)] ++ (F.ks (E v)).map (fun k => (k, false)))[i]? = some (o, true) → (V[i]? = some (o, true) ∧ o ≠ E v) ∨ (i = V.length ∧ o = E v) := by
    intro i o hio
    by_cases hl : i < (V ++ [(E v, true)]).length
    · rw [get_app_lt hl] at hio
      rcases get_one hio with g | ⟨g1, g2⟩
      · refine .inl ⟨g, fun e => ?_⟩
        have := (h.opn i o (get_app g)).1
        rw [e] at this
        exact hv.2 this
      · injection g2 with g2; exact .inr ⟨g1, g2⟩
    · rw [List.getElem?_append_right (by omega), List.getElem?_map] at hio
      obtain ⟨a, -, ha⟩ := Option.map_eq_some_iff.1 hio
      injection ha with _ ha; cases ha
  obtain ⟨R, c, hR⟩ := h.fin
  refine ⟨fun e he hs => ?_, ⟨R, c, fun e he hs => ?_⟩, fun i o hio => ?_, ?_, fun e he hs => ?_, fun u hu => ?_, fun i j o ho1 ho2 => ?_, fun t ht i j o u hij ho hu => ?_⟩
  · by_cases e1 : e = E v
    · subst e1; exact hi v
    · rw [h2 e e1] at hs; exact h.at_ e he hs
  · obtain ⟨g1, g2⟩ := hR e he (back e hs)
    refine ⟨g1, fun k hk => ?_⟩
    rcases g2 k hk with ⟨g3, g4⟩ | g
    · exact .inl ⟨keep _ g3, g4⟩
    · exact .inr g
  · rcases mark i o hio with ⟨g, hne2⟩ | ⟨rfl, rfl⟩
    · obtain ⟨g1, g2, g3⟩ := h.opn i o (get_app g)
      refine ⟨by rw [h2 o hne2]; exact g1, g2, fun k hk => ?_⟩
      rcases g3 k hk with g | g | ⟨j, u, hj, hu, he⟩
      · exact .inl (keep _ g)
      · exact .inr (.inl g)
      · obtain ⟨u', g4, g5⟩ := item _ j u hu he
        exact .inr (.inr ⟨j, u', hj, g4, g5⟩)
    · refine ⟨h1, hi v, fun k hk => .inr (.inr ?_)⟩
      obtain ⟨j, hj, e⟩ := List.getElem_of_mem hk
      refine ⟨V.length + 1 + j, (k, false), by omega, ?_, rfl⟩
      rw [List.getElem?_append_right (by simp), List.getElem?_map]
      have : V.length + 1 + j - (V ++ [(E v, true)]).length = j := by simp
      rw [this, List.getElem?_eq_getElem hj, e]; rfl
  · rcases h.root with g | g | ⟨u, hu, he⟩
    · exact .inl (keep _ g)
    · exact .inr (.inl g)
    · obtain ⟨j, hj⟩ := List.getElem?_of_mem hu
      obtain ⟨u', g4, g5⟩ := item _ j u hj he
      exact .inr (.inr ⟨u', List.mem_of_getElem? g4, g5⟩)
  · by_cases e1 : e = E v
    · exact ⟨V.length, by rw [e1]; exact get_app (by simp)⟩
    · rw [h2 e e1] at hs
      obtain ⟨i, hi⟩ := h.has e he hs
      rcases get_one hi with g | ⟨-, g⟩
      · exact ⟨i, get_app (get_app g)⟩
      · injection g with _ g; cases g
  · rcases List.mem_append.1 hu with hu | hu
    · rcases List.mem_append.1 hu with hu | hu
      · exact h.mem u (by simp [hu])
      · simp only [List.mem_singleton] at hu
        subst hu; exact hxL
    · obtain ⟨k, hk, rfl⟩ := List.mem_map.1 hu
      exact hF.kid _ hxL k hk
  · rcases mark i o ho1 with ⟨g1, g2⟩ | ⟨g1, g2⟩
    · rcases mark j o ho2 with ⟨g3, -⟩ | ⟨-, g4⟩
      · exact h.uniq i j o (get_app g1) (get_app g3)
      · exact absurd g4 g2
    · rcases mark j o ho2 with ⟨-, g4⟩ | ⟨g3, -⟩
      · exact absurd g2 g4
      · omega
  · -- how great what stands at each place is
    have lower : ∀ (i : Nat) o, V[i]? = some (o, true) → (tsub t (F.ty (E v))).size < (tsub t (F.ty o)).size := by
      intro i o ho
      have := h.big t ht i V.length o (v, false) (get_lt ho) (get_app ho) (by simp)
      simp only at this
      rwa [ht v hvL] at this
    rcases mark i o ho with ⟨g, -⟩ | ⟨rfl, rfl⟩
    · by_cases hl : j < (V ++ [(E v, true)]).length
      · rw [get_app_lt hl] at hu
        rcases get_one hu with hu | ⟨-, rfl⟩
        · exact h.big t ht i j o u hij (get_app g) (get_app hu)
        · exact lower i o g
      · rw [List.getElem?_append_right (by omega), List.getElem?_map] at hu
        obtain ⟨k, hk, rfl⟩ := Option.map_eq_some_iff.1 hu
        exact Nat.lt_trans (sol_kid hF hxL (List.mem_of_getElem? hk)) (lower i o g)
    · have hl : ¬ j < (V ++ [(E v, true)]).length := by simp; omega
      rw [List.getElem?_append_right (by omega), List.getElem?_map] at hu
      obtain ⟨k, hk, rfl⟩ := Option.map_eq_some_iff.1 hu
      exact sol_kid hF hxL (List.mem_of_getElem? hk)
/-- How many terms were not come to. -/
def unseen (F : Fo) (n : Int) (sn : Nat → Int) : Nat := (F.L.filter fun b => decide (sn b ≠ n ∧ sn b ≠ -n)).length
theorem unseen_enter {x : Nat} {sn' : Nat → Int} (hx : x ∈ F.L) (hv : sn x ≠ n ∧ sn x ≠ -n) (h1 : sn' x = -n) (h2 : ∀ b, b ≠ x → sn' b = sn b) : unseen F n sn' < unseen F n sn := by
  refine filter_lt _ _ (fun b hb => ?_) F.L x hx (by simp [h1]) (by simpa using hv)
  have hb := of_decide_eq_true hb
  by_cases e : b = x
  · subst e; exact absurd h1 hb.2
  · rw [h2 b e] at hb; exact decide_eq_true hb
theorem unseen_leave {x : Nat} {sn' : Nat → Int} (hv : sn x = -n) (h1 : sn' x = n) (h2 : ∀ b, b ≠ x → sn' b = sn b) : unseen F n sn' = unseen F n sn := by
  unfold unseen
  congr 1
  refine List.filter_congr fun b _ => ?_
  by_cases e : b = x
  · subst e; simp [hv, h1]
  · rw [h2 b e]
end

/-! ### What is known when it ends -/
theorem bounded (f : Nat → Nat) : ∀ l : List Nat, ∃ m, ∀ b ∈ l, f b < m
  | [] => ⟨0, by simp⟩
  | x :: r => by
    obtain ⟨m, hm⟩ := bounded f r
    refine ⟨max m (f x + 1), fun b hb => ?_⟩
    rcases List.mem_cons.1 hb with rfl | hb
    · omega
    · have := hm b hb; omega
theorem mem_map_E {E : Nat → Nat} {l m : List Nat} (h : l.map E = m.map E) {k : Nat} (hk : k ∈ l) : ∃ k' ∈ m, E k = E k' := by
  have : E k ∈ m.map E := by rw [← h]; exact List.mem_map.2 ⟨k, hk, rfl⟩
  obtain ⟨k', h1, h2⟩ := List.mem_map.1 this
  exact ⟨k', h1, h2.symm⟩
/-- Nothing goes round then. O: the terms that were there ahead of the attempt. -/
theorem walk_ranked {F : Fo} {E0 E : Nat → Nat} {J O : List Nat} {x0 y0 : Nat} {n : Int} {past : Bool} {sn : Nat → Int} {R0 : Nat → Nat} (hF : FoOk F) (hj : Joins F E0 E [] J x0 y0) (hOk : ∀ b ∈ O, ∀ k ∈ F.ks b, k ∈ O) (hOE : ∀ b ∈ O, E0 b ∈ O)
    (hR0 : ∀ b ∈ O, R0 b = R0 (E0 b) ∧ ∀ k ∈ F.ks (E0 b), R0 k < R0 b) (hnew : ∀ P : Nat → Prop, (∀ b ∈ F.L, P b → ∀ k ∈ F.ks b, P k) → P x0 → P y0 → ∀ b ∈ F.L, b ∉ O → P b)
    (hpast : past = true → ∀ j ∈ J, j ∉ O) (hw : Walk F E n (fun b => past = true ∧ b ∈ O) sn [] x0) : ∃ R, Ranked F E R := by
  obtain ⟨hC, hxy⟩ := hj.cong_all
  have hE := hj.ends
  obtain ⟨R, c, hR⟩ := hw.fin
  obtain ⟨m, hm⟩ := bounded R0 O
  have hroot : sn (E x0) = n ∨ (past = true ∧ E x0 ∈ O) := by
    rcases hw.root with g | g | ⟨v, hv, -⟩
    · exact .inl g
    · exact .inr g
    · cases hv
  have kids : ∀ b ∈ F.L, ∀ k ∈ F.ks b, ∃ k' ∈ F.ks (E b), E k = E k' := by
    intro b hb k hk
    have hv : ¬ F.var b := fun hv => by rw [(hF.varKids hb hv).1] at hk; cases hk
    exact mem_map_E (hC b hb (E b) (hE.mem b hb) (hE.idem b).symm hv (hE.kind b hb hv)).2.2 hk
  cases past with
  | true =>
    have hold : ∀ b ∈ O, E b = E0 b := fun b hb => by
      rcases hj.moved b with e | e
      · exact e
      · exact absurd (hOE b hb) (hpast rfl _ e)
    have hall : ∀ b ∈ F.L, sn (E b) = n ∨ E b ∈ O := by
      intro b hb
      by_cases hbO : b ∈ O
      · right; rw [hold b hbO]; exact hOE b hbO
      · refine hnew (fun b => sn (E b) = n ∨ E b ∈ O) (fun b hb h k hk => ?_) (hroot.imp id (·.2)) ?_ b hb hbO
        · obtain ⟨k', hk', e⟩ := kids b hb k hk
          rw [e]
          rcases h with h | h
          · rcases (hR _ (hE.mem b hb) h).2 k' hk' with ⟨g, -⟩ | ⟨-, g⟩
            · exact .inl g
            · exact .inr g
          · have hk'O := hOk _ h k' hk'
            right; rw [hold k' hk'O]; exact hOE k' hk'O
        · rw [← hxy]; exact hroot.imp id (·.2)
    refine ⟨fun b => if E b ∈ O then R0 (E b) else m + R (E b), fun b hb => ⟨by simp only [hE.idem], fun k hk => ?_⟩⟩
    by_cases hO : E b ∈ O
    · have hkO := hOk _ hO k hk
      have e0 : E0 (E b) = E b := by rw [← hold _ hO, hE.idem]
      have := (hR0 (E b) hO).2 k (by rw [e0]; exact hk)
      have h2 := (hR0 k hkO).1
      simp only
      rw [if_pos hO, hold k hkO, if_pos (hOE k hkO), ← h2]
      exact this
    · have hs : sn (E b) = n := (hall b hb).resolve_right hO
      simp only
      rw [if_neg hO]
      rcases (hR _ (hE.mem b hb) hs).2 k hk with ⟨g1, g2⟩ | ⟨-, g⟩
      · split
        · have := hm _ (by assumption); omega
        · omega
      · rw [if_pos g]
        have := hm _ g; omega
  | false =>
    have hr : sn (E x0) = n := hroot.resolve_right (fun h => by cases h.1)
    have hk' : ∀ b ∈ F.L, sn (E b) = n → ∀ k ∈ F.ks b, sn (E k) = n := by
      intro b hb h k hk
      obtain ⟨k', h1, e⟩ := kids b hb k hk
      rw [e]
      rcases (hR _ (hE.mem b hb) h).2 k' h1 with ⟨g, -⟩ | ⟨g, -⟩
      · exact g
      · cases g
    have hjP := (hj.reach (fun b => sn (E b) = n) (fun b => by simp only [hE.idem]) hk' hr (by rw [← hxy]; exact hr)).2
    have hnP := hnew (fun b => sn (E b) = n) hk' hr (by rw [← hxy]; exact hr)
    have hold : ∀ b ∈ F.L, sn (E b) ≠ n → b ∈ O ∧ E b = E0 b := by
      intro b hb hs
      have hbO : b ∈ O := Classical.byContradiction fun h => hs (hnP b hb h)
      refine ⟨hbO, ?_⟩
      rcases hj.moved b with e | e
      · exact e
      · have := hjP _ e
        simp only [hj.after] at this
        exact absurd this hs
    refine ⟨fun b => if sn (E b) = n then R (E b) else c + R0 (E b), fun b hb => ⟨by simp only [hE.idem], fun k hk => ?_⟩⟩
    have hkL := hF.kid _ (hE.mem b hb) k hk
    by_cases hs : sn (E b) = n
    · simp only
      rw [if_pos hs]
      rcases (hR _ (hE.mem b hb) hs).2 k hk with ⟨g1, g2⟩ | ⟨g, -⟩
      · rw [if_pos g1]; exact g2
      · cases g
    · obtain ⟨hbO, e⟩ := hold b hb hs
      simp only
      rw [if_neg hs]
      by_cases hsk : sn (E k) = n
      · rw [if_pos hsk]
        have := (hR _ (hE.mem k hkL) hsk).1
        omega
      · rw [if_neg hsk]
        obtain ⟨hkO, e2⟩ := hold k hkL hsk
        have h1 := (hR0 b hbO).2 k (by rw [← e]; exact hk)
        have h2 := (hR0 k hkO).1
        have h3 := (hR0 b hbO).1
        rw [e2, ← h2, e, ← h3]
        omega
end Go.Em9

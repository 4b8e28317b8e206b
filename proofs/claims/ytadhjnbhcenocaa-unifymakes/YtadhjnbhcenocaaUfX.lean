/- A Sub between two calls; what 'Unify' does with it (package unify): what is known behind its parts. -/
import Derived.Test.YtadhjnbhcenocaaUfO
import Derived.Test.YtadhjnbhcenocaaUfF
namespace Go.Proofs.Ytadhjnbhcenocaa
open Go.RowKit Go.Em8 Go.Em9
set_option linter.unusedSimpArgs false
set_option linter.unusedVariables false

/-- A Sub of the program's own: its terms. -/
structure UfS (w : World) (sb : Nat) (fr N : Int) (len : Nat) (d : Int → Ty) (dom : Int → Prop) (K : Nat → Prop) (F : Fo) (is : Nat → Option Nat) (cm sn : Nat → Int) (E D : Nat → Nat) (T : Nat → Ty) (mv : Option Nat) (M : Int → Option Nat) (n : Nat) : Prop where
  fo : FoOk F
  ends : EndOk F E
  cong : Cong F E
  tok : TOk F E T
  tms : Tms w K F is cm sn
  leads : Leads F.L is E D
  kl : ∀ k, K k → k < w.heap.size
  len : F.L.length ≤ len
  sub : SubS w sb mv fr N M n
  map : MapOk F M
  d : d = ofM M T
  seen : ∀ b ∈ F.L, -N ≤ sn b ∧ sn b ≤ N
  came : ∀ b ∈ F.L, cm b ≤ N
  sepS : sb ∉ F.L ∧ ¬ K sb
  sepM : ∀ mb, mv = some mb → mb ∉ F.L ∧ ¬ K mb
  nl : n ≤ 2 * F.L.length
  dom : ∀ y, M y ≠ none → dom y
/-- The blocks that are a Sub's. -/
def MineOf (sb : Nat) (K : Nat → Prop) (F : Fo) (mv : Option Nat) (k : Nat) : Prop := k = sb ∨ some k = mv ∨ k ∈ F.L ∨ K k
def Uf (w : World) (sb : Nat) (fr N : Int) (Mn : Nat → Prop) (len : Nat) (d : Int → Ty) (dom : Int → Prop) : Prop :=
  ∃ K F is cm sn E D T mv M n, UfS w sb fr N len d dom K F is cm sn E D T mv M n ∧ Mn = MineOf sb K F mv
theorem Uf.lt {w : World} {sb : Nat} {fr N : Int} {Mn : Nat → Prop} {len : Nat} {d : Int → Ty} {dom : Int → Prop} (h : Uf w sb fr N Mn len d dom) {k : Nat} (hk : Mn k) : k < w.heap.size := by
  obtain ⟨K, F, is, cm, sn, E, D, T, mv, M, n, h, rfl⟩ := h
  rcases hk with rfl | e | e | e
  · exact h.sub.lt.1
  · exact (h.sub.lt.2 k e.symm).1
  · exact h.tms.lt e
  · exact h.kl k e
theorem Uf.keep {w w' : World} {sb : Nat} {fr N : Int} {Mn : Nat → Prop} {len : Nat} {d : Int → Ty} {dom : Int → Prop} (h : Uf w sb fr N Mn len d dom) {Q : Nat → Prop} (hk : Kept Q w w') (hq : ∀ k, Mn k → ¬ Q k) : Uf w' sb fr N Mn len d dom := by
  obtain ⟨K, F, is, cm, sn, E, D, T, mv, M, n, h, rfl⟩ := h
  exact ⟨K, F, is, cm, sn, E, D, T, mv, M, n, ⟨h.fo, h.ends, h.cong, h.tok, h.tms.turn hk (fun b hb => hq b (.inr (.inr (.inl hb)))) (fun b hb => hq b (.inr (.inr (.inr hb)))), h.leads, fun k hK => Nat.lt_of_lt_of_le (h.kl k hK) hk.size, h.len, h.sub.keep hk (hq sb (.inl rfl)) (fun mb e => hq mb (.inr (.inl e.symm))), h.map, h.d, h.seen, h.came, h.sepS, h.sepM, h.nl, h.dom⟩, rfl⟩
theorem Uf.below {w w' : World} {sb : Nat} {fr N : Int} {Mn : Nat → Prop} {len : Nat} {d : Int → Ty} {dom : Int → Prop} (h : Uf w sb fr N Mn len d dom) (hb : Below w.heap.size w w') : Uf w' sb fr N Mn len d dom := h.keep (Q := fun _ => False) (Kept.of hb) fun _ _ => id
theorem Uf.ready {w : World} {sb : Nat} {fr N : Int} {Mn : Nat → Prop} {len : Nat} {d : Int → Ty} {dom : Int → Prop} (h : Uf w sb fr N Mn len d dom) (hl : len ≤ 100000) : Ready w sb d := by
  obtain ⟨K, F, is, cm, sn, E, D, T, mv, M, n, h, rfl⟩ := h
  exact ⟨K, F, is, cm, sn, E, D, T, mv, fr, N, M, n, h.fo, h.ends, h.tok, h.tms, h.leads, h.kl, Nat.le_trans h.len hl, h.sub, h.map, h.d⟩
/-- What it says is types by which it stays as it is. -/
theorem Uf.fac {w : World} {sb : Nat} {fr N : Int} {Mn : Nat → Prop} {len : Nat} {d : Int → Ty} {dom : Int → Prop} (h : Uf w sb fr N Mn len d dom) : Fac d d := by
  obtain ⟨K, F, is, cm, sn, E, D, T, mv, M, n, h, rfl⟩ := h
  rw [h.d]
  exact (sol_fac h.fo h.ends h.cong h.tok h.map _).1 (sol_self h.fo h.ends h.cong h.tok h.map)
theorem Uf.teach {w : World} {sb : Nat} {fr N : Int} {Mn : Nat → Prop} {len : Nat} {d : Int → Ty} {dom : Int → Prop} (h : Uf w sb fr N Mn len d dom) : ∀ x, 0 ≤ x → Em8.teach (d x) = true := by
  obtain ⟨K, F, is, cm, sn, E, D, T, mv, M, n, h, rfl⟩ := h
  intro x hx
  rw [h.d]
  cases hM : M x with
  | none => rw [ofM_none hM]; simp [tv, Em8.teach, teachs, tkids, tVar, tInt, tBool, tUnit, tString, tCell, hx]
  | some b => rw [ofM_some hM]; exact T_teach h.fo h.ends h.tok b (h.map.mem x b hM).1
/-- The vars of what it says. -/
theorem Uf.occ {w : World} {sb : Nat} {fr N : Int} {Mn : Nat → Prop} {len : Nat} {d : Int → Ty} {dom : Int → Prop} (h : Uf w sb fr N Mn len d dom) : ∀ x y, tocc y (d x) → y = x ∨ dom y := by
  obtain ⟨K, F, is, cm, sn, E, D, T, mv, M, n, h, rfl⟩ := h
  intro x y hy
  rw [h.d] at hy
  cases hM : M x with
  | none => rw [ofM_none hM, tocc_tv] at hy; exact .inl hy.symm
  | some b =>
    rw [ofM_some hM] at hy
    obtain ⟨c, hc⟩ := T_occ h.fo h.ends h.tok h.map b (h.map.mem x b hM).1 y hy
    exact .inr (h.dom y (by rw [hc]; simp))

/-- The terms of an attempt, ahead of it and behind its two keepings. -/
structure Att2 (w w4 : World) (sb ab : Nat) (fr N : Int) (len : Nat) (d : Int → Ty) (dom : Int → Prop) (K : Nat → Prop) (F : Fo) (is : Nat → Option Nat) (cm sn : Nat → Int) (E D : Nat → Nat) (T : Nat → Ty) (mv : Option Nat) (M : Int → Option Nat) (n : Nat) (s2 : S9) (x y : Nat) (a b : Ty) : Prop where
  base : UfS w sb fr N len d dom K F is cm sn E D T mv M n
  ok : S9Ok w4 w.heap.size sb ab fr (N + 1) (.slice none 0 0) [] s2
  old : ∀ c ∈ F.L, c ∈ s2.F.L ∧ s2.F.ty c = F.ty c ∧ s2.F.ks c = F.ks c ∧ s2.is c = is c ∧ s2.cm c = cm c ∧ s2.sn c = sn c
  new : ∀ c ∈ s2.F.L, c ∈ F.L ∨ (w.heap.size ≤ c ∧ s2.is c = none ∧ s2.cm c = N + 1 ∧ s2.sn c = 0)
  K' : ∀ k, s2.K k → K k ∨ w.heap.size ≤ k
  hmv : s2.mv = mv ∨ ∃ g, s2.mv = some g ∧ w.heap.size ≤ g
  hx : x ∈ s2.F.L ∧ s2.F.ty x = a
  hy : y ∈ s2.F.L ∧ s2.F.ty y = b
  len : s2.F.L.length ≤ len + a.size + b.size
  reach : ∀ P : Nat → Prop, (∀ c ∈ s2.F.L, P c → ∀ k ∈ s2.F.ks c, P k) → P x → P y → ∀ c ∈ s2.F.L, c ∉ F.L → P c
  dom : ∀ z, s2.M z ≠ none → dom z ∨ tocc z a ∨ tocc z b
  kept : Kept (fun k => k = sb ∨ some k = mv) w w4
section
variable {w w4 : World} {sb ab : Nat} {fr N : Int} {len : Nat} {d : Int → Ty} {dom : Int → Prop} {K : Nat → Prop} {F : Fo} {is : Nat → Option Nat} {cm sn : Nat → Int} {E D : Nat → Nat} {T : Nat → Ty} {mv : Option Nat} {M : Int → Option Nat} {n : Nat} {s2 : S9} {x y : Nat} {a b : Ty}
theorem Att2.newE (h : Att2 w w4 sb ab fr N len d dom K F is cm sn E D T mv M n s2 x y a b) {c : Nat} (hc : c ∉ F.L) : E c = c := h.base.ends.out c hc
theorem Att2.ends (h : Att2 w w4 sb ab fr N len d dom K F is cm sn E D T mv M n s2 x y a b) : EndOk s2.F E := by
  refine ⟨fun c hc => ?_, h.base.ends.idem, fun c hc hv => ?_, fun c hc => h.newE fun hm => hc (h.old c hm).1⟩
  · by_cases e : c ∈ F.L
    · exact (h.old _ (h.base.ends.mem c e)).1
    · rw [h.newE e]; exact hc
  · by_cases e : c ∈ F.L
    · have hv' : ¬ F.var c := by unfold Fo.var at hv ⊢; rw [← (h.old c e).2.1]; exact hv
      have := h.base.ends.kind c e hv'
      unfold Fo.var at this ⊢
      rw [(h.old _ (h.base.ends.mem c e)).2.1]; exact this
    · rw [h.newE e]; exact hv
theorem Att2.leads (h : Att2 w w4 sb ab fr N len d dom K F is cm sn E D T mv M n s2 x y a b) : Leads s2.F.L s2.is E D := by
  refine ⟨fun c hc hi => ?_, fun c hc e hi => ?_⟩
  · by_cases e : c ∈ F.L
    · rw [(h.old c e).2.2.2.1] at hi; exact h.base.leads.none c e hi
    · exact h.newE e
  · by_cases hm : c ∈ F.L
    · rw [(h.old c hm).2.2.2.1] at hi
      obtain ⟨g1, g2, g3, g4⟩ := h.base.leads.some c hm e hi
      exact ⟨(h.old e g1).1, g2, g3, g4⟩
    · rcases h.new c hc with g | ⟨-, g, -⟩
      · exact absurd g hm
      · rw [g] at hi; cases hi
theorem Att2.cong (h : Att2 w w4 sb ab fr N len d dom K F is cm sn E D T mv M n s2 x y a b) : Cong s2.F E := by
  intro p hp q hq e hv1 hv2
  by_cases h1 : p ∈ F.L
  · by_cases h2 : q ∈ F.L
    · have o1 := h.old p h1
      have o2 := h.old q h2
      have v1 : ¬ F.var p := by unfold Fo.var at hv1 ⊢; rw [← o1.2.1]; exact hv1
      have v2 : ¬ F.var q := by unfold Fo.var at hv2 ⊢; rw [← o2.2.1]; exact hv2
      have := h.base.cong p h1 q h2 e v1 v2
      rw [o1.2.1, o2.2.1, o1.2.2.1, o2.2.2.1]; exact this
    · rw [h.newE h2] at e
      have := h.base.ends.mem p h1
      rw [e] at this
      exact absurd this h2
  · by_cases h2 : q ∈ F.L
    · rw [h.newE h1] at e
      have := h.base.ends.mem q h2
      rw [← e] at this
      exact absurd this h1
    · rw [h.newE h1, h.newE h2] at e
      subst e; exact ⟨rfl, rfl, rfl⟩
theorem Att2.sol (h : Att2 w w4 sb ab fr N len d dom K F is cm sn E D T mv M n s2 x y a b) (t : Int → Ty) : Sol s2.F E t ↔ Fac t d := by
  rw [h.base.d, ← sol_fac h.base.fo h.base.ends h.base.cong h.base.tok h.base.map t]
  constructor
  · intro hs c hc
    have := hs c (h.old c hc).1
    rw [(h.old c hc).2.1, (h.old _ (h.base.ends.mem c hc)).2.1] at this
    exact this
  · intro hs c hc
    by_cases e : c ∈ F.L
    · rw [(h.old c e).2.1, (h.old _ (h.base.ends.mem c e)).2.1]; exact hs c e
    · rw [h.newE e]
theorem Att2.seen (h : Att2 w w4 sb ab fr N len d dom K F is cm sn E D T mv M n s2 x y a b) (hN : 0 ≤ N) : ∀ c ∈ s2.F.L, -(N + 1) < s2.sn c ∧ s2.sn c < N + 1 := by
  intro c hc
  by_cases e : c ∈ F.L
  · rw [(h.old c e).2.2.2.2.2]; have := h.base.seen c e; omega
  · rcases h.new c hc with g | ⟨-, -, -, g⟩
    · exact absurd g e
    · rw [g]; omega
theorem Att2.came (h : Att2 w w4 sb ab fr N len d dom K F is cm sn E D T mv M n s2 x y a b) : ∀ c ∈ s2.F.L, s2.cm c < N + 1 ↔ c ∈ F.L := by
  intro c hc
  by_cases e : c ∈ F.L
  · rw [(h.old c e).2.2.2.2.1]; have := h.base.came c e
    exact ⟨fun _ => e, fun _ => by omega⟩
  · rcases h.new c hc with g | ⟨-, -, g, -⟩
    · exact absurd g e
    · rw [g]; exact ⟨fun hh => by omega, fun hh => absurd hh e⟩
/-- It was made, and nothing goes round: the Sub then. -/
theorem Att2.done (h : Att2 w w4 sb ab fr N len d dom K F is cm sn E D T mv M n s2 x y a b) (hN : 0 ≤ N) {w5 w6 : World} {jv : Value} {J : List Nat} {is' : Nat → Option Nat} {E' D' : Nat → Nat} {sn' : Nat → Int} {B : Nat}
    (hm : MkI w4 w5 s2.K s2.F E s2.cm s2.sn B sb ab (N + 1) s2.vv (.slice none 0 0) s2.Vl x y [] J is' E' D' jv) (ht : Tms w6 s2.K s2.F is' s2.cm sn') (hk : Kept (fun k => k ∈ s2.F.L) w5 w6) (hsn : ∀ c ∈ s2.F.L, -(N + 1) ≤ sn' c ∧ sn' c ≤ N + 1) (hw : Walk s2.F E' (N + 1) (fun c => pastB s2.cm (N + 1) J = true ∧ c ∈ F.L) sn' [] x) :
    (∃ Mn' d', Uf w6 sb fr (N + 1) Mn' (len + a.size + b.size) d' (fun z => dom z ∨ tocc z a ∨ tocc z b) ∧ (∀ t, Fac t d' ↔ Fac t d ∧ tsub t a = tsub t b) ∧ (∀ k, Mn' k → MineOf sb K F mv k ∨ w.heap.size ≤ k)) ∧ Kept (MineOf sb K F mv) w w6 := by
  obtain ⟨R0, hR0, -⟩ := h.base.tok.rank h.base.fo h.base.ends
  have hcam := h.came
  obtain ⟨R, hR⟩ := walk_ranked (O := F.L) (R0 := R0) h.ok.fo hm.joins (fun c hc k hk2 => by rw [(h.old c hc).2.2.1] at hk2; exact h.base.fo.kid c hc k hk2) (fun c hc => h.base.ends.mem c hc)
    (fun c hc => ⟨(hR0 c hc).1, fun k hk2 => by rw [(h.old _ (h.base.ends.mem c hc)).2.2.1] at hk2; exact (hR0 c hc).2 k hk2⟩) h.reach (fun hp j hj hjF => by
      have h1 := pastB_true.1 hp j hj
      exact h1 ((hcam j (hm.joins.jmem j hj)).2 hjF)) hw
  have hE := hm.joins.ends
  have hT := ranked_T h.ok.fo hE hR
  obtain ⟨hC, -⟩ := hm.joins.cong_all
  have hsub5 : SubS w5 sb s2.mv fr (N + 1) s2.M s2.n := h.ok.sub.keep hm.kept (fun e => by
    rcases e with e | e
    · exact h.ok.sepS.1 e
    · exact (h.ok.sepA sb e).2.2.1 rfl) (fun mb e1 e => by
    rcases e with e | e
    · exact (h.ok.sepM mb e1).1 e
    · exact (h.ok.sepA mb e).2.2.2 e1.symm)
  have hsub6 : SubS w6 sb s2.mv fr (N + 1) s2.M s2.n := hsub5.keep hk h.ok.sepS.1 fun mb e => (h.ok.sepM mb e).1
  have hsz : w4.heap.size ≤ w6.heap.size := Nat.le_trans hm.kept.size hk.size
  have mine : ∀ k, MineOf sb s2.K s2.F s2.mv k → MineOf sb K F mv k ∨ w.heap.size ≤ k := by
    rintro k (rfl | e | e | e)
    · exact .inl (.inl rfl)
    · rcases h.hmv with e2 | ⟨g, e2, hg⟩
      · exact .inl (.inr (.inl (by rw [← e2]; exact e)))
      · rw [e2] at e; cases e; exact .inr hg
    · rcases h.new k e with g | ⟨g, -⟩
      · exact .inl (.inr (.inr (.inl g)))
      · exact .inr g
    · rcases h.K' k e with g | g
      · exact .inl (.inr (.inr (.inr g)))
      · exact .inr g
  refine ⟨⟨MineOf sb s2.K s2.F s2.mv, _, ⟨s2.K, s2.F, is', s2.cm, sn', E', D', _, s2.mv, s2.M, s2.n, ⟨h.ok.fo, hE, hC, hT, ht, hm.leads, fun k hk2 => Nat.lt_of_lt_of_le (h.ok.kl k hk2) hsz, h.len, hsub6, h.ok.map, rfl, hsn, fun c hc => ?_, h.ok.sepS, h.ok.sepM, h.ok.nl, h.dom⟩, rfl⟩, fun t => ?_, mine⟩, ?_⟩
  · by_cases e : c ∈ F.L
    · have := (hcam c hc).2 e; omega
    · rcases h.new c hc with g | ⟨-, -, g, -⟩
      · exact absurd g e
      · omega
  · rw [← sol_fac h.ok.fo hE hC hT h.ok.map t, ← h.sol t]
    have := hm.joins.sol t
    simp only [List.not_mem_nil, false_implies, implies_true, and_true] at this
    rw [this, h.hx.2, h.hy.2]
  · refine ((h.kept.wide fun k _ e => ?_).trans hm.kept fun k hk2 e => ?_).trans hk fun k hk2 e => ?_
    · rcases e with e | e
      · exact .inl e
      · exact .inr (.inl e)
    · rcases e with e | e
      · rcases h.new k e with g | ⟨g, -⟩
        · exact .inr (.inr (.inl g))
        · omega
      · exact absurd (h.ok.att.lt e).1 (by omega)
    · rcases h.new k e with g | ⟨g, -⟩
      · exact .inr (.inr (.inl g))
      · omega
end
end Go.Proofs.Ytadhjnbhcenocaa

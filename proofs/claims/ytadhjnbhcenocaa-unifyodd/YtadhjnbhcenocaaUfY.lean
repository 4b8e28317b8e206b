/- What 'Unify' of the program's own Sub does: what is known behind its parts; then the walk (package unify). -/
import Derived.Test.YtadhjnbhcenocaaUfX
import Derived.Test.YtadhjnbhcenocaaUfL
namespace Go.Proofs.Ytadhjnbhcenocaa
open Go.RowKit Go.Em8 Go.Em9
set_option linter.unusedSimpArgs false
set_option linter.unusedVariables false

/-- What undoing an attempt does. -/
def UndoOk : Prop := ∀ (w : World) (K : Nat → Prop) (F : Fo) (is : Nat → Option Nat) (cm sn : Nat → Int) (B sb ab : Nat) (fr N : Int) (vv jv : Value) (Vl : List Int) (J : List Nat) (mv : Option Nat) (M : Int → Option Nat) (n : Nat),
  Tms w K F is cm sn → (∀ k, K k → k < w.heap.size) → SubS w sb mv fr N M n → Att w B sb ab N vv jv Vl J → (∀ k, AttOf ab vv jv k → k ∉ F.L ∧ ¬ K k ∧ k ≠ sb ∧ some k ≠ mv) → sb ∉ F.L → (∀ mb, mv = some mb → mb ∉ F.L) → (∀ j ∈ J, j ∈ F.L ∧ ∃ c ∈ F.L, is j = some c) → J.Nodup → J.length ≤ 1000000 → Vl.length ≤ 1000000 → (∀ x ∈ Vl, Em5.I64 x) → n ≤ 1000000 →
    Calls Try.prog 30 #[.pointer (some ⟨ab, 0, none⟩)] w fun e w' => e = .returned (.tuple #[]) ∧ Kept (fun k => k ∈ F.L ∨ k = sb ∨ some k = mv) w w'
section
variable {w X w3 w4 : World} {sb ab : Nat} {fr N : Int} {len : Nat} {d : Int → Ty} {dom : Int → Prop} {K : Nat → Prop} {F : Fo} {is : Nat → Option Nat} {cm sn : Nat → Int} {E D : Nat → Nat} {T : Nat → Ty} {mv : Option Nat} {M : Int → Option Nat} {n : Nat} {s1 s2 : S9} {x y : Nat} {a b : Ty}
/-- A new attempt. -/
def attNew (w : World) (sb : Nat) (N : Int) (o1 o2 : Obj) : World := (((w.alloc o1).alloc o2).setCell ⟨sb, 2, none⟩ (.int .i64 (N + 1))).alloc (.cells #[.pointer (some ⟨sb, 0, none⟩), .int .i64 (N + 1), .slice none 0 0, .slice none 0 0] 56)
theorem att_start (h : UfS w sb fr N len d dom K F is cm sn E D T mv M n) {o1 o2 : Obj} (hX : X = attNew w sb N o1 o2) :
    S9Ok X w.heap.size sb (w.heap.size + 2) fr (N + 1) (.slice none 0 0) [] ⟨F, is, cm, sn, M, mv, .slice none 0 0, [], n, K⟩ ∧ Kept (fun k => k = sb) w X ∧ X.heap.size = w.heap.size + 3 := by
  have hl := h.sub.lt.1
  have hk : Kept (fun k => k = sb) w X := by rw [hX]; unfold attNew; exact ((((Kept.refl (fun k => k = sb) w).alloc _).alloc _).set sb 2 _ fun _ => rfl).alloc _
  have hz : (((w.alloc o1).alloc o2).setCell ⟨sb, 2, none⟩ (.int .i64 (N + 1))).heap.size = w.heap.size + 2 := by simp
  have hzX : X.heap.size = w.heap.size + 3 := by rw [hX]; unfold attNew; simp
  refine ⟨⟨h.tms.turn hk (fun b hb e => h.sepS.1 (e ▸ hb)) (fun b hb e => h.sepS.2 (e ▸ hb)), ⟨?_, fun mb e => ?_, h.sub.none⟩, ⟨?_, World.ownsRow_nil _ _ _ _, OwnPtrs.nil _ _, by simp [Value.ownBlock], by simp [Value.ownBlock], .inl rfl, by omega⟩, h.fo, h.map, h.sepS, h.sepM, fun k hk2 => ?_, fun k hk2 => Nat.lt_of_lt_of_le (h.kl k hk2) hk.size, h.nl, Nat.zero_le _, by simp⟩, hk, hzX⟩
  · rw [hX]
    unfold attNew
    rw [heap_alloc_old _ _ (by rw [hz]; omega)]
    refine heap_set9 2 _ (?_ : ((w.alloc o1).alloc o2).heap[sb]? = some (.cells #[.int .i64 fr, .map mv, .int .i64 N] 53 (0, 0)))
    rw [heap_alloc_old _ _ (by simp; omega), heap_alloc_old _ _ hl]
    exact h.sub.cells
  · obtain ⟨D, g1, g2⟩ := h.sub.map mb e
    refine ⟨D, ?_, g2⟩
    obtain ⟨es, clock, hb, F, hs, hD⟩ := g1
    exact ⟨es, clock, by rw [hk.block mb (h.sub.lt.2 mb e).1 (h.sub.lt.2 mb e).2]; exact hb, F, hs, hD⟩
  · rw [hX]
    unfold attNew
    rw [← hz]
    exact heap_alloc_new _ _
  · rcases hk2 with rfl | hk2 | hk2
    · refine ⟨fun hm => ?_, fun hm => ?_, by omega, fun e => ?_⟩
      · have := h.tms.lt hm; omega
      · have := h.kl _ hm; omega
      · have := (h.sub.lt.2 _ e.symm).1; omega
    · simp [Value.ownBlock] at hk2
    · simp [Value.ownBlock] at hk2
/-- Both were kept. -/
theorem att2_mk (h : UfS w sb fr N len d dom K F is cm sn E D T mv M n) (k0 : Kept (fun k => k = sb) w X) (hz : w.heap.size ≤ X.heap.size) (hab : w.heap.size ≤ ab)
    (k1 : KeptAs X w3 w.heap.size sb ab fr (N + 1) (.slice none 0 0) [] ⟨F, is, cm, sn, M, mv, .slice none 0 0, [], n, K⟩ s1 a x) (k2 : KeptAs w3 w4 w.heap.size sb ab fr (N + 1) (.slice none 0 0) [] s1 s2 b y) : Att2 w w4 sb ab fr N len d dom K F is cm sn E D T mv M n s2 x y a b := by
  have e := k1.ext.trans k1.kept.size k2.ext
  refine ⟨h, k2.ok, e.old, fun c hc => ?_, fun k hk => ?_, ?_, ⟨(k2.ext.old x k1.mem).1, (k2.ext.old x k1.mem).2.1.trans k1.ty⟩, ⟨k2.mem, k2.ty⟩, ?_, fun P hc hPx hPy c hcL hn => ?_, fun z hz2 => ?_, ?_⟩
  · rcases e.new c hc with g | ⟨g1, g2⟩
    · exact .inl g
    · exact .inr ⟨Nat.le_trans hz g1, g2⟩
  · rcases e.K' k hk with g | g
    · exact .inl g
    · exact .inr (Nat.le_trans hz g)
  · rcases e.mv with g | ⟨-, g, g2, g3⟩
    · exact .inl g
    · exact .inr ⟨g, g2, Nat.le_trans hz g3⟩
  · have h1 := k1.len
    have h2 := k2.len
    have h3 := h.len
    simp only at h1
    omega
  · by_cases hc1 : c ∈ s1.F.L
    · refine k1.reach P (fun q hq hPq k hk => ?_) hPx c hc1 hn
      obtain ⟨d1, -, d3, -⟩ := k2.ext.old q hq
      exact hc q d1 hPq k (by rw [d3]; exact hk)
    · exact k2.reach P hc hPy c hcL hc1
  · rcases k2.dom z hz2 with g | g
    · rcases k1.dom z g with g | g
      · exact .inl (h.dom z g)
      · exact .inr (.inl g)
    · exact .inr (.inr g)
  · refine ((k0.wide fun k _ e => .inl e).trans k1.kept fun k hk e => ?_).trans k2.kept fun k hk e => ?_
    · rcases e with e | e | e | e
      · exact .inl e
      · exact .inr e
      · omega
      · simp [Value.ownBlock] at e
    · rcases k1.ext.keepQ e with e | e
      · rcases e with e | e | e | e
        · exact .inl e
        · exact .inr e
        · omega
        · simp [Value.ownBlock] at e
      · omega
/-- What lay with others lies as it lay. -/
theorem far_of (hM : ∀ k, MineOf sb K F mv k → k < w.heap.size) {v : Value} (hA : IsTyP (fun k => ¬ MineOf sb K F mv k) w a v) {Q : Nat → Prop} (hk : Kept Q w X) (hq : ∀ k, k < w.heap.size → Q k → k = sb ∨ some k = mv) : IsTyP (fun k => k < w.heap.size ∧ k ≠ sb ∧ some k ≠ mv) X a v :=
  isTyP_keep hk.size (fun k hp hl => ⟨hk.block k hl fun e => by
    rcases hq k hl e with e | e
    · exact hp (.inl e)
    · exact hp (.inr (.inl e)), hl, fun e => hp (.inl e), fun e => hp (.inr (.inl e))⟩) _ _ hA
/-- It was undone. -/
theorem Att2.undone (h : Att2 w w4 sb ab fr N len d dom K F is cm sn E D T mv M n s2 x y a b) {w5 w6 w7 : World} {jv : Value} {S : List (Nat × Nat)} {J : List Nat} {is' : Nat → Option Nat} {E' D' : Nat → Nat} {B : Nat}
    (hm : MkI w4 w5 s2.K s2.F E s2.cm s2.sn B sb ab (N + 1) s2.vv (.slice none 0 0) s2.Vl x y S J is' E' D' jv) (hk : Kept (fun k => k ∈ s2.F.L) w5 w6) (hu : Kept (fun k => k ∈ s2.F.L ∨ k = sb ∨ some k = s2.mv) w6 w7) : Kept (MineOf sb K F mv) w w7 := by
  have mine : ∀ k, k < w.heap.size → k ∈ s2.F.L ∨ k = sb ∨ some k = s2.mv → MineOf sb K F mv k := by
    rintro k hk2 (e | e | e)
    · rcases h.new k e with g | ⟨g, -⟩
      · exact .inr (.inr (.inl g))
      · omega
    · exact .inl e
    · rcases h.hmv with e2 | ⟨g, e2, hg⟩
      · exact .inr (.inl (by rw [← e2]; exact e))
      · rw [e2] at e; cases e; omega
  refine (((h.kept.wide fun k _ e => ?_).trans hm.kept fun k hk2 e => ?_).trans hk fun k hk2 e => mine k hk2 (.inl e)).trans hu fun k hk2 e => mine k hk2 e
  · rcases e with e | e
    · exact .inl e
    · exact .inr (.inl e)
  · rcases e with e | e
    · exact mine k hk2 (.inl e)
    · exact absurd (h.ok.att.lt e).1 (by omega)
/-- What undoing asks. -/
theorem Att2.undo (h : Att2 w w4 sb ab fr N len d dom K F is cm sn E D T mv M n s2 x y a b) (hl : len + a.size + b.size ≤ 100000) (hU : UndoOk) {w5 w6 : World} {sn' : Nat → Int} {jv : Value} {S : List (Nat × Nat)} {J : List Nat} {is' : Nat → Option Nat} {E' D' : Nat → Nat} {B : Nat}
    (hm : MkI w4 w5 s2.K s2.F E s2.cm s2.sn B sb ab (N + 1) s2.vv (.slice none 0 0) s2.Vl x y S J is' E' D' jv) (ht : Tms w6 s2.K s2.F is' s2.cm sn') (hk : Kept (fun k => k ∈ s2.F.L) w5 w6) :
    Calls Try.prog 30 #[.pointer (some ⟨ab, 0, none⟩)] w6 fun e w' => e = .returned (.tuple #[]) ∧ Kept (MineOf sb K F mv) w w' := by
  have h1 := h.len
  have h2 := hm.count
  have h3 := h.ok.vl
  have h4 := h.ok.nl
  have hsub5 : SubS w5 sb s2.mv fr (N + 1) s2.M s2.n := h.ok.sub.keep hm.kept (fun e => by
    rcases e with e | e
    · exact h.ok.sepS.1 e
    · exact (h.ok.sepA sb e).2.2.1 rfl) (fun mb e1 e => by
    rcases e with e | e
    · exact (h.ok.sepM mb e1).1 e
    · exact (h.ok.sepA mb e).2.2.2 e1.symm)
  have hsep : ∀ k, AttOf ab s2.vv jv k → k ∉ s2.F.L ∧ ¬ s2.K k ∧ k ≠ sb ∧ some k ≠ s2.mv := by
    intro k e
    obtain ⟨g1, g2⟩ := hm.sepA k e
    refine ⟨g1, g2, ?_⟩
    rcases e with e | e | e
    · exact (h.ok.sepA k (.inl e)).2.2
    · exact (h.ok.sepA k (.inr (.inl e))).2.2
    · rcases hm.jrow with e2 | ⟨g, e2, hg⟩
      · exact (h.ok.sepA k (.inr (.inr (by rw [← e2]; exact e)))).2.2
      · rw [e2] at e; cases e
        refine ⟨?_, fun e => ?_⟩
        · rintro rfl; have := h.ok.sub.lt.1; omega
        · have := (h.ok.sub.lt.2 _ e.symm).1; omega
  refine (hU w6 s2.K s2.F is' s2.cm sn' B sb ab fr (N + 1) s2.vv jv s2.Vl J s2.mv s2.M s2.n ht (fun k hk2 => Nat.lt_of_lt_of_le (h.ok.kl k hk2) (Nat.le_trans hm.kept.size hk.size)) (hsub5.keep hk h.ok.sepS.1 fun mb e => (h.ok.sepM mb e).1) (hm.att.turn hk fun b hb => (hsep b hb).1) hsep h.ok.sepS.1 (fun mb e => (h.ok.sepM mb e).1) (fun j hj => ⟨hm.joins.jmem j hj, hm.jis j hj⟩) hm.jnd (by omega) (by omega) h.ok.i64 (by omega)).mono ?_
  rintro e w7 ⟨he, hk7⟩
  exact ⟨he, h.undone hm hk hk7⟩
end
end Go.Proofs.Ytadhjnbhcenocaa

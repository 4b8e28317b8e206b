/- What 'deeper', 'inner', 'two' of the program's parser answer; what its greater methods are to answer. -/
import Derived.Test.YtgojjknbingfpaaDoorPaA
namespace Go.Proofs.YtgojjknbingfpaaDoor
open Go.RowKit Go.Em5 Go.Em6
set_option linter.unusedSimpArgs false

/-- What a greater method hands back: an expression and a state that fit what is had of tokens. -/
def PostP (F : List Em4.Tok → R) (pb tb d : Nat) (s : St) (w : World) (e : Ending) (w' : World) : Prop :=
  ∃ v n s', e = .returned v ∧ NdB w.heap.size w' n v ∧ IsPs w' pb tb d s' ∧ Bes pb w w' ∧ Fits (thn s F) n s'
/-- The method number k, at the depth d, does F, from the state s on. -/
def DoesAt (k d : Nat) (F : List Em4.Tok → R) (s : St) : Prop := ∀ (w : World) (pb tb : Nat), IsPs w pb tb d s → Calls Tryd.prog k #[PP pb] w (PostP F pb tb d s w)
/-- The method number k, at the depth d, does F. -/
def DoesP (k d : Nat) (F : List Em4.Tok → R) : Prop := ∀ s, DoesAt k d F s
/-- A call of the function number k, by its value. -/
def Enters (k : Nat) : Prop := ∀ (a : Array Value) (w : World), Sem.run Tryd.prog (callFunc k a) w = .ok (.enter k a) w
/-- A method as a value. -/
abbrev MV (k pb : Nat) : Value := .func (.func k) #[PP pb] #[]
theorem mkf (fn : Fn) (first cap : Array Value) (w : World) : (Instr.makeFunc fn first cap).run Tryd.prog w = .ok (.func fn first cap) w := rfl

/-- What is had one deeper. -/
def deeperF (d : Nat) (F : List Em4.Tok → R) : List Em4.Tok → R := fun L => if d + 1 = 40 then .error (3, posL L) else F L
theorem deeperF_ne {d : Nat} {F : List Em4.Tok → R} (h : ¬ d + 1 = 40) : deeperF d F = F := by funext L; simp only [deeperF]; rw [if_neg h]

set_option maxRecDepth 100000 in
set_option maxHeartbeats 2000000 in
theorem qdeeper_any (K d : Nat) (F : List Em4.Tok → R) (hF : DoesP K (d + 1) F) (hn : Enters K) (hd : d < 40) (w : World) (pb tb : Nat) (s : St) (h : IsPs w pb tb d s) :
    Calls Tryd.prog 75 #[PP pb, MV K pb] w (PostP (deeperF d F) pb tb d s w) := by
  have HH : Hid (IsPs w pb tb d s) := h
  have HF : Hid (DoesP K (d + 1) F) := hF
  have HN : Hid (Enters K) := hn
  obtain ⟨hlp, hlt, hnb, -⟩ := h.lt
  obtain ⟨-, -, -, -, k1, -, -, hfr, -⟩ := h.1.cells
  have hf1 := hfr 1
  clear h hF hn hfr
  by_cases h40 : d + 1 = 40
  · have hde : d = 39 := by omega
    subst hde
    have h1 := HH.out.1.deep 40 (by omega)
    have bs0 := (Bes.refl pb w).put 1 (.int .i64 (40 : Nat))
    have hz0 := World.size_setCell w ⟨pb, 1, none⟩ (.int .i64 (40 : Nat))
    obtain ⟨W0, hW0⟩ : ∃ W, w.setCell ⟨pb, 1, none⟩ (.int .i64 40) = W := ⟨_, rfl⟩
    have hW0' : w.setCell ⟨pb, 1, none⟩ (.int .i64 (40 : Nat)) = W0 := hW0
    rw [hW0'] at h1 bs0 hz0
    have k1' : w.cell? ⟨pb, 1, none⟩ = some (.int .i64 39) := k1
    have z4 := Six.made W0 (.string ⟨#[]⟩) (.string ⟨#[]⟩) (.string ⟨#[]⟩) (.int .i64 0) (.int .i64 0) (.slice none 0 0) 24
    have h1a := h1.alloc (.cells #[.string ⟨#[]⟩, .string ⟨#[]⟩, .string ⟨#[]⟩, .int .i64 0, .int .i64 0, .slice none 0 0] 24)
    have bs0a := bs0.alloc (.cells #[.string ⟨#[]⟩, .string ⟨#[]⟩, .string ⟨#[]⟩, .int .i64 0, .int .i64 0, .slice none 0 0] 24)
    obtain ⟨-, -, -, -, c40, -, -, -, -⟩ := h1.cells
    have c40' : W0.cell? ⟨pb, 1, none⟩ = some (.int .i64 40) := c40
    rw [hz0] at z4
    clear k1 hW0' c40 h40 bs0
    go_enter Tryd.func75, Tryd.ntmps75
    go_wp2_with fail
    refine (qfail_raw pb tb 40 s _ 3 h1a (by omega) (by omega)).mono ?_
    rintro e w1 ⟨rfl, h2, b1⟩
    have p4 := z4.bes b1 (by omega)
    have bs1 := bs0a.trans b1
    clear h1 h1a z4 b1 bs0a
    go_wp2_with fail
    rw [HN.out, Oper.upon_enter]
    refine (HF.out _ _ pb tb ⟨h2, by cases s <;> exact Nat.le_refl _⟩).mono ?_
    rintro e w2 ⟨v2, n2, s2, rfl, d2, h2, b2, F2⟩
    have g4' := p4.lt
    obtain ⟨x0, x1, x2, xm, xp, xa, xl, xc, rfl⟩ := ndb_shape d2
    have p5 := p4.bes b2 (by omega)
    have bs2 := bs1.trans b2
    have g4 := p5.lt
    have hl2 := h2.lt.1
    obtain ⟨-, -, -, -, k1, -, -, hfr, -⟩ := h2.1.cells
    have hf1 := hfr 1
    have h3 := h2.1.deep 39 (by omega)
    have bs3 := bs2.put 1 (.int .i64 (39 : Nat))
    have hz3 := World.size_setCell w2 ⟨pb, 1, none⟩ (.int .i64 (39 : Nat))
    have hk3 : ∀ j, j ≠ pb → (w2.setCell ⟨pb, 1, none⟩ (.int .i64 (39 : Nat))).heap[j]? = w2.heap[j]? := fun j hj => Below.heap_setCell _ _ _ _ hj
    have d3 : NdB (w.heap.size + 1) w2 n2 _ := ndb_mono d2 (by omega)
    obtain ⟨W3, hW3⟩ : ∃ W, w2.setCell ⟨pb, 1, none⟩ (.int .i64 39) = W := ⟨_, rfl⟩
    have hW3' : w2.setCell ⟨pb, 1, none⟩ (.int .i64 (39 : Nat)) = W3 := hW3
    rw [hW3'] at h3 bs3 hz3 hk3
    have q4 := p5.far hk3 (by omega)
    have d4 := ndb_set d3 (by omega) hz3 hk3
    obtain ⟨W4, hW4, sx, hz, hk, hbb⟩ := q4.set (.string x0) (.string x1) (.string x2) (.int .i64 xm) (.int .i64 xp) (.slice xa xl xc)
    obtain ⟨a0, a1, a2, a3, a4, a5, f0, f1, f2, f3, f4, f5⟩ := id q4
    have HF2 : Hid (Fits (thn s (deeperF 39 F)) n2 s2) := by cases s <;> (simp only [thn, bnd0, Fits, failS] at F2; subst F2; rfl)
    have h4 : IsPs W4 pb tb 39 s2 := IsPs.set (g := w.heap.size) ⟨h3, lim_of _ (by omega)⟩ hz hk (by omega) (by omega)
    have d5 := ndb_set d4 (by omega) hz hk
    have bs4 := hbb pb w bs3 (Nat.le_refl _)
    clear F2 hfr h3 d4 d3 hk3 hbb hk d2 h2 b2 bs2 bs1 hW3'
    go_wp2_with fail
    obtain ⟨c0, c1, c2, c3, c4, c5, -⟩ := sx.alloc (.cells #[.string x0, .string x1, .string x2, .int .i64 xm, .int .i64 xp, .slice xa xl xc] 24)
    refine bodyPost_ret (v := .agg #[.string x0, .string x1, .string x2, .int .i64 xm, .int .i64 xp, .slice xa xl xc]) (by simp [results, Tryd.results75, go_sem, c0, c1, c2, c3, c4, c5]) rfl ?_
    exact ⟨_, n2, s2, rfl, ndb_below (ndb_mono d5 (by omega)) ((Below.refl _ _).alloc (Nat.le_refl _) _), h4.alloc _, bs4.alloc _, HF2.out⟩
  · have h1 := HH.out.1.deep (d + 1) (by omega)
    have bs0 := (Bes.refl pb w).put 1 (.int .i64 ((d : Int) + 1))
    have hz0 := World.size_setCell w ⟨pb, 1, none⟩ (.int .i64 ((d : Int) + 1))
    obtain ⟨W0, hW0⟩ : ∃ W, w.setCell ⟨pb, 1, none⟩ (.int .i64 ((d : Int) + 1)) = W := ⟨_, rfl⟩
    have hW0' : w.setCell ⟨pb, 1, none⟩ (.int .i64 ((d + 1 : Nat) : Int)) = W0 := by rw [← hW0]; rfl
    rw [hW0'] at h1
    rw [hW0] at bs0 hz0
    have z4 := Six.made W0 (.string ⟨#[]⟩) (.string ⟨#[]⟩) (.string ⟨#[]⟩) (.int .i64 0) (.int .i64 0) (.slice none 0 0) 24
    have h1a : IsPs _ pb tb (d + 1) s := ⟨h1.alloc (.cells #[.string ⟨#[]⟩, .string ⟨#[]⟩, .string ⟨#[]⟩, .int .i64 0, .int .i64 0, .slice none 0 0] 24), lim_of _ (by omega)⟩
    have bs1 := bs0.alloc (.cells #[.string ⟨#[]⟩, .string ⟨#[]⟩, .string ⟨#[]⟩, .int .i64 0, .int .i64 0, .slice none 0 0] 24)
    obtain ⟨-, -, -, -, c40, -, -, -, -⟩ := h1.cells
    have c40' : W0.cell? ⟨pb, 1, none⟩ = some (.int .i64 ((d : Int) + 1)) := c40
    have hne : ((d : Int) + 1 == 40) = false := by simp; omega
    rw [hz0] at z4
    clear hW0' c40 bs0
    go_enter Tryd.func75, Tryd.ntmps75
    go_wp2_with fail
    rw [HN.out, Oper.upon_enter]
    have p4 := z4
    refine (HF.out _ _ pb tb h1a).mono ?_
    rintro e w2 ⟨v2, n2, s2, rfl, d2, h2, b2, F2⟩
    have g4' := p4.lt
    have hm1 : (((d + 1 : Nat) : Int) - 1) = (d : Int) := by omega
    simp only [World.size_alloc] at d2 g4'
    obtain ⟨x0, x1, x2, xm, xp, xa, xl, xc, rfl⟩ := ndb_shape d2
    have p5 := p4.bes b2 (by omega)
    have bs2 := bs1.trans b2
    have g4 := p5.lt
    have hl2 := h2.lt.1
    obtain ⟨-, -, -, -, k1, -, -, hfr, -⟩ := h2.1.cells
    have hf1 := hfr 1
    have h3 := h2.1.deep d (by omega)
    have bs3 := bs2.put 1 (.int .i64 (d : Nat))
    have hz3 := World.size_setCell w2 ⟨pb, 1, none⟩ (.int .i64 (d : Nat))
    have hk3 : ∀ j, j ≠ pb → (w2.setCell ⟨pb, 1, none⟩ (.int .i64 (d : Nat))).heap[j]? = w2.heap[j]? := fun j hj => Below.heap_setCell _ _ _ _ hj
    have d3 : NdB (w.heap.size + 1) w2 n2 _ := ndb_mono d2 (by omega)
    obtain ⟨W3, hW3⟩ : ∃ W, w2.setCell ⟨pb, 1, none⟩ (.int .i64 d) = W := ⟨_, rfl⟩
    have hW3' : w2.setCell ⟨pb, 1, none⟩ (.int .i64 (d : Nat)) = W3 := hW3
    rw [hW3'] at h3 bs3 hz3 hk3
    have q4 := p5.far hk3 (by omega)
    have d4 := ndb_set d3 (by omega) hz3 hk3
    obtain ⟨W4, hW4, sx, hz, hk, hbb⟩ := q4.set (.string x0) (.string x1) (.string x2) (.int .i64 xm) (.int .i64 xp) (.slice xa xl xc)
    obtain ⟨a0, a1, a2, a3, a4, a5, f0, f1, f2, f3, f4, f5⟩ := id q4
    have HF2 : Hid (Fits (thn s (deeperF d F)) n2 s2) := by rw [Hid, deeperF_ne h40]; exact F2
    have h4 : IsPs W4 pb tb d s2 := IsPs.set (g := w.heap.size) ⟨h3, lim_of _ (by omega)⟩ hz hk (by omega) (by omega)
    have d5 := ndb_set d4 (by omega) hz hk
    have bs4 := hbb pb w bs3 (Nat.le_refl _)
    clear F2 hfr h3 d4 d3 hk3 hbb hk d2 h2 b2 bs2 bs1 hW3'
    go_wp2_with fail
    obtain ⟨c0, c1, c2, c3, c4, c5, -⟩ := sx.alloc (.cells #[.string x0, .string x1, .string x2, .int .i64 xm, .int .i64 xp, .slice xa xl xc] 24)
    refine bodyPost_ret (v := .agg #[.string x0, .string x1, .string x2, .int .i64 xm, .int .i64 xp, .slice xa xl xc]) (by simp [results, Tryd.results75, go_sem, c0, c1, c2, c3, c4, c5]) rfl ?_
    exact ⟨_, n2, s2, rfl, ndb_below (ndb_mono d5 (by omega)) ((Below.refl _ _).alloc (Nat.le_refl _) _), h4.alloc _, bs4.alloc _, HF2.out⟩
end Go.Proofs.YtgojjknbingfpaaDoor

/- The two maps of tree's scope: how often each name is bound, the free names found so far; shift. -/
import Derived.Test.YtlniokcekjemdaaDoorStrs
import Derived.Test.YtlniokcekjemdaaDoorMath5
import Derived.Maps.OwnSet
import Derived.Maps.OwnOps
import Derived.StringKeys
namespace Go.Proofs.YtlniokcekjemdaaDoor
open Go.RowKit
set_option linter.unusedSimpArgs false

def ints (u : List UInt8) : List Int := u.map fun c => (c.toNat : Int)
theorem ints_str {x : List Int} (h : ∀ c ∈ x, 0 ≤ c ∧ c ≤ 255) : ints (Em.str x).data.toList = x := by
  unfold ints Em.str
  simp only [List.map_map]
  have : ∀ c ∈ x, ((fun c : UInt8 => (c.toNat : Int)) ∘ fun n : Int => UInt8.ofNat n.toNat) c = c := by
    intro c hc
    have := h c hc
    simp only [Function.comp, UInt8.toNat_ofNat']
    omega
  rw [List.map_congr_left this]
  simp
theorem ints_inj {u v : List UInt8} (h : ints u = ints v) : u = v := by
  have hi : Function.Injective (fun c : UInt8 => (c.toNat : Int)) := fun a b e => UInt8.toNat_inj.1 (Int.ofNat_inj.1 e)
  exact (List.map_inj_right (fun a b e => hi e)).1 h

/-- All blocks but two are as they were. -/
structure Bes2 (a b : Nat) (w w' : World) : Prop where
  os : w'.os = w.os
  tape : w'.tape = w.tape
  output : w'.output = w.output
  size : w.heap.size ≤ w'.heap.size
  block : ∀ k, k < w.heap.size → k ≠ a → k ≠ b → w'.heap[k]? = w.heap[k]?
theorem Bes2.refl (a b : Nat) (w : World) : Bes2 a b w w := ⟨rfl, rfl, rfl, Nat.le_refl _, fun _ _ _ _ => rfl⟩
theorem Bes2.trans {a b : Nat} {u v w : World} (h : Bes2 a b u v) (k : Bes2 a b v w) : Bes2 a b u w :=
  ⟨k.os.trans h.os, k.tape.trans h.tape, k.output.trans h.output, Nat.le_trans h.size k.size, fun i hi ha hb => (k.block i (Nat.lt_of_lt_of_le hi h.size) ha hb).trans (h.block i hi ha hb)⟩
theorem Bes2.of {a b : Nat} {w w' : World} (h : Below w.heap.size w w') : Bes2 a b w w' := ⟨h.os, h.tape, h.output, h.size, fun k hk _ _ => h.block k hk⟩
theorem Bes2.alloc {a b : Nat} {u w : World} (h : Bes2 a b u w) (o : Obj) : Bes2 a b u (w.alloc o) := h.trans (Bes2.of ((Below.refl _ _).alloc (Nat.le_refl _) o))
theorem Bes2.grown1 {a b : Nat} {u w w' : World} (h : Bes2 a b u w) (hg : w.grownBy w' (some a)) : Bes2 a b u w' :=
  h.trans ⟨hg.os, hg.tape, hg.output, hg.size, fun k hk ha _ => hg.block k hk (fun e => ha (Option.some.inj e))⟩
theorem Bes2.grown2 {a b : Nat} {u w w' : World} (h : Bes2 a b u w) (hg : w.grownBy w' (some b)) : Bes2 a b u w' :=
  h.trans ⟨hg.os, hg.tape, hg.output, hg.size, fun k hk _ hb => hg.block k hk (fun e => hb (Option.some.inj e))⟩
theorem Bes2.cell {a b : Nat} {w w' : World} (h : Bes2 a b w w') {p : Addr} (hp : p.block < w.heap.size) (ha : p.block ≠ a) (hb : p.block ≠ b) : w'.cell? p = w.cell? p := World.cell?_of_block (w := w) (h.block p.block hp ha hb)
/-- .. so below both. -/
theorem Bes2.below {a b B : Nat} {w w' : World} (h : Bes2 a b w w') (ha : B ≤ a) (hb : B ≤ b) (hB : B ≤ w.heap.size) : Below B w w' :=
  ⟨h.os, h.tape, h.output, h.size, fun k hk => h.block k (by omega) (by omega) (by omega)⟩

def Cnt (D : DataW Unit) (C : List Int → Int) : Prop := ∀ u : List UInt8, D.atKey (.string u) (.lit (.int .i64 0)) = .lit (.int .i64 (C (ints u)))
def HasK (D : DataW Unit) (F : List (List Int)) : Prop := ∀ u : List UInt8, Maps.has D (.string u) = decide (ints u ∈ F)

theorem map_cell {H : Type} {P : Program} {k : TypeId} {R : Value → Option (DataW H × List MemPlace)} {w : World} {b n : Nat} {D : DataW H} (h : w.ownsMap P k R b n D) (o : Nat) : w.cell? ⟨b, o, none⟩ = none := by
  obtain ⟨es, clock, hb, -⟩ := h
  simp [World.cell?, hb]

/-- In the world w the block sb is a scope: the map mb tells how often each name is bound, the map mf which names were found free. -/
structure Scope (w : World) (sb mb mf : Nat) (C : List Int → Int) (F : List (List Int)) (n : Nat) : Prop where
  c0 : w.cell? ⟨sb, 0, none⟩ = some (.map (some mb))
  c1 : w.cell? ⟨sb, 1, none⟩ = some (.map (some mf))
  ne : mb ≠ mf
  txt : ∀ x ∈ F, Em5.Txt x
  bound : ∃ D, w.ownsMap Tryd.prog 9 (plainElem (H := Unit) Tryd.prog 3) mb n D ∧ Cnt D C
  free : ∃ D, w.ownsMap Tryd.prog 9 (unitElem (H := Unit)) mf n D ∧ HasK D F
theorem Scope.sbmb {w : World} {sb mb mf : Nat} {C : List Int → Int} {F : List (List Int)} {n : Nat} (h : Scope w sb mb mf C F n) : sb ≠ mb := by
  obtain ⟨D, h1, -⟩ := h.bound
  intro e
  have := h.c0
  rw [e, map_cell h1 0] at this
  cases this
theorem Scope.sbmf {w : World} {sb mb mf : Nat} {C : List Int → Int} {F : List (List Int)} {n : Nat} (h : Scope w sb mb mf C F n) : sb ≠ mf := by
  obtain ⟨D, h1, -⟩ := h.free
  intro e
  have := h.c0
  rw [e, map_cell h1 0] at this
  cases this
theorem Scope.lt {w : World} {sb mb mf : Nat} {C : List Int → Int} {F : List (List Int)} {n : Nat} (h : Scope w sb mb mf C F n) : sb < w.heap.size ∧ mb < w.heap.size ∧ mf < w.heap.size := by
  obtain ⟨D, h1, -⟩ := h.bound
  obtain ⟨D', h2, -⟩ := h.free
  exact ⟨Em.cell_lt h.c0, h1.lt, h2.lt⟩
theorem Scope.mono {w : World} {sb mb mf : Nat} {C : List Int → Int} {F : List (List Int)} {n m : Nat} (h : Scope w sb mb mf C F n) (hm : n ≤ m) : Scope w sb mb mf C F m := by
  obtain ⟨D, h1, h2⟩ := h.bound
  obtain ⟨D', h3, h4⟩ := h.free
  exact ⟨h.c0, h.c1, h.ne, h.txt, ⟨D, h1.mono hm, h2⟩, ⟨D', h3.mono hm, h4⟩⟩
theorem Scope.congr {w : World} {sb mb mf : Nat} {C C' : List Int → Int} {F : List (List Int)} {n : Nat} (h : Scope w sb mb mf C F n) (hc : ∀ x, C x = C' x) : Scope w sb mb mf C' F n := by
  have : C = C' := funext hc
  rw [← this]; exact h
theorem Scope.below {w w' : World} {sb mb mf : Nat} {C : List Int → Int} {F : List (List Int)} {n : Nat} (h : Scope w sb mb mf C F n) (hb : Below w.heap.size w w') : Scope w' sb mb mf C F n := by
  obtain ⟨D, h1, h2⟩ := h.bound
  obtain ⟨D', h3, h4⟩ := h.free
  obtain ⟨l0, l1, l2⟩ := h.lt
  have hg : w.grownBy w' none := ⟨hb.os, hb.tape, hb.output, hb.size, fun k hk _ => hb.block k hk⟩
  exact ⟨by rw [hb.cell (p := ⟨sb, 0, none⟩) l0]; exact h.c0, by rw [hb.cell (p := ⟨sb, 1, none⟩) l0]; exact h.c1, h.ne, h.txt, ⟨D, h1.kept hg (by simp), h2⟩, ⟨D', h3.kept hg (by simp), h4⟩⟩

theorem key_str {x : List Int} (hx : Em5.Txt x) : keyOf Tryd.prog 9 (.string (Em.str x)) = some (.string (Em.str x).data.toList) :=
  WideMaps.keyOf_string_mk Tryd.underlying9 (by rw [(Em.isStr_str hx.1).size]; have := hx.2; unfold maxLen; omega)
/-- 's.bound[x]'. -/
theorem Scope.look {w : World} {sb mb mf : Nat} {C : List Int → Int} {F : List (List Int)} {n : Nat} (h : Scope w sb mb mf C F n) {x : List Int} (hx : Em5.Txt x) :
    Sem.run Tryd.prog (Instr.lookup 35 (.map (some mb)) (.string (Em.str x)) false) w = .ok (.int .i64 (C x)) w := by
  obtain ⟨D, h1, h2⟩ := h.bound
  obtain ⟨c, hrun, hat, -⟩ := h1.lookup_int (t := 35) (Maps.string_keyed Tryd.underlying9) Tryd.underlying35 Tryd.underlying3 (Tryd.zeroValue3 _) (key_str hx)
  rw [h2, ints_str hx.1] at hat
  injection hat with e
  injection e with e1 e2
  rw [hrun, e2]
theorem wf_i64 {c : Int} (hc : -9223372036854775808 ≤ c ∧ c ≤ 9223372036854775807) : (Lit.int .i64 c).wf = true := by
  simp [Lit.wf, IntKind.min, IntKind.max, IntKind.bits, IntKind.signed]
  omega
/-- 's.bound[x] = c'. -/
theorem Scope.setB {w : World} {sb mb mf : Nat} {C : List Int → Int} {F : List (List Int)} {n : Nat} (h : Scope w sb mb mf C F n) {x : List Int} (hx : Em5.Txt x) {c : Int} (hc : -9223372036854775808 ≤ c ∧ c ≤ 9223372036854775807) (hn : n < 1000000000000) :
    ∃ w', Sem.run Tryd.prog (Instr.mapUpdate 35 (.map (some mb)) (.string (Em.str x)) (.int .i64 c)) w = .ok () w' ∧ Scope w' sb mb mf (fun y => if y = x then c else C y) F (n + 1) ∧ w.grownBy w' (some mb) := by
  obtain ⟨D, h1, h2⟩ := h.bound
  obtain ⟨D', h3, h4⟩ := h.free
  obtain ⟨w', r1, r2, r3⟩ := h1.update (t := 35) (e := 3) (Maps.string_keyed Tryd.underlying9) Tryd.underlying35 (by unfold maxLen; omega) (val := .int .i64 c) (key_str hx) (plainElem_int Tryd.underlying3 (wf_i64 hc))
  have l := h.lt
  refine ⟨w', r1, ⟨?_, ?_, h.ne, h.txt, ⟨_, r2, fun u => ?_⟩, ⟨D', (h3.kept r3 (fun e => h.ne (Option.some.inj e).symm)).mono (by omega), h4⟩⟩, r3⟩
  · rw [World.cell?_of_block (w := w) (a := ⟨sb, 0, none⟩) (r3.block sb l.1 (fun e => h.sbmb (Option.some.inj e)))]; exact h.c0
  · rw [World.cell?_of_block (w := w) (a := ⟨sb, 1, none⟩) (r3.block sb l.1 (fun e => h.sbmb (Option.some.inj e)))]; exact h.c1
  · by_cases hu : u = (Em.str x).data.toList
    · subst hu
      rw [Maps.atKey_put_same h1.isMap (k := .string _) trivial]
      simp only [ints_str hx.1, if_true]
    · rw [Maps.atKey_put_other (fun e => hu (by injection e)), h2]
      show _ = DataW.lit (Lit.int IntKind.i64 (if ints u = x then c else C (ints u)))
      rw [if_neg (fun e => hu (ints_inj (by rw [ints_str hx.1]; exact e)))]
/-- 's.free[x] = struct{}{}'. -/
theorem Scope.setF {w : World} {sb mb mf : Nat} {C : List Int → Int} {F : List (List Int)} {n : Nat} (h : Scope w sb mb mf C F n) {x : List Int} (hx : Em5.Txt x) (hn : n < 1000000000000) :
    ∃ w', Sem.run Tryd.prog (Instr.mapUpdate 36 (.map (some mf)) (.string (Em.str x)) (.agg #[])) w = .ok () w' ∧ Scope w' sb mb mf C (F ++ [x]) (n + 1) ∧ w.grownBy w' (some mf) := by
  obtain ⟨D, h1, h2⟩ := h.bound
  obtain ⟨D', h3, h4⟩ := h.free
  obtain ⟨w', r1, r2, r3⟩ := h3.update (t := 36) (Maps.string_keyed Tryd.underlying9) Tryd.underlying36 (by unfold maxLen; omega) (key_str hx) unitElem_mk
  have l := h.lt
  refine ⟨w', r1, ⟨?_, ?_, h.ne, ?_, ⟨D, (h1.kept r3 (fun e => h.ne (Option.some.inj e))).mono (by omega), h2⟩, ⟨_, r2, fun u => ?_⟩⟩, r3⟩
  · rw [World.cell?_of_block (w := w) (a := ⟨sb, 0, none⟩) (r3.block sb l.1 (fun e => h.sbmf (Option.some.inj e)))]; exact h.c0
  · rw [World.cell?_of_block (w := w) (a := ⟨sb, 1, none⟩) (r3.block sb l.1 (fun e => h.sbmf (Option.some.inj e)))]; exact h.c1
  · intro y hy
    rcases List.mem_append.1 hy with e | e
    · exact h.txt y e
    · simp at e; subst e; exact hx
  · by_cases hu : u = (Em.str x).data.toList
    · subst hu
      rw [Maps.has_put_same h3.isMap (k := .string _) trivial, ints_str hx.1]
      simp
    · rw [Maps.has_put_other (fun e => hu (by injection e)), h4, decide_eq_decide, List.mem_append]
      refine ⟨.inl, fun e => e.elim id (fun e => absurd (ints_inj (by rw [ints_str hx.1]; simpa using e)) hu)⟩
end Go.Proofs.YtlniokcekjemdaaDoor

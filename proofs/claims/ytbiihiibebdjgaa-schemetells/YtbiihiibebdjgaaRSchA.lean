/- The document's own Look (chapter 10): the last one of a name. -/
import Derived.Test.YtbiihiibebdjgaaFrameBd
import Derived.Test.YtbiihiibebdjgaaRTypC
import Derived.Test.YtbiihiibebdjgaaTyApp
import Derived.Test.YtbiihiibebdjgaaRTypV
import Derived.Test.YtbiihiibebdjgaaRTypP
import Derived.WalkKit
import Derived.WalkSpells
import Derived.WalkLawsBesides
import Derived.Deep.RegionHeld
namespace Go.Proofs.Ytbiihiibebdjgaa
open Go.RowKit Go.Em8
set_option linter.unusedSimpArgs false
set_option linter.unusedVariables false

/-- A bound of the row, its cells written out. -/
theorem IsBds.get {w : World} {pa : Option Addr} {k pc : Nat} {l : List Bd} (h : IsBds w (.slice pa k pc) l) {j : Nat} {x : Bd} (hj : l[j]? = some x) :
    ∃ b off va vk vc s n ka kl kc, pa = some ⟨b, off, none⟩ ∧ k = l.length ∧ l.length ≤ pc ∧ pc ≤ 9223372036854775807 ∧ b < w.heap.size ∧ Em5.Txt x.nm ∧ w.cell? ⟨b, off + j * 5, none⟩ = some (.string (Em.str x.nm)) ∧ w.cell? ⟨b, off + j * 5 + 1, none⟩ = some (.slice va vk vc) ∧ w.cell? ⟨b, off + j * 5 + 2, none⟩ = some (.string s) ∧ w.cell? ⟨b, off + j * 5 + 3, none⟩ = some (.int .i64 n) ∧ w.cell? ⟨b, off + j * 5 + 4, none⟩ = some (.slice ka kl kc) ∧
      IsInts w (.slice va vk vc) x.vs ∧ IsTy w x.ty (.agg #[.string s, .int .i64 n, .slice ka kl kc]) := by
  obtain ⟨a, cap, e, h1, h2, h3⟩ := h
  cases e
  have hl := (List.getElem?_eq_some_iff.1 hj).1
  obtain ⟨b, off, e1, hb, hk⟩ := h3 (by omega)
  obtain ⟨c0, c1, c2, c3, c4, k0, k1, k2, k3, k4, rfl, g1, g2, g3⟩ := hk j x hj
  have g2' := g2
  obtain ⟨va, vc, e2, -⟩ := g2'
  obtain ⟨s, n, ka, kl, kc, e3⟩ := isTyP_form (isTy_isP _ _ g3)
  simp only [Value.agg.injEq, Array.mk.injEq, List.cons.injEq, and_true] at e3
  obtain ⟨rfl, rfl, rfl⟩ := e3
  subst e2
  exact ⟨b, off, va, _, vc, s, n, ka, kl, kc, e1, rfl, h1, h2, hb, g1, k0, k1, k2, k3, k4, g2, g3⟩
/-- The last one of a name. -/
def lastB (l : List Bd) (nm : List Int) : Option Bd := l.reverse.find? fun x => decide (x.nm = nm)
theorem lastB_none {l : List Bd} {nm : List Int} (h : ∀ x ∈ l, x.nm ≠ nm) : lastB l nm = none := by
  unfold lastB
  rw [List.find?_eq_none]
  intro x hx
  simpa using h x (by simpa using hx)
theorem lastB_some {l : List Bd} {nm : List Int} {j : Nat} {x : Bd} (hj : l[j]? = some x) (hx : x.nm = nm) (h : ∀ y ∈ l.drop (j + 1), y.nm ≠ nm) : lastB l nm = some x := by
  have hl := (List.getElem?_eq_some_iff.1 hj).1
  have e : l = l.take j ++ x :: l.drop (j + 1) := by
    conv => lhs; rw [← List.take_append_drop j l]
    rw [List.drop_eq_getElem_cons hl]
    rw [(List.getElem?_eq_some_iff.1 hj).2]
  unfold lastB
  rw [e]
  simp only [List.reverse_append, List.reverse_cons, List.append_assoc, List.find?_append]
  have hn : (l.drop (j + 1)).reverse.find? (fun x => decide (x.nm = nm)) = none := by
    rw [List.find?_eq_none]
    intro y hy
    simpa using h y (by simpa using hy)
  rw [hn]
  simp [hx]
/-- What Look answers. -/
def LookOk (w : World) (l : List Bd) (nm : List Int) (e : Ending) (w' : World) : Prop := Below w.heap.size w w' ∧
  ((∃ x va vk vc s n ka kl kc, lastB l nm = some x ∧ e = .returned (.tuple #[.agg #[.slice va vk vc, .string s, .int .i64 n, .slice ka kl kc], .bool true]) ∧ IsInts w' (.slice va vk vc) x.vs ∧ IsTy w' x.ty (.agg #[.string s, .int .i64 n, .slice ka kl kc])) ∨
   (lastB l nm = none ∧ e = .returned (.tuple #[.agg #[.slice none 0 0, .string ⟨#[]⟩, .int .i64 0, .slice none 0 0], .bool false])))

set_option maxRecDepth 100000 in
set_option maxHeartbeats 2000000 in
theorem rlook_any (l : List Bd) (pa : Option Addr) (pk pc : Nat) (nm : List Int) (hnm : Em5.Txt nm) (w : World) (hv : IsBds w (.slice pa pk pc) l) :
    Calls Try.prog 12 #[.slice pa pk pc, .string (Em.str nm)] w fun e w' => LookOk w l nm e w' := by
  have hpk : pk = l.length := by obtain ⟨a, cap, e, -⟩ := hv; cases e; rfl
  subst hpk
  have HV : Hid (IsBds w (.slice pa l.length pc) l) := hv
  have HN : Hid (Em5.Txt nm) := hnm
  have hlen : l.length ≤ 9223372036854775807 := by obtain ⟨a, cap, e, h1, h2, -⟩ := hv; omega
  obtain ⟨W, hW⟩ : ∃ W, W = w.alloc (.cells #[.slice none 0 0, .string ⟨#[]⟩, .int .i64 0, .slice none 0 0] 31) := ⟨_, rfl⟩
  have hbW : Below w.heap.size w W := by rw [hW]; exact (Below.refl _ _).alloc (Nat.le_refl _) _
  have q0 : W.cell? ⟨w.heap.size, 0, none⟩ = some (.slice none 0 0) := by rw [hW]; simp
  have q1 : W.cell? ⟨w.heap.size, 1, none⟩ = some (.string ⟨#[]⟩) := by rw [hW]; simp
  have q2 : W.cell? ⟨w.heap.size, 2, none⟩ = some (.int .i64 0) := by rw [hW]; simp
  have q3 : W.cell? ⟨w.heap.size, 3, none⟩ = some (.slice none 0 0) := by rw [hW]; simp
  have qf : ∀ o, W.frozen? ⟨w.heap.size, o, none⟩ = false := by intro o; rw [hW]; simp [go_sem]
  have HW : Hid (Below w.heap.size w W) := hbW
  have HWE : Hid (w.alloc (.cells #[.slice none 0 0, .string ⟨#[]⟩, .int .i64 0, .slice none 0 0] 31) = W) := hW.symm
  clear hW hbW hv hnm
  go_enter Try.func12, Try.ntmps12
  go_upto_region 1 with fail
  rw [HWE.out]
  clear HWE
  go_wp2_with fail
  go_loopw [6] (fun i wr => ∃ k : Nat, k ≤ l.length ∧ i = .int .i64 ((k : Int) - 1) ∧ Hid (∀ y ∈ l.drop k, y.nm ≠ nm) ∧ wr = W) (fun i _ => (intOf i + 1).toNat)
  case atStart => exact ⟨l.length, Nat.le_refl _, by first | rfl | simp, by simp [Hid], rfl⟩
  case round =>
    obtain ⟨k, hk, rfl, HD, rfl⟩ := hrel
    cases k with
    | zero =>
      have HL : Hid (lastB l nm = none) := lastB_none (by simpa using HD.out)
      have e0 : ((0 : Nat) : Int) - 1 = -1 := by omega
      rw [e0]
      go_wp2_with fail
      refine bodyPost_ret (v := .tuple #[.agg #[.slice none 0 0, .string ⟨#[]⟩, .int .i64 0, .slice none 0 0], .bool false]) (by simp [results, Try.results12, go_sem, q0, q1, q2, q3]) rfl ⟨?_, .inr ⟨HL.out, rfl⟩⟩
      exact ((((HW.out.setCell (p := ⟨w.heap.size, 0, none⟩) (Nat.le_refl _) _).setCell (p := ⟨w.heap.size, 1, none⟩) (Nat.le_refl _) _).setCell (p := ⟨w.heap.size, 2, none⟩) (Nat.le_refl _) _).setCell (p := ⟨w.heap.size, 3, none⟩) (Nat.le_refl _) _)
    | succ j =>
      obtain ⟨x, hx⟩ : ∃ x, l[j]? = some x := ⟨_, List.getElem?_eq_getElem (by omega)⟩
      obtain ⟨b, off, va, vk, vc, s, n, ka, kl, kc, rfl, -, hc1, hc2, hb, ht, m0, m1, m2, m3, m4, gV, gT⟩ := HV.out.get hx
      have HX : Hid (l[j]? = some x ∧ IsInts w (.slice va vk vc) x.vs ∧ IsTy w x.ty (.agg #[.string s, .int .i64 n, .slice ka kl kc])) := ⟨hx, gV, gT⟩
      have e0 : ((j + 1 : Nat) : Int) - 1 = (j : Int) := by omega
      rw [e0]
      have key : ∀ o, wr.cell? ⟨b, o, none⟩ = w.cell? ⟨b, o, none⟩ := fun o => HW.out.cell (p := ⟨b, o, none⟩) hb
      rw [← key] at m0 m1 m2 m3 m4
      obtain ⟨q, hq⟩ : ∃ q, q = decide (x.nm = nm) := ⟨_, rfl⟩
      have HQ : Hid (q = decide (x.nm = nm)) := hq
      have hs : ((Em.str x.nm).toList == (Em.str nm).toList) = q := by rw [hq]; exact tstr_beq ht HN.out
      have hj0 : (0 : Int) ≤ (j : Int) := by omega
      have hjl : (j : Int) < (l.length : Int) := by omega
      have hbn : ¬ b = w.heap.size := by omega
      clear hx gV gT key hq ht e0
      cases q with
      | false =>
        go_wp2_with fail
        go_roundw
        case rel =>
          refine ⟨j, by omega, by first | rfl | go_num, fun y hy => ?_, by first | trivial | rfl⟩
          have hjl' : j < l.length := by omega
          rw [List.drop_eq_getElem_cons hjl'] at hy
          rcases List.mem_cons.1 hy with e | hy
          · rw [(List.getElem?_eq_some_iff.1 HX.out.1).2] at e
            subst e
            exact of_decide_eq_false HQ.out.symm
          · exact HD.out y hy
        case measure => simp [intOf]
      | true =>
        have HL : Hid (lastB l nm = some x) := lastB_some HX.out.1 (of_decide_eq_true HQ.out.symm) HD.out
        go_wp2_with fail
        refine bodyPost_ret (v := .tuple #[.agg #[.slice va vk vc, .string s, .int .i64 n, .slice ka kl kc], .bool true]) (by simp [results, Try.results12, go_sem, q0, q1, q2, q3]) rfl ?_
        have hB : Below w.heap.size w ((((wr.setCell ⟨w.heap.size, 0, none⟩ (.slice va vk vc)).setCell ⟨w.heap.size, 1, none⟩ (.string s)).setCell ⟨w.heap.size, 2, none⟩ (.int .i64 n)).setCell ⟨w.heap.size, 3, none⟩ (.slice ka kl kc)) := ((((HW.out.setCell (p := ⟨w.heap.size, 0, none⟩) (Nat.le_refl _) _).setCell (p := ⟨w.heap.size, 1, none⟩) (Nat.le_refl _) _).setCell (p := ⟨w.heap.size, 2, none⟩) (Nat.le_refl _) _).setCell (p := ⟨w.heap.size, 3, none⟩) (Nat.le_refl _) _)
        exact ⟨hB, .inl ⟨x, va, vk, vc, s, n, ka, kl, kc, HL.out, rfl, HX.out.2.1.below hB, isTy_below hB _ _ HX.out.2.2⟩⟩
end Go.Proofs.Ytbiihiibebdjgaa

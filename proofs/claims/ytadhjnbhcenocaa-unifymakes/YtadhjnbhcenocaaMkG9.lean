/- Several texts in one: MkA, MkB, MkC, MkD. -/
import Derived.Test.YtadhjnbhcenocaaRTypC
import Derived.Test.YtadhjnbhcenocaaRTypN
import Derived.Test.YtadhjnbhcenocaaFrameG9
import Derived.Test.YtadhjnbhcenocaaUfG9
import Derived.Deep.RegionHeld
import Derived.Test.YtadhjnbhcenocaaRUni
import Derived.Test.YtadhjnbhcenocaaUfO
namespace Go.Proofs.Ytadhjnbhcenocaa
open Go.RowKit Go.Em8 Go.Em9
set_option linter.unusedSimpArgs false
set_option linter.unusedVariables false

/-- How many nodes pairs have. -/
def psz : List (Ty × Ty) → Nat
  | [] => 0
  | p :: r => p.1.size + p.2.size + psz r
theorem psz_app (a b : List (Ty × Ty)) : psz (a ++ b) = psz a + psz b := by
  induction a with
  | nil => simp [psz]
  | cons p r ih => simp only [List.cons_append, psz, ih]; omega
theorem take_next {α : Type} {l : List α} {j : Nat} {p : α} (h : l[j]? = some p) : l.take (j + 1) = l.take j ++ [p] := by
  rw [List.take_add_one, h]; rfl
theorem psz_next {l : List (Ty × Ty)} {j : Nat} {p : Ty × Ty} (h : l[j]? = some p) : psz (l.take (j + 1)) = psz (l.take j) + (p.1.size + p.2.size) := by
  rw [take_next h, psz_app]; simp [psz]
theorem isTy_teach9 {T : Ty} (h : isTy T = true) : Em8.teach T = true := by
  unfold isTy at h
  simp only [Bool.and_eq_true] at h
  exact h.2
/-- A pair of the row, its cells written out. -/
theorem IsPairs.get {w : World} {pa : Option Addr} {k pc : Nat} {l : List (Ty × Ty)} (h : IsPairs w (.slice pa k pc) l) {j : Nat} {p : Ty × Ty} (hj : l[j]? = some p) :
    ∃ b off x0 x1 xa xk xc y0 y1 ya yk yc, pa = some ⟨b, off, none⟩ ∧ k = l.length ∧ l.length ≤ pc ∧ pc ≤ 9223372036854775807 ∧ b < w.heap.size ∧ w.cell? ⟨b, off + j * 6, none⟩ = some (.string x0) ∧ w.cell? ⟨b, off + j * 6 + 1, none⟩ = some (.int .i64 x1) ∧ w.cell? ⟨b, off + j * 6 + 2, none⟩ = some (.slice xa xk xc) ∧
      w.cell? ⟨b, off + j * 6 + 3, none⟩ = some (.string y0) ∧ w.cell? ⟨b, off + j * 6 + 4, none⟩ = some (.int .i64 y1) ∧ w.cell? ⟨b, off + j * 6 + 5, none⟩ = some (.slice ya yk yc) ∧ Em8.IsTy w p.1 (.agg #[.string x0, .int .i64 x1, .slice xa xk xc]) ∧ Em8.IsTy w p.2 (.agg #[.string y0, .int .i64 y1, .slice ya yk yc]) := by
  obtain ⟨a, cap, e, h1, h2, h3⟩ := h
  cases e
  have hl := (List.getElem?_eq_some_iff.1 hj).1
  obtain ⟨b, off, e1, hb, hk⟩ := h3 (by omega)
  obtain ⟨c0, c1, c2, c3, c4, c5, k0, k1, k2, k3, k4, k5, g1, g2⟩ := hk j p hj
  obtain ⟨x0, x1, xa, xk, xc, e2⟩ := isTyP_form (isTy_isP _ _ g1)
  obtain ⟨y0, y1, ya, yk, yc, e3⟩ := isTyP_form (isTy_isP _ _ g2)
  simp only [Value.agg.injEq, Array.mk.injEq, List.cons.injEq, and_true] at e2 e3
  obtain ⟨rfl, rfl, rfl⟩ := e2
  obtain ⟨rfl, rfl, rfl⟩ := e3
  exact ⟨b, off, x0, x1, xa, xk, xc, y0, y1, ya, yk, yc, e1, rfl, h1, h2, hb, k0, k1, k2, k3, k4, k5, g1, g2⟩

/-- What 'may' answers. -/
def MayOk (l : List (Ty × Ty)) (w : World) (e : Ending) (w' : World) : Prop := ∃ r, e = .returned (.bool r) ∧ (r = true → l.length < 20 ∧ psz l ≤ 60 ∧ ∀ p ∈ l, Em8.teach p.1 = true ∧ Em8.teach p.2 = true) ∧ Below w.heap.size w w'
theorem MayOk.no {l : List (Ty × Ty)} {w w' : World} {e : Ending} (he : e = .returned (.bool false)) (hb : Below w.heap.size w w') : MayOk l w e w' := ⟨false, he, (fun h => by cases h), hb⟩
theorem MayOk.mk {l : List (Ty × Ty)} {w w' : World} {e : Ending} (r : Bool) (he : e = .returned (.bool r)) (hr : r = true → l.length < 20 ∧ psz l ≤ 60 ∧ ∀ p ∈ l, Em8.teach p.1 = true ∧ Em8.teach p.2 = true) (hb : Below w.heap.size w w') : MayOk l w e w' := ⟨r, he, hr, hb⟩

set_option maxRecDepth 100000 in
set_option maxHeartbeats 4000000 in
theorem may9_any (l : List (Ty × Ty)) (pa : Option Addr) (pk pc : Nat) (w : World) (hv : IsPairs w (.slice pa pk pc) l) :
    Calls Try.prog 8 #[.slice pa pk pc] w fun e w' => MayOk l w e w' := by
  have HV : Hid (IsPairs w (.slice pa pk pc) l) := hv
  have hpk : pk = l.length := by obtain ⟨a, cap, e, -⟩ := hv; cases e; rfl
  subst hpk
  clear hv
  go_enter Try.func8, Try.ntmps8
  go_wp2_with fail
  go_loopw [3, 4] (fun n i wr => ∃ (j : Nat) (m : Nat), j ≤ l.length ∧ m ≤ 60 ∧ n = .int .i64 m ∧ i = .int .i64 j ∧ Hid (m = psz (l.take j) ∧ (∀ p ∈ l.take j, Em8.teach p.1 = true ∧ Em8.teach p.2 = true) ∧ Below w.heap.size w wr)) (fun _ i _ => l.length - (intOf i).toNat)
  case atStart => exact ⟨0, 0, Nat.zero_le _, by omega, rfl, rfl, by simp [psz], by simp, Below.refl _ _⟩
  case round =>
    obtain ⟨j, m, hj, hm60, rfl, rfl, HR⟩ := hrel
    by_cases hlt : j < l.length
    · by_cases h20 : (j : Int) < 20
      · obtain ⟨p, hp⟩ : ∃ p, l[j]? = some p := ⟨_, List.getElem?_eq_getElem hlt⟩
        obtain ⟨b, off, x0, x1, xa, xk, xc, y0, y1, ya, yk, yc, rfl, -, hc1, hc2, hb, m0, m1, m2, m3, m4, m5, gA, gB⟩ := HV.out.get hp
        have HP : Hid (l[j]? = some p) := hp
        have HC : Hid (∀ w', Below w.heap.size w w' → w'.cell? ⟨b, off + j * 6, none⟩ = some (.string x0) ∧ w'.cell? ⟨b, off + j * 6 + 1, none⟩ = some (.int .i64 x1) ∧ w'.cell? ⟨b, off + j * 6 + 2, none⟩ = some (.slice xa xk xc) ∧ w'.cell? ⟨b, off + j * 6 + 3, none⟩ = some (.string y0) ∧ w'.cell? ⟨b, off + j * 6 + 4, none⟩ = some (.int .i64 y1) ∧ w'.cell? ⟨b, off + j * 6 + 5, none⟩ = some (.slice ya yk yc)) := fun w' h => by
          have key : ∀ o, w'.cell? ⟨b, o, none⟩ = w.cell? ⟨b, o, none⟩ := fun o => h.cell (p := ⟨b, o, none⟩) hb
          exact ⟨(key _).trans m0, (key _).trans m1, (key _).trans m2, (key _).trans m3, (key _).trans m4, (key _).trans m5⟩
        have HA : Hid (∀ w', Below w.heap.size w w' → Em8.IsTy w' p.1 (.agg #[.string x0, .int .i64 x1, .slice xa xk xc])) := fun w' h => isTy_below h _ _ gA
        have HB : Hid (∀ w', Below w.heap.size w w' → Em8.IsTy w' p.2 (.agg #[.string y0, .int .i64 y1, .slice ya yk yc])) := fun w' h => isTy_below h _ _ gB
        have b0 : Below w.heap.size w wr.drew := HR.out.2.2.drew
        have hj0 : (0 : Int) ≤ (j : Int) := by omega
        have hjl : (j : Int) < (l.length : Int) := by omega
        obtain ⟨z1, hz1⟩ : ∃ z, z = min p.1.size 100 := ⟨_, rfl⟩
        obtain ⟨z2, hz2⟩ : ∃ z, z = min p.2.size 100 := ⟨_, rfl⟩
        have HZ : Hid (z1 = min p.1.size 100 ∧ z2 = min p.2.size 100) := ⟨hz1, hz2⟩
        have hz1l : (z1 : Int) ≤ 100 := by omega
        have hz2l : (z2 : Int) ≤ 100 := by omega
        have HSA : Hid (∀ w', Below w.heap.size w w' → Calls Try.prog 9 #[.agg #[.string x0, .int .i64 x1, .slice xa xk xc], .int .i64 100] w' fun e w'' => e = .returned (.int .i64 (z1 : Int)) ∧ Below w'.heap.size w' w'') := fun w' h => by rw [HZ.out.1]; exact rtsize_any p.1 _ _ 100 (HA.out _ h) (by omega) (by omega)
        have HSB : Hid (∀ w', Below w.heap.size w w' → Calls Try.prog 9 #[.agg #[.string y0, .int .i64 y1, .slice ya yk yc], .int .i64 100] w' fun e w'' => e = .returned (.int .i64 (z2 : Int)) ∧ Below w'.heap.size w' w'') := fun w' h => by rw [HZ.out.2]; exact rtsize_any p.2 _ _ 100 (HB.out _ h) (by omega) (by omega)
        clear hp gA gB m0 m1 m2 m3 m4 m5 hb hz1 hz2
        go_wp2_with fail
        go_region_held (fun w' => w'.cell? ⟨b, off + j * 6, none⟩ = some (.string x0) ∧ w'.cell? ⟨b, off + j * 6 + 1, none⟩ = some (.int .i64 x1) ∧ w'.cell? ⟨b, off + j * 6 + 2, none⟩ = some (.slice xa xk xc) ∧ w'.cell? ⟨b, off + j * 6 + 3, none⟩ = some (.string y0) ∧ w'.cell? ⟨b, off + j * 6 + 4, none⟩ = some (.int .i64 y1) ∧ w'.cell? ⟨b, off + j * 6 + 5, none⟩ = some (.slice ya yk yc))
          (with_reducible (first | exact HC.out _ b2 | exact HC.out _ b1 | exact HC.out _ b0))
          (first
            | (go_at_call 9; refine (HSB.out _ b1).mono ?_; rintro e v2 ⟨rfl, hc⟩; have b2 := b1.trans (hc.mono b1.size); clear hc)
            | (go_at_call 9; refine (HSA.out _ b0).mono ?_; rintro e v1 ⟨rfl, hc⟩; have b1 := b0.trans (hc.mono b0.size); clear hc))
        all_goals
          have HB2 : Hid (Below w.heap.size w v2) := b2
          clear b0 b1 b2
          obtain ⟨q0, q1, q2, q3, q4, q5⟩ := HC.out _ HB2.out
          by_cases h60 : (60 : Int) < (m : Int) + (z1 : Int) + (z2 : Int)
          · go_wp2_with fail
            go_ret
            exact MayOk.no rfl HB2.out
          have HSZ : Hid (z1 = p.1.size ∧ z2 = p.2.size) := by obtain ⟨e1, e2⟩ := HZ.out; constructor <;> omega
          go_wp2_with fail
          refine (rtIs_any p.1 _ _ (HA.out _ HB2.out)).mono ?_
          rintro e v3 ⟨rfl, hc⟩
          have HB3 : Hid (Below w.heap.size w v3) := HB2.out.trans (hc.mono HB2.out.size)
          clear hc q0 q1 q2 q3 q4 q5
          obtain ⟨q0, q1, q2, q3, q4, q5⟩ := HC.out _ HB3.out
          cases hi1 : isTy p.1 with
          | false =>
            clear hi1
            go_wp2_with fail
            go_ret
            exact MayOk.no rfl HB3.out
          | true =>
          have HI1 : Hid (Em8.teach p.1 = true) := isTy_teach9 hi1
          clear hi1
          go_wp2_with fail
          refine (rtIs_any p.2 _ _ (HB.out _ HB3.out)).mono ?_
          rintro e v4 ⟨rfl, hc⟩
          have HB4 : Hid (Below w.heap.size w v4) := HB3.out.trans (hc.mono HB3.out.size)
          clear hc q0 q1 q2 q3 q4 q5
          cases hi2 : isTy p.2 with
          | false =>
            clear hi2
            go_wp2_with fail
            go_ret
            exact MayOk.no rfl HB4.out
          | true =>
          have HI2 : Hid (Em8.teach p.2 = true) := isTy_teach9 hi2
          clear hi2
          go_wp2_with fail
          go_roundw
          case rel =>
            refine ⟨j + 1, m + z1 + z2, by omega, by omega, by go_num, by go_num, ?_, fun r hr => ?_, HB4.out⟩
            · rw [psz_next HP.out, ← HR.out.1, HSZ.out.1, HSZ.out.2]; omega
            · rw [take_next HP.out] at hr
              rcases List.mem_append.1 hr with hr | hr
              · exact HR.out.2.1 r hr
              · simp at hr; subst hr; exact ⟨HI1.out, HI2.out⟩
          case measure => simp [intOf]; omega
      · have hge : ¬ (l.length : Int) < 20 := by omega
        go_wp2_with fail
        go_ret
        exact MayOk.no rfl HR.out.2.2
    · obtain rfl : j = l.length := by omega
      have HFin : Hid (∀ q, q = decide ((l.length : Int) < 20) → q = true → l.length < 20 ∧ psz l ≤ 60 ∧ ∀ p ∈ l, Em8.teach p.1 = true ∧ Em8.teach p.2 = true) := fun q hq h => by
        have h1 := HR.out
        rw [List.take_length] at h1
        have h2 := of_decide_eq_true (hq.symm.trans h)
        exact ⟨by omega, by omega, h1.2.1⟩
      go_wp2_with fail
      go_ret
      exact MayOk.mk _ rfl (HFin.out _ rfl) HR.out.2.2
end Go.Proofs.Ytadhjnbhcenocaa

namespace Go.Proofs.Ytadhjnbhcenocaa
open Go.RowKit Go.Em8 Go.Em9
set_option linter.unusedSimpArgs false
set_option linter.unusedVariables false

/-- All types as one. -/
def allT : List (Ty × Ty) → Ty → Ty
  | [], t => t
  | p :: r, t => allT r (.mk tPair 0 [t, .mk tPair 0 [p.1, p.2]])
theorem allT_app (a b : List (Ty × Ty)) : ∀ t, allT (a ++ b) t = allT b (allT a t) := by
  induction a with
  | nil => intro t; rfl
  | cons p r ih => intro t; simp only [List.cons_append, allT, ih]
theorem allT_next {l : List (Ty × Ty)} {j : Nat} {p : Ty × Ty} (h : l[j]? = some p) (t : Ty) : allT (l.take (j + 1)) t = .mk tPair 0 [allT (l.take j) t, .mk tPair 0 [p.1, p.2]] := by
  rw [take_next h, allT_app]; rfl
/-- A pair of types, laid into new memory. -/
theorem isTyP_pair {P : Nat → Prop} {w : World} {x y : Ty} {c0 c1 c2 d0 d1 d2 : Value} (hx : IsTyP P w x (.agg #[c0, c1, c2])) (hy : IsTyP P w y (.agg #[d0, d1, d2])) (hP : P w.heap.size) (t : TypeId) : IsTyP P (w.alloc (.cells #[c0, c1, c2, d0, d1, d2] t)) (.mk tPair 0 [x, y]) (.agg #[.string ⟨#[112, 97, 105, 114]⟩, .int .i64 0, .slice (some ⟨w.heap.size, 0, none⟩) 2 2]) := by
  have hb : Below w.heap.size w (w.alloc (.cells #[c0, c1, c2, d0, d1, d2] t)) := (Below.refl _ _).alloc (Nat.le_refl _) _
  unfold IsTyP
  refine ⟨_, 2, rfl, ⟨by decide, by decide⟩, by unfold Em5.I64; decide, by simp, by simp, fun _ => ⟨w.heap.size, 0, rfl, by simp, hP, ?_⟩⟩
  unfold TysAtP TysAtP TysAtP
  exact ⟨⟨c0, c1, c2, by simp, by simp, by simp, isTyP_keep hb.size (fun k hp hl => ⟨hb.block k hl, hp⟩) _ _ hx⟩, ⟨d0, d1, d2, by simp, by simp, by simp, isTyP_keep hb.size (fun k hp hl => ⟨hb.block k hl, hp⟩) _ _ hy⟩, trivial⟩
/-- While they are put together: the box of the type by then, the box of the answer. -/
structure AllI (w0 w wr : World) (T : Ty) (s0 : ByteArray) (s1 : Int) (sa : Option Addr) (sk sc : Nat) : Prop where
  box : wr.cell? ⟨w.heap.size, 0, none⟩ = some (.string s0) ∧ wr.cell? ⟨w.heap.size, 1, none⟩ = some (.int .i64 s1) ∧ wr.cell? ⟨w.heap.size, 2, none⟩ = some (.slice sa sk sc)
  boxF : ∀ o, wr.frozen? ⟨w.heap.size, o, none⟩ = false
  res : wr.cell? ⟨w.heap.size + 1, 0, none⟩ = some (.string ⟨#[]⟩) ∧ wr.cell? ⟨w.heap.size + 1, 1, none⟩ = some (.int .i64 0) ∧ wr.cell? ⟨w.heap.size + 1, 2, none⟩ = some (.slice none 0 0)
  resF : ∀ o, wr.frozen? ⟨w.heap.size + 1, o, none⟩ = false
  typ : IsTyP (fun b => b < w0.heap.size ∨ w.heap.size + 2 ≤ b) wr T (.agg #[.string s0, .int .i64 s1, .slice sa sk sc])
  low : Below w.heap.size w wr
  size : w.heap.size + 2 ≤ wr.heap.size
  base : w0.heap.size ≤ w.heap.size
def AllN (w0 w wr : World) (T : Ty) : Prop := ∃ s0 s1 sa sk sc, AllI w0 w wr T s0 s1 sa sk sc
theorem AllI.next {w0 w wr x4 : World} {l : List (Ty × Ty)} {t T : Ty} {j : Nat} {p : Ty × Ty} {s0 : ByteArray} {s1 : Int} {sa : Option Addr} {sk sc : Nat} (h : AllI w0 w wr T s0 s1 sa sk sc) (hp : l[j]? = some p ∧ T = allT (l.take j) t) {g : Nat}
    (hq : IsTyP (fun b => b < w0.heap.size ∨ w.heap.size + 2 ≤ b) x4 (.mk tPair 0 [T, .mk tPair 0 [p.1, p.2]]) (.agg #[.string ⟨#[112, 97, 105, 114]⟩, .int .i64 0, .slice (some ⟨g, 0, none⟩) 2 2])) (b4 : Below w.heap.size w x4) (r4 : Below wr.heap.size wr x4) (hz : w.heap.size + 2 ≤ wr.heap.size) :
    AllN w0 w (((x4.setCell ⟨w.heap.size, 0, none⟩ (.string ⟨#[112, 97, 105, 114]⟩)).setCell ⟨w.heap.size, 1, none⟩ (.int .i64 0)).setCell ⟨w.heap.size, 2, none⟩ (.slice (some ⟨g, 0, none⟩) 2 2)) (allT (l.take (j + 1)) t) := by
  obtain ⟨hj, rfl⟩ := hp
  rw [allT_next hj]
  have k1 : ∀ o, x4.cell? ⟨w.heap.size, o, none⟩ = wr.cell? ⟨w.heap.size, o, none⟩ := fun o => r4.cell (p := ⟨w.heap.size, o, none⟩) (by simp only; omega)
  have k2 : ∀ o, x4.cell? ⟨w.heap.size + 1, o, none⟩ = wr.cell? ⟨w.heap.size + 1, o, none⟩ := fun o => r4.cell (p := ⟨w.heap.size + 1, o, none⟩) (by simp only; omega)
  have f1 : ∀ o, x4.frozen? ⟨w.heap.size, o, none⟩ = false := fun o => by rw [r4.frozen (p := ⟨w.heap.size, o, none⟩) (by simp only; omega)]; exact h.boxF o
  have f2 : ∀ o, x4.frozen? ⟨w.heap.size + 1, o, none⟩ = false := fun o => by rw [r4.frozen (p := ⟨w.heap.size + 1, o, none⟩) (by simp only; omega)]; exact h.resF o
  obtain ⟨e0, e1, e2⟩ := h.box
  obtain ⟨g0, g1, g2⟩ := h.res
  rw [← k1] at e0 e1 e2
  rw [← k2] at g0 g1 g2
  have hne : ∀ k, k ≠ w.heap.size → (((x4.setCell ⟨w.heap.size, 0, none⟩ (.string ⟨#[112, 97, 105, 114]⟩)).setCell ⟨w.heap.size, 1, none⟩ (.int .i64 0)).setCell ⟨w.heap.size, 2, none⟩ (.slice (some ⟨g, 0, none⟩) 2 2)).heap[k]? = x4.heap[k]? := fun k hk => by
    rw [Below.heap_setCell _ _ _ _ (by simp; exact hk), Below.heap_setCell _ _ _ _ (by simp; exact hk), Below.heap_setCell _ _ _ _ (by simp; exact hk)]
  refine ⟨⟨#[112, 97, 105, 114]⟩, 0, some ⟨g, 0, none⟩, 2, 2, ⟨by simp [go_sem, e0, e1, e2], by simp [go_sem, e0, e1, e2], by simp [go_sem, e0, e1, e2]⟩, fun o => by simp [go_sem, f1], ⟨?_, ?_, ?_⟩, fun o => by simp [go_sem, f2], ?_, below_set3 (g := w.heap.size) b4 (Nat.le_refl _) _ _ _, by simp; have := r4.size; omega, h.base⟩
  · rw [World.cell?_of_block (w := x4) (a := ⟨w.heap.size + 1, 0, none⟩) (hne _ (by simp))]; exact g0
  · rw [World.cell?_of_block (w := x4) (a := ⟨w.heap.size + 1, 1, none⟩) (hne _ (by simp))]; exact g1
  · rw [World.cell?_of_block (w := x4) (a := ⟨w.heap.size + 1, 2, none⟩) (hne _ (by simp))]; exact g2
  · exact isTyP_keep (by simp) (fun k hp hl => ⟨hne k (by have := h.base; omega), hp⟩) _ _ hq

set_option maxRecDepth 100000 in
set_option maxHeartbeats 4000000 in
theorem all9_any (l : List (Ty × Ty)) (t : Ty) (pa : Option Addr) (pk pc : Nat) (u : Value) (w0 w : World) (hv : IsPairs w0 (.slice pa pk pc) l) (hu : IsTy w0 t u) (hbw : Below w0.heap.size w0 w) :
    Calls Try.prog 17 #[.slice pa pk pc, u] w fun e w' => ∃ q, e = .returned q ∧ IsTyP (fun b => b < w0.heap.size ∨ w.heap.size + 2 ≤ b) w' (allT l t) q ∧ Below w.heap.size w w' := by
  have HV : Hid (IsPairs w0 (.slice pa pk pc) l) := hv
  have HB0 : Hid (Below w0.heap.size w0 w) := hbw
  have hpk : pk = l.length := by obtain ⟨a, cap, e, -⟩ := hv; cases e; rfl
  subst hpk
  obtain ⟨t0, t1, ta, tk, tc, rfl⟩ := isTyP_form (isTy_isP _ _ hu)
  obtain ⟨W, hW⟩ : ∃ W, W = (w.alloc (.cells #[.string t0, .int .i64 t1, .slice ta tk tc] 25)).alloc (.cells #[.string ⟨#[]⟩, .int .i64 0, .slice none 0 0] 25) := ⟨_, rfl⟩
  have hbW : Below w.heap.size w W := by rw [hW]; exact ((Below.refl _ _).alloc (Nat.le_refl _) _).alloc (by simp) _
  have HI0 : Hid (AllI w0 w W (allT (l.take 0) t) t0 t1 ta tk tc) := by
    refine ⟨⟨?_, ?_, ?_⟩, fun o => ?_, ⟨?_, ?_, ?_⟩, fun o => ?_, isTyP_keep (hbw.trans (hbW.mono hbw.size)).size (fun k hp hl => ⟨(hbw.trans (hbW.mono hbw.size)).block k hl, .inl hl⟩) _ _ (isTy_isP _ _ hu), hbW, ?_, hbw.size⟩ <;> rw [hW] <;> simp [go_sem]
  have HWE : Hid ((w.alloc (.cells #[.string t0, .int .i64 t1, .slice ta tk tc] 25)).alloc (.cells #[.string ⟨#[]⟩, .int .i64 0, .slice none 0 0] 25) = W) := hW.symm
  clear hv hu hW hbW hbw
  go_enter Try.func17, Try.ntmps17
  go_upto_region 1 with fail
  rw [HWE.out]
  clear HWE
  go_wp2_with fail
  go_loopw [5] (fun i wr => ∃ (j : Nat), j ≤ l.length ∧ i = .int .i64 j ∧ AllN w0 w wr (allT (l.take j) t)) (fun i _ => l.length - (intOf i).toNat)
  case atStart => exact ⟨0, Nat.zero_le _, rfl, _, _, _, _, _, HI0.out⟩
  case round =>
  clear HI0
  obtain ⟨j, hj, rfl, s0, s1, sa, sk, sc, hI⟩ := hrel
  have HFI' : Hid (AllI w0 w wr (allT (l.take j) t) s0 s1 sa sk sc) := hI
  obtain ⟨⟨c0, c1, c2⟩, cf, ⟨e0, e1, e2⟩, ef, -, -, hsz, -⟩ := hI
  by_cases hlt : j < l.length
  · obtain ⟨p, hp⟩ : ∃ p, l[j]? = some p := ⟨_, List.getElem?_eq_getElem hlt⟩
    obtain ⟨b, off, x0, x1, xa, xk, xc, y0, y1, ya, yk, yc, rfl, -, hc1, hc2, hb, m0, m1, m2, m3, m4, m5, gA, gB⟩ := HV.out.get hp
    obtain ⟨T, hT⟩ : ∃ T, T = allT (l.take j) t := ⟨_, rfl⟩
    have HFI : Hid (AllI w0 w wr T s0 s1 sa sk sc) := by rw [hT]; exact HFI'.out
    have HPP : Hid (l[j]? = some p ∧ T = allT (l.take j) t) := ⟨hp, hT⟩
    have HBW : Hid (Below w.heap.size w wr) := HFI.out.low
    have HZ2 : Hid (w.heap.size + 2 ≤ wr.heap.size) := hsz
    have HC : Hid (∀ w', Below w.heap.size w w' → w'.cell? ⟨b, off + j * 6, none⟩ = some (.string x0) ∧ w'.cell? ⟨b, off + j * 6 + 1, none⟩ = some (.int .i64 x1) ∧ w'.cell? ⟨b, off + j * 6 + 2, none⟩ = some (.slice xa xk xc) ∧ w'.cell? ⟨b, off + j * 6 + 3, none⟩ = some (.string y0) ∧ w'.cell? ⟨b, off + j * 6 + 4, none⟩ = some (.int .i64 y1) ∧ w'.cell? ⟨b, off + j * 6 + 5, none⟩ = some (.slice ya yk yc)) := fun w' h => by
      have key : ∀ o, w'.cell? ⟨b, o, none⟩ = w0.cell? ⟨b, o, none⟩ := fun o => (HB0.out.trans (h.mono HB0.out.size)).cell (p := ⟨b, o, none⟩) hb
      exact ⟨(key _).trans m0, (key _).trans m1, (key _).trans m2, (key _).trans m3, (key _).trans m4, (key _).trans m5⟩
    have HBO : Hid (∀ w', Below wr.heap.size wr w' → w'.cell? ⟨w.heap.size, 0, none⟩ = some (.string s0) ∧ w'.cell? ⟨w.heap.size, 1, none⟩ = some (.int .i64 s1) ∧ w'.cell? ⟨w.heap.size, 2, none⟩ = some (.slice sa sk sc) ∧ ∀ o, w'.frozen? ⟨w.heap.size, o, none⟩ = false) := fun w' h => by
      obtain ⟨e0, e1, e2⟩ := HFI.out.box
      have hl : w.heap.size < wr.heap.size := by have := HZ2.out; omega
      have key : ∀ o, w'.cell? ⟨w.heap.size, o, none⟩ = wr.cell? ⟨w.heap.size, o, none⟩ := fun o => h.cell (p := ⟨w.heap.size, o, none⟩) hl
      exact ⟨(key 0).trans e0, (key 1).trans e1, (key 2).trans e2, fun o => by rw [h.frozen (p := ⟨w.heap.size, o, none⟩) hl]; exact HFI.out.boxF o⟩
    obtain ⟨W1, hW1⟩ : ∃ W, W = wr.drew.alloc (.cells #[.string x0, .int .i64 x1, .slice xa xk xc, .string y0, .int .i64 y1, .slice ya yk yc] 25) := ⟨_, rfl⟩
    have HW1 : Hid (W1 = wr.drew.alloc (.cells #[.string x0, .int .i64 x1, .slice xa xk xc, .string y0, .int .i64 y1, .slice ya yk yc] 25)) := hW1
    have HR1 : Hid (Below wr.heap.size wr W1) := by rw [Hid, hW1]; exact (Below.refl _ _).drew.alloc (Nat.le_refl _) _
    have HP1 : Hid (IsTyP (fun b => b < w0.heap.size ∨ w.heap.size + 2 ≤ b) W1 (.mk tPair 0 [p.1, p.2]) (.agg #[.string ⟨#[112, 97, 105, 114]⟩, .int .i64 0, .slice (some ⟨wr.heap.size, 0, none⟩) 2 2])) := by
      have bd : Below w0.heap.size w0 wr.drew := HB0.out.trans (HBW.out.drew.mono HB0.out.size)
      rw [Hid, hW1]
      exact isTyP_pair (w := wr.drew) (isTyP_keep bd.size (fun k hp hl => ⟨bd.block k hl, .inl hl⟩) _ _ (isTy_isP _ _ gA)) (isTyP_keep bd.size (fun k hp hl => ⟨bd.block k hl, .inl hl⟩) _ _ (isTy_isP _ _ gB)) (.inr HZ2.out) _
    have b0 : Below w.heap.size w wr.drew := HBW.out.drew
    have hj0 : (0 : Int) ≤ (j : Int) := by omega
    have hjl : (j : Int) < (l.length : Int) := by omega
    have hne : ¬ w.heap.size = wr.heap.size := by omega
    clear hp gA gB m0 m1 m2 m3 m4 m5 hb hT hW1 e0 e1 e2 ef cf hsz HFI'
    go_wp2_with fail
    refine wp_region_held_drew (S := fun w' => w'.cell? ⟨b, off + j * 6, none⟩ = some (.string x0) ∧ w'.cell? ⟨b, off + j * 6 + 1, none⟩ = some (.int .i64 x1) ∧ w'.cell? ⟨b, off + j * 6 + 2, none⟩ = some (.slice xa xk xc) ∧ w'.cell? ⟨b, off + j * 6 + 3, none⟩ = some (.string y0) ∧ w'.cell? ⟨b, off + j * 6 + 4, none⟩ = some (.int .i64 y1) ∧ w'.cell? ⟨b, off + j * 6 + 5, none⟩ = some (.slice ya yk yc)) (by kernel_rfl) (HC.out _ b0) (fun hHeld => ?_)
    refine wpAnyH_take (i := 1) (v := ?_) rfl (by kernel_rfl) (by kernel_rfl) (by kernel_rfl) (fun _ _ _ h => h) (Or.inl ⟨by rfl, ?_⟩) (by assumption) ?_
    rotate_left
    · (intro w hSw; (try dsimp only at hSw); go_simp); all_goals (with_reducible rfl)
    simp only [List.getElem_toArray, List.getElem_cons_succ, List.getElem_cons_zero, Act.put, List.setIfInBounds_toArray, List.set_cons_zero, List.set_cons_succ]
    refine wpAnyH_take (i := 2) (v := ?_) rfl (by kernel_rfl) (by kernel_rfl) (by kernel_rfl) (fun _ _ _ h => h) (Or.inl ⟨by rfl, ?_⟩) (by assumption) ?_
    rotate_left
    · (intro w hSw; (try dsimp only at hSw); go_simp); all_goals (with_reducible rfl)
    simp only [List.getElem_toArray, List.getElem_cons_succ, List.getElem_cons_zero, Act.put, List.setIfInBounds_toArray, List.set_cons_zero, List.set_cons_succ]
    refine wpAnyH_take (i := 3) (v := ?_) rfl (by kernel_rfl) (by kernel_rfl) (by kernel_rfl) (fun _ _ _ h => h) (Or.inl ⟨by rfl, ?_⟩) (by assumption) ?_
    rotate_left
    · (intro w hSw; (try dsimp only at hSw); go_simp); all_goals (with_reducible rfl)
    simp only [List.getElem_toArray, List.getElem_cons_succ, List.getElem_cons_zero, Act.put, List.setIfInBounds_toArray, List.set_cons_zero, List.set_cons_succ]
    refine wpAnyH_take (i := 4) (v := ?_) rfl (by kernel_rfl) (by kernel_rfl) (by kernel_rfl) (fun _ _ _ h => h) (Or.inl ⟨by rfl, ?_⟩) (by assumption) ?_
    rotate_left
    · (intro w hSw; (try dsimp only at hSw); go_simp); all_goals (with_reducible rfl)
    simp only [List.getElem_toArray, List.getElem_cons_succ, List.getElem_cons_zero, Act.put, List.setIfInBounds_toArray, List.set_cons_zero, List.set_cons_succ]
    refine wpAnyH_take (i := 5) (v := ?_) rfl (by kernel_rfl) (by kernel_rfl) (by kernel_rfl) (fun _ _ _ h => h) (Or.inl ⟨by rfl, ?_⟩) (by assumption) ?_
    rotate_left
    · (intro w hSw; (try dsimp only at hSw); go_simp); all_goals (with_reducible rfl)
    simp only [List.getElem_toArray, List.getElem_cons_succ, List.getElem_cons_zero, Act.put, List.setIfInBounds_toArray, List.set_cons_zero, List.set_cons_succ]
    refine wpAnyH_take (i := 6) (v := ?_) rfl (by kernel_rfl) (by kernel_rfl) (by kernel_rfl) (fun _ _ _ h => h) (Or.inl ⟨by rfl, ?_⟩) (by assumption) ?_
    rotate_left
    · (intro w hSw; (try dsimp only at hSw); go_simp); all_goals (with_reducible rfl)
    simp only [List.getElem_toArray, List.getElem_cons_succ, List.getElem_cons_zero, Act.put, List.setIfInBounds_toArray, List.set_cons_zero, List.set_cons_succ]
    refine wpAnyH_take (i := 7) (v := ?_) rfl (by kernel_rfl) (by kernel_rfl) (by kernel_rfl) (fun _ _ _ h => h) (Or.inl ⟨by rfl, ?_⟩) (by assumption) ?_
    rotate_left
    · (intro w hSw; (try dsimp only at hSw); go_simp); all_goals (with_reducible rfl)
    simp only [List.getElem_toArray, List.getElem_cons_succ, List.getElem_cons_zero, Act.put, List.setIfInBounds_toArray, List.set_cons_zero, List.set_cons_succ]
    refine wpAnyH_take (i := 8) (v := ?_) rfl (by kernel_rfl) (by kernel_rfl) (by kernel_rfl) (fun _ _ _ h => h) (Or.inl ⟨by rfl, ?_⟩) (by assumption) ?_
    rotate_left
    · (intro w hSw; (try dsimp only at hSw); go_simp); all_goals (with_reducible rfl)
    simp only [List.getElem_toArray, List.getElem_cons_succ, List.getElem_cons_zero, Act.put, List.setIfInBounds_toArray, List.set_cons_zero, List.set_cons_succ]
    refine wpAnyH_take (i := 9) (v := ?_) rfl (by kernel_rfl) (by kernel_rfl) (by kernel_rfl) (fun _ _ _ h => h) (Or.inl ⟨by rfl, ?_⟩) (by assumption) ?_
    rotate_left
    · (intro w hSw; (try dsimp only at hSw); go_simp); all_goals (with_reducible rfl)
    simp only [List.getElem_toArray, List.getElem_cons_succ, List.getElem_cons_zero, Act.put, List.setIfInBounds_toArray, List.set_cons_zero, List.set_cons_succ]
    refine wpAnyH_take (i := 10) (v := ?_) rfl (by kernel_rfl) (by kernel_rfl) (by kernel_rfl) (fun _ _ _ h => h) (Or.inl ⟨by rfl, ?_⟩) (by assumption) ?_
    rotate_left
    · (intro w hSw; (try dsimp only at hSw); go_simp); all_goals (with_reducible rfl)
    simp only [List.getElem_toArray, List.getElem_cons_succ, List.getElem_cons_zero, Act.put, List.setIfInBounds_toArray, List.set_cons_zero, List.set_cons_succ]
    refine wpAnyH_ready (rs := [0, 11]) (by kernel_rfl) (by simp) (AllReadyH.cons rfl (fun K hK => ?_) (AllReadyH.cons rfl (fun K hK => ?_) AllReadyH.nil))
    ·
      go_simp
      refine hK.out _ _ (HC.out _ (b0)) (fun hHeld => ?_)
      clear hK K
      refine wpAnyH_ready (rs := [11]) (by kernel_rfl) (by simp) (AllReadyH.cons rfl (fun K hK => ?_) AllReadyH.nil)
      go_simp
      refine hK.out _ _ (HC.out _ ((b0.alloc b0.size _))) (fun hHeld => ?_)
      clear hK K
      refine wpAnyH_ready (rs := [12]) (by kernel_rfl) (by simp) (AllReadyH.cons rfl (fun K hK => ?_) AllReadyH.nil)
      go_simp
      go_at_call 25; refine (rtTc_any _ _ _ _ _).mono ?_; rintro e x2 ⟨rfl, hc⟩
      have hc2 : Below W1.heap.size W1 x2 := by rw [HW1.out]; exact hc
      have r2 : Below wr.heap.size wr x2 := HR1.out.trans (hc2.mono HR1.out.size)
      have b2 : Below w.heap.size w x2 := HBW.out.trans (r2.mono HBW.out.size)
      have HQ2 : Hid (IsTyP (fun b => b < w0.heap.size ∨ w.heap.size + 2 ≤ b) x2 (.mk tPair 0 [p.1, p.2]) (.agg #[.string ⟨#[112, 97, 105, 114]⟩, .int .i64 0, .slice (some ⟨wr.heap.size, 0, none⟩) 2 2])) := isTyP_bel HP1.out hc2
      clear hc hc2
      (try dsimp only)
      refine hK.out _ _ (HC.out _ (b2)) (fun hHeld => ?_)
      clear hK K
      refine wpAnyH_ready (rs := [13]) (by kernel_rfl) (by simp) (AllReadyH.cons rfl (fun K hK => ?_) AllReadyH.nil)
      go_simp
      refine hK.out _ _ (HC.out _ ((b2.alloc b2.size _))) (fun hHeld => ?_)
      clear hK K
      refine wpAnyH_ready (rs := [14]) (by kernel_rfl) (by simp) (AllReadyH.cons rfl (fun K hK => ?_) AllReadyH.nil)
      go_simp
      go_at_call 25; refine (rtTc_any _ _ _ _ _).mono ?_; rintro e x4 ⟨rfl, hc⟩
      have HQ3 := isTyP_pair (P := fun b => b < w0.heap.size ∨ w.heap.size + 2 ≤ b) (isTyP_bel HFI.out.typ r2) HQ2.out (.inr (Nat.le_trans HZ2.out r2.size)) 25
      have HQ4 : Hid (IsTyP (fun b => b < w0.heap.size ∨ w.heap.size + 2 ≤ b) x4 (.mk tPair 0 [T, .mk tPair 0 [p.1, p.2]]) (.agg #[.string ⟨#[112, 97, 105, 114]⟩, .int .i64 0, .slice (some ⟨x2.heap.size, 0, none⟩) 2 2])) := isTyP_bel HQ3 hc
      have r4 : Below wr.heap.size wr x4 := (r2.alloc r2.size _).trans (hc.mono (r2.alloc r2.size _).size)
      have b4 : Below w.heap.size w x4 := HBW.out.trans (r4.mono HBW.out.size)
      obtain ⟨n0, n1, n2, nf⟩ := HBO.out _ r4
      clear hc HQ3
      (try dsimp only)
      refine hK.out _ _ (HC.out _ (b4)) (fun hHeld => ?_)
      clear hK K
      refine wpAnyH_ready (rs := [15]) (by kernel_rfl) (by simp) (AllReadyH.cons rfl (fun K hK => ?_) AllReadyH.nil)
      go_simp
      refine hK.out _ _ (HC.out _ (below_set3 (g := w.heap.size) b4 (Nat.le_refl _) _ _ _)) (fun hHeld => ?_)
      clear hK K
      refine wpAnyH_done (by kernel_rfl) ?_ _
      go_wp2_with fail
      go_roundw
      case rel => exact ⟨j + 1, by omega, by go_num, HFI.out.next HPP.out HQ4.out b4 r4 HZ2.out⟩
      case measure => simp [intOf]; omega
    ·
      go_simp
      refine hK.out _ _ (HC.out _ ((b0.alloc b0.size _))) (fun hHeld => ?_)
      clear hK K
      refine wpAnyH_ready (rs := [0, 12]) (by kernel_rfl) (by simp) (AllReadyH.cons rfl (fun K hK => ?_) (AllReadyH.cons rfl (fun K hK => ?_) AllReadyH.nil))
      ·
        obtain ⟨n0, n1, n2, -⟩ := HBO.out (wr.alloc (.cells #[.string x0, .int .i64 x1, .slice xa xk xc, .string y0, .int .i64 y1, .slice ya yk yc] 25)) ((Below.refl _ _).alloc (Nat.le_refl _) _)
        go_simp
        refine hK.out _ _ (HC.out _ ((b0.alloc b0.size _))) (fun hHeld => ?_)
        clear hK K n0 n1 n2
        refine wpAnyH_ready (rs := [12]) (by kernel_rfl) (by simp) (AllReadyH.cons rfl (fun K hK => ?_) AllReadyH.nil)
        go_simp
        go_at_call 25; refine (rtTc_any _ _ _ _ _).mono ?_; rintro e x2 ⟨rfl, hc⟩
        have hc2 : Below W1.heap.size W1 x2 := by rw [HW1.out]; exact hc
        have r2 : Below wr.heap.size wr x2 := HR1.out.trans (hc2.mono HR1.out.size)
        have b2 : Below w.heap.size w x2 := HBW.out.trans (r2.mono HBW.out.size)
        have HQ2 : Hid (IsTyP (fun b => b < w0.heap.size ∨ w.heap.size + 2 ≤ b) x2 (.mk tPair 0 [p.1, p.2]) (.agg #[.string ⟨#[112, 97, 105, 114]⟩, .int .i64 0, .slice (some ⟨wr.heap.size, 0, none⟩) 2 2])) := isTyP_bel HP1.out hc2
        clear hc hc2
        (try dsimp only)
        refine hK.out _ _ (HC.out _ (b2)) (fun hHeld => ?_)
        clear hK K
        refine wpAnyH_ready (rs := [13]) (by kernel_rfl) (by simp) (AllReadyH.cons rfl (fun K hK => ?_) AllReadyH.nil)
        go_simp
        refine hK.out _ _ (HC.out _ ((b2.alloc b2.size _))) (fun hHeld => ?_)
        clear hK K
        refine wpAnyH_ready (rs := [14]) (by kernel_rfl) (by simp) (AllReadyH.cons rfl (fun K hK => ?_) AllReadyH.nil)
        go_simp
        go_at_call 25; refine (rtTc_any _ _ _ _ _).mono ?_; rintro e x4 ⟨rfl, hc⟩
        have HQ3 := isTyP_pair (P := fun b => b < w0.heap.size ∨ w.heap.size + 2 ≤ b) (isTyP_bel HFI.out.typ r2) HQ2.out (.inr (Nat.le_trans HZ2.out r2.size)) 25
        have HQ4 : Hid (IsTyP (fun b => b < w0.heap.size ∨ w.heap.size + 2 ≤ b) x4 (.mk tPair 0 [T, .mk tPair 0 [p.1, p.2]]) (.agg #[.string ⟨#[112, 97, 105, 114]⟩, .int .i64 0, .slice (some ⟨x2.heap.size, 0, none⟩) 2 2])) := isTyP_bel HQ3 hc
        have r4 : Below wr.heap.size wr x4 := (r2.alloc r2.size _).trans (hc.mono (r2.alloc r2.size _).size)
        have b4 : Below w.heap.size w x4 := HBW.out.trans (r4.mono HBW.out.size)
        obtain ⟨n0, n1, n2, nf⟩ := HBO.out _ r4
        clear hc HQ3
        (try dsimp only)
        refine hK.out _ _ (HC.out _ (b4)) (fun hHeld => ?_)
        clear hK K
        refine wpAnyH_ready (rs := [15]) (by kernel_rfl) (by simp) (AllReadyH.cons rfl (fun K hK => ?_) AllReadyH.nil)
        go_simp
        refine hK.out _ _ (HC.out _ (below_set3 (g := w.heap.size) b4 (Nat.le_refl _) _ _ _)) (fun hHeld => ?_)
        clear hK K
        refine wpAnyH_done (by kernel_rfl) ?_ _
        go_wp2_with fail
        go_roundw
        case rel => exact ⟨j + 1, by omega, by go_num, HFI.out.next HPP.out HQ4.out b4 r4 HZ2.out⟩
        case measure => simp [intOf]; omega
      ·
        go_simp
        go_at_call 25; refine (rtTc_any _ _ _ _ _).mono ?_; rintro e x2 ⟨rfl, hc⟩
        have hc2 : Below W1.heap.size W1 x2 := by rw [HW1.out]; exact hc
        have r2 : Below wr.heap.size wr x2 := HR1.out.trans (hc2.mono HR1.out.size)
        have b2 : Below w.heap.size w x2 := HBW.out.trans (r2.mono HBW.out.size)
        have HQ2 : Hid (IsTyP (fun b => b < w0.heap.size ∨ w.heap.size + 2 ≤ b) x2 (.mk tPair 0 [p.1, p.2]) (.agg #[.string ⟨#[112, 97, 105, 114]⟩, .int .i64 0, .slice (some ⟨wr.heap.size, 0, none⟩) 2 2])) := isTyP_bel HP1.out hc2
        clear hc hc2
        (try dsimp only)
        refine hK.out _ _ (HC.out _ (b2)) (fun hHeld => ?_)
        clear hK K
        refine wpAnyH_ready (rs := [0]) (by kernel_rfl) (by simp) (AllReadyH.cons rfl (fun K hK => ?_) AllReadyH.nil)
        obtain ⟨n0, n1, n2, -⟩ := HBO.out _ r2
        go_simp
        refine hK.out _ _ (HC.out _ (b2)) (fun hHeld => ?_)
        clear hK K n0 n1 n2
        refine wpAnyH_ready (rs := [13]) (by kernel_rfl) (by simp) (AllReadyH.cons rfl (fun K hK => ?_) AllReadyH.nil)
        go_simp
        refine hK.out _ _ (HC.out _ ((b2.alloc b2.size _))) (fun hHeld => ?_)
        clear hK K
        refine wpAnyH_ready (rs := [14]) (by kernel_rfl) (by simp) (AllReadyH.cons rfl (fun K hK => ?_) AllReadyH.nil)
        go_simp
        go_at_call 25; refine (rtTc_any _ _ _ _ _).mono ?_; rintro e x4 ⟨rfl, hc⟩
        have HQ3 := isTyP_pair (P := fun b => b < w0.heap.size ∨ w.heap.size + 2 ≤ b) (isTyP_bel HFI.out.typ r2) HQ2.out (.inr (Nat.le_trans HZ2.out r2.size)) 25
        have HQ4 : Hid (IsTyP (fun b => b < w0.heap.size ∨ w.heap.size + 2 ≤ b) x4 (.mk tPair 0 [T, .mk tPair 0 [p.1, p.2]]) (.agg #[.string ⟨#[112, 97, 105, 114]⟩, .int .i64 0, .slice (some ⟨x2.heap.size, 0, none⟩) 2 2])) := isTyP_bel HQ3 hc
        have r4 : Below wr.heap.size wr x4 := (r2.alloc r2.size _).trans (hc.mono (r2.alloc r2.size _).size)
        have b4 : Below w.heap.size w x4 := HBW.out.trans (r4.mono HBW.out.size)
        obtain ⟨n0, n1, n2, nf⟩ := HBO.out _ r4
        clear hc HQ3
        (try dsimp only)
        refine hK.out _ _ (HC.out _ (b4)) (fun hHeld => ?_)
        clear hK K
        refine wpAnyH_ready (rs := [15]) (by kernel_rfl) (by simp) (AllReadyH.cons rfl (fun K hK => ?_) AllReadyH.nil)
        go_simp
        refine hK.out _ _ (HC.out _ (below_set3 (g := w.heap.size) b4 (Nat.le_refl _) _ _ _)) (fun hHeld => ?_)
        clear hK K
        refine wpAnyH_done (by kernel_rfl) ?_ _
        go_wp2_with fail
        go_roundw
        case rel => exact ⟨j + 1, by omega, by go_num, HFI.out.next HPP.out HQ4.out b4 r4 HZ2.out⟩
        case measure => simp [intOf]; omega
  · obtain rfl : j = l.length := by omega
    clear hj hlt
    rw [List.take_length] at HFI'
    go_wp2
    refine bodyPost_ret (v := .agg #[.string s0, .int .i64 s1, .slice sa sk sc]) (by simp [results, Try.results17, go_sem, e0, e1, e2]) rfl ⟨_, rfl, ?_, ?_⟩
    · refine isTyP_keep (by simp) (fun x hp hl => ?_) _ _ HFI'.out.typ
      have hne : ¬ x = w.heap.size + 1 := by have := HB0.out.size; omega
      exact ⟨by rw [Below.heap_setCell _ _ _ _ (by simp; exact hne), Below.heap_setCell _ _ _ _ (by simp; exact hne), Below.heap_setCell _ _ _ _ (by simp; exact hne)], hp⟩
    · exact below_set3 (g := w.heap.size + 1) HFI'.out.low (by omega) _ _ _
end Go.Proofs.Ytadhjnbhcenocaa

namespace Go.Proofs.Ytadhjnbhcenocaa
open Go.RowKit Go.Em8 Go.Em9
set_option linter.unusedSimpArgs false
set_option linter.unusedVariables false

/-- All these pairs are made one. -/
def Slv (t : Int → Ty) (l : List (Ty × Ty)) : Prop := ∀ p ∈ l, tsub t p.1 = tsub t p.2
theorem slv_app (t : Int → Ty) (l : List (Ty × Ty)) (p : Ty × Ty) : Slv t (l ++ [p]) ↔ Slv t l ∧ tsub t p.1 = tsub t p.2 := by
  unfold Slv
  constructor
  · intro h; exact ⟨fun q hq => h q (by simp [hq]), h p (by simp)⟩
  · rintro ⟨h1, h2⟩ q hq
    rcases List.mem_append.1 hq with hq | hq
    · exact h1 q hq
    · simp at hq; subst hq; exact h2
theorem slv_nil (t : Int → Ty) : Slv t [] := fun p hp => by cases hp
section
variable {w w' : World} {B sb : Nat} {Z Z' : Nat → Prop} {vv tt : Value} {D : Said} {N : Int}
theorem Sub9.keep (h : Sub9 w B Z sb vv tt D N) {Q : Nat → Prop} (hk : Kept Q w w') (h1 : ∀ k, SubOf sb vv tt k → ¬ Q k) (h2 : ∀ k, Z k → k < w.heap.size → ¬ Q k) : Sub9 w' B Z sb vv tt D N := by
  have hlt := h.lt
  have hn := h1 sb (.inl rfl)
  have hb0 : w'.heap[sb]? = w.heap[sb]? := hk.block sb hlt hn
  have key : ∀ o, w'.cell? ⟨sb, o, none⟩ = w.cell? ⟨sb, o, none⟩ := fun o => World.cell?_of_block (w := w) (a := ⟨sb, o, none⟩) hb0
  exact ⟨by rw [key]; exact h.c0, by rw [key]; exact h.c1, by rw [key]; exact h.c2, fun o => by rw [World.frozen?_of_block (w := w) (a := ⟨sb, o, none⟩) hb0]; exact h.fz o, ownInts_keepB h.own (fun b e => hk.block b (h.of_lt (.inr (.inl e))).2 (h1 b (.inr (.inl e)))), h.i64,
    ownTys_keepB h.tys hk.size (fun b hp hl => hk.block b hl (by
      rcases hp with hp | hp
      · exact h2 b hp.1 hl
      · exact h1 b (.inr (.inr hp)))), h.hsb, h.nv, h.nt, h.vt, h.len⟩
theorem Sub9.zed (h : Sub9 w B Z sb vv tt D N) (hz : ∀ k, Z k → k < w.heap.size → Z' k) : Sub9 w B Z' sb vv tt D N :=
  ⟨h.c0, h.c1, h.c2, h.fz, h.own, h.i64, ownTys_keepPQ h.tys (Nat.le_refl _) (fun b hp hl => ⟨rfl, hz b hp.1 hl, hp.2⟩) (fun b e => rfl), h.hsb, h.nv, h.nt, h.vt, h.len⟩
theorem sub_start0 (w : World) (Z : Nat → Prop) {g B : Nat} (hg : g = w.heap.size) (hB : B ≤ g) : Sub9 (w.alloc (.cells #[.slice none 0 0, .slice none 0 0, .int .i64 0] 34)) B Z g (.slice none 0 0) (.slice none 0 0) [] 0 := by
  subst hg
  exact ⟨by simp, by simp, by simp, fun o => by simp [go_sem], OwnInts.nil _ _, by simp, OwnTys.nil _ _ _ _, hB, by simp [Value.ownBlock], by simp [Value.ownBlock], .inl rfl, by simp⟩
theorem kept_of (hb : Below B w w') (hf : ∀ k, k < w.heap.size → ¬ SubOf sb vv tt k → w'.heap[k]? = w.heap[k]?) : Kept (SubOf sb vv tt) w w' := ⟨hb.os, hb.tape, hb.output, hb.size, hf⟩
end

/-- The document's Sub, where the program's is of no more use. -/
structure X9s (w : World) (b0 xb : Nat) (U : List Int) (l2 : List (Ty × Ty)) (Z : Nat → Prop) (vv tt : Value) (D : Said) : Prop where
  sub : Sub9 w b0 Z xb vv tt D 0
  good : Em9.Good D
  din : Din U D
  sol : ∀ t, Fac t (ofD D) ↔ Slv t l2
/-- Both. -/
structure M9s (w : World) (b0 sb xb : Nat) (U : List Int) (l1 l2 : List (Ty × Ty)) (N : Int) (len : Nat) (Mn : Nat → Prop) (d : Int → Ty) (dom : Int → Prop) (Z : Nat → Prop) (vv tt : Value) (D : Said) : Prop where
  uf : Uf w sb 0 N Mn len d dom
  dom : ∀ y, dom y → y ∈ U
  sol : ∀ t, Fac t d ↔ Slv t l1
  x : X9s w b0 xb U l2 Z vv tt D
  sep1 : ∀ k, SubOf xb vv tt k → ¬ Mn k
  sep2 : ∀ k, Z k → k < w.heap.size ∧ ¬ Mn k
  low : ∀ k, Mn k → b0 ≤ k
def M9 (w : World) (b0 sb xb : Nat) (U : List Int) (l1 l2 : List (Ty × Ty)) (N : Int) (len : Nat) : Prop := ∃ Mn d dom Z vv tt D, M9s w b0 sb xb U l1 l2 N len Mn d dom Z vv tt D
def X9 (w : World) (b0 xb : Nat) (U : List Int) (l2 : List (Ty × Ty)) : Prop := ∃ Z vv tt D, X9s w b0 xb U l2 Z vv tt D
section
variable {w w' : World} {b0 sb xb : Nat} {U : List Int} {l1 l2 : List (Ty × Ty)} {N : Int} {len : Nat} {Mn : Nat → Prop} {d : Int → Ty} {dom : Int → Prop} {Z : Nat → Prop} {vv tt : Value} {D : Said}
theorem M9s.below (h : M9s w b0 sb xb U l1 l2 N len Mn d dom Z vv tt D) (hb : Below w.heap.size w w') : M9s w' b0 sb xb U l1 l2 N len Mn d dom Z vv tt D :=
  ⟨h.uf.below hb, h.dom, h.sol, ⟨h.x.sub.below hb, h.x.good, h.x.din, h.x.sol⟩, h.sep1, fun k hk => ⟨Nat.lt_of_lt_of_le (h.sep2 k hk).1 hb.size, (h.sep2 k hk).2⟩, h.low⟩
theorem M9.below (h : M9 w b0 sb xb U l1 l2 N len) (hb : Below w.heap.size w w') : M9 w' b0 sb xb U l1 l2 N len := by
  obtain ⟨Mn, d, dom, Z, vv, tt, D, h⟩ := h
  exact ⟨Mn, d, dom, Z, vv, tt, D, h.below hb⟩
theorem M9s.fac (h : M9s w b0 sb xb U l1 l1 N len Mn d dom Z vv tt D) {P : Ty} (hP : teach P = true) : tnorm (tsub d P) = tnorm (tsub (ofD D) P) :=
  have h1 : Fac d (ofD D) := (h.x.sol d).2 ((h.sol d).1 h.uf.fac)
  have h2 : Fac (ofD D) d := (h.sol (ofD D)).2 ((h.x.sol (ofD D)).1 h.x.good.idem)
  fac_norm h1 h2 (teach_subs P hP fun y hy => h.uf.teach y (occ_nat hP hy)) (of_teach h.x.good hP)
theorem M9s.teachS (h : M9s w b0 sb xb U l1 l2 N len Mn d dom Z vv tt D) {P : Ty} (hP : teach P = true) : teach (tsub d P) = true := teach_subs P hP fun y hy => h.uf.teach y (occ_nat hP hy)
theorem M9s.varsS (h : M9s w b0 sb xb U l1 l2 N len Mn d dom Z vv tt D) {P : Ty} (hP : teach P = true) (hv : Vin U P) : (tvars (tsub d P) []).length ≤ U.length := by
  refine vars_len fun y hy => ?_
  obtain ⟨x, hx, hxy⟩ := tocc_sub P hP y hy
  rcases h.uf.occ x y hxy with rfl | e
  · exact hv _ hx
  · exact h.dom y e
theorem M9s.one (h : M9s w b0 sb xb U l1 l2 N len Mn d dom Z vv tt D) {p : Ty × Ty} (hp : p ∈ l1) : tsub d p.1 = tsub d p.2 := (h.sol d).1 h.uf.fac p hp
/-- What is there behind the program's Unify. -/
def St9 (r : Bool) (w : World) (b0 sb xb : Nat) (U : List Int) (l1 : List (Ty × Ty)) (p : Ty × Ty) (N : Int) (len : Nat) : Prop :=
  (r = true ∧ M9 w b0 sb xb U (l1 ++ [p]) l1 N len) ∨ (r = false ∧ X9 w b0 xb U l1 ∧ ∀ t, ¬ Slv t (l1 ++ [p]))
theorem mk_s (h : M9 w b0 sb xb U l1 l1 N len) (hN : 0 ≤ N ∧ N ≤ 900000) {p : Ty × Ty} (h1 : teach p.1 = true) (h2 : teach p.2 = true) (hl : len + p.1.size + p.2.size ≤ 100000) (v1 : Vin U p.1) (v2 : Vin U p.2) {va vb : Value} (hA : IsTyP (fun k => k < b0) w p.1 va) (hB : IsTyP (fun k => k < b0) w p.2 vb) (hb0 : b0 ≤ w.heap.size) :
    Calls Try.prog 12 #[.pointer (some ⟨sb, 0, none⟩), va, vb] w fun e w' => ∃ r, e = .returned (.bool r) ∧ Below b0 w w' ∧ St9 r w' b0 sb xb U l1 p (N + 1) (len + p.1.size + p.2.size) := by
  obtain ⟨Mn, d, dom, Z, vv, tt, D, h⟩ := h
  have far : ∀ {T : Ty} {v : Value}, IsTyP (fun k => k < b0) w T v → IsTyP (fun k => ¬ Mn k) w T v := fun hT => isTyP_wide hT fun k hk _ e => by have := h.low k e; omega
  refine (uUnify_any h.uf hN h1 h2 hl (.inr uundo_any) (far hA) (far hB)).mono ?_
  rintro e w' ⟨hk, hr⟩
  have hbel : Below b0 w w' := hk.below hb0 fun b hb e => by have := h.low b e; omega
  have hsub : Sub9 w' b0 Z xb vv tt D 0 := h.x.sub.keep hk h.sep1 fun k hk _ => (h.sep2 k hk).2
  rcases hr with ⟨rfl, Mn', d', hU', hf, hn⟩ | ⟨rfl, hno⟩
  · refine ⟨true, rfl, hbel, .inl ⟨rfl, Mn', d', _, Z, vv, tt, D, hU', fun y hy => ?_, fun t => ?_, ⟨hsub, h.x.good, h.x.din, h.x.sol⟩, fun k hk2 e => ?_, fun k hk2 => ⟨Nat.lt_of_lt_of_le (h.sep2 k hk2).1 hk.size, fun e => ?_⟩, fun k e => ?_⟩⟩
    · rcases hy with hy | hy | hy
      · exact h.dom y hy
      · exact v1 y hy
      · exact v2 y hy
    · rw [hf t, h.sol t, slv_app]
    · rcases hn k e with g | g
      · exact h.sep1 k hk2 g
      · have := (h.x.sub.of_lt hk2).2; omega
    · rcases hn k e with g | g
      · exact (h.sep2 k hk2).2 g
      · have := (h.sep2 k hk2).1; omega
    · rcases hn k e with g | g
      · exact h.low k g
      · omega
  · exact ⟨false, rfl, hbel, .inr ⟨rfl, ⟨Z, vv, tt, D, hsub, h.x.good, h.x.din, h.x.sol⟩, fun t ht => hno t (by
      rw [slv_app] at ht
      exact ⟨(h.sol t).2 ht.1, ht.2⟩)⟩⟩
theorem mk_x {r : Bool} {p : Ty × Ty} (h : St9 r w b0 sb xb U l1 p N len) (hU : U.length ≤ 900000) (h1 : teach p.1 = true) (h2 : teach p.2 = true) (v1 : Vin U p.1) (v2 : Vin U p.2) {va vb : Value} (hA : IsTyP (fun k => k < b0) w p.1 va) (hB : IsTyP (fun k => k < b0) w p.2 vb) :
    Calls Try.prog 13 #[.pointer (some ⟨xb, 0, none⟩), va, vb] w fun e w' => e = .returned (.bool r) ∧ Below b0 w w' ∧ (r = true → M9 w' b0 sb xb U (l1 ++ [p]) (l1 ++ [p]) N len) ∧ (r = false → ∀ t, ¬ Slv t (l1 ++ [p])) := by
  have go : ∀ (Z : Nat → Prop) (vv tt : Value) (D : Said), X9s w b0 xb U l1 Z vv tt D → Calls Try.prog 13 #[.pointer (some ⟨xb, 0, none⟩), va, vb] w fun e w' => Below b0 w w' ∧ (∀ k, k < w.heap.size → ¬ SubOf xb vv tt k → w'.heap[k]? = w.heap[k]?) ∧
      ((e = .returned (.bool false) ∧ Never D (fun t => tsub t p.1 = tsub t p.2)) ∨ (e = .returned (.bool true) ∧ ∃ v' t' D', Sub9 w' b0 (fun k => Z k ∨ w.heap.size ≤ k) xb v' t' D' 0 ∧ Made D D' (fun t => tsub t p.1 = tsub t p.2) ∧ Din U D' ∧ (left U D' < left U D ∨ D' = D) ∧ (∀ k, SubOf xb v' t' k → SubOf xb vv tt k ∨ w.heap.size ≤ k))) := fun Z vv tt D hx => by
    have far : ∀ {T : Ty} {v : Value}, IsTyP (fun k => k < b0) w T v → IsTyP (fun k => ¬ SubOf xb vv tt k) w T v := fun hT => isTyP_wide hT fun k hk _ e => by have := (hx.sub.of_lt e).1; omega
    exact rUnify_any U hU b0 (fun k => Z k ∨ w.heap.size ≤ k) xb 0 D p.1 p.2 hx.good hx.din h1 h2 v1 v2 va vb w vv tt (hx.sub.zed fun k hk _ => .inl hk) (fun k hk => .inr hk) (far hA) (far hB)
  rcases h with ⟨rfl, Mn, d, dom, Z, vv, tt, D, h⟩ | ⟨rfl, ⟨Z, vv, tt, D, h⟩, hno⟩
  · refine (go Z vv tt D h.x).mono ?_
    rintro e w' ⟨hb, hf, ⟨rfl, hn⟩ | ⟨rfl, v', t', D', g1, g2, g3, -, g5⟩⟩
    · have hd := (h.sol d).1 h.uf.fac
      rw [slv_app] at hd
      exact absurd hd.2 (hn d ((h.x.sol d).2 hd.1))
    · refine ⟨rfl, hb, fun _ => ⟨Mn, d, dom, fun k => (Z k ∨ w.heap.size ≤ k) ∧ k < w'.heap.size, v', t', D', h.uf.keep (kept_of hb hf) (fun k hk e => h.sep1 k e hk), h.dom, h.sol, ⟨g1.zed fun k hk hl => ⟨hk, hl⟩, g2.1, g3, fun t => ?_⟩, fun k hk e => ?_, fun k hk => ⟨hk.2, fun e => ?_⟩, h.low⟩, (fun hh => by cases hh)⟩
      · rw [g2.2 t, h.x.sol t, slv_app]
      · rcases g5 k hk with g | g
        · exact h.sep1 k g e
        · have := h.uf.lt e; omega
      · rcases hk.1 with g | g
        · exact (h.sep2 k g).2 e
        · have := h.uf.lt e; omega
  · refine (go Z vv tt D h).mono ?_
    rintro e w' ⟨hb, hf, ⟨rfl, hn⟩ | ⟨rfl, v', t', D', g1, g2, g3, -, g5⟩⟩
    · exact ⟨rfl, hb, (fun hh => by cases hh), fun _ => hno⟩
    · have hd := (g2.2 (ofD D')).1 g2.1.idem
      exact absurd ((slv_app _ _ _).2 ⟨(h.sol _).1 hd.1, hd.2⟩) (hno (ofD D'))
end
/-- All types as one: may they be, and how many nodes have they? -/
theorem allT_ok : ∀ (l : List (Ty × Ty)) (t : Ty), teach t = true → (∀ p ∈ l, teach p.1 = true ∧ teach p.2 = true) → teach (allT l t) = true
  | [], t, ht, _ => ht
  | p :: r, t, ht, h => by
    have hp := h p (by simp)
    refine allT_ok r _ ?_ fun q hq => h q (by simp [hq])
    simp [Em8.teach, teachs, tkids, tPair, tVar, tInt, tBool, tUnit, tString, tCell, tList, tRef, tFun, ht, hp.1, hp.2]
theorem allT_occ : ∀ (l : List (Ty × Ty)) (t : Ty) (x : Int), tocc x t ∨ (∃ p ∈ l, tocc x p.1 ∨ tocc x p.2) → tocc x (allT l t)
  | [], t, x, h => by
    rcases h with h | ⟨p, hp, -⟩
    · exact h
    · cases hp
  | p :: r, t, x, h => by
    refine allT_occ r _ x ?_
    rcases h with h | ⟨q, hq, h⟩
    · exact .inl ((tocc_eq x _ _ _).2 (.inr ⟨t, by simp, h⟩))
    · rcases List.mem_cons.1 hq with rfl | hq
      · refine .inl ((tocc_eq x _ _ _).2 (.inr ⟨.mk tPair 0 [q.1, q.2], by simp, (tocc_eq x _ _ _).2 (.inr ?_)⟩))
        rcases h with h | h
        · exact ⟨q.1, by simp, h⟩
        · exact ⟨q.2, by simp, h⟩
      · exact .inr ⟨q, hq, h⟩
theorem allT_size : ∀ (l : List (Ty × Ty)) (t : Ty), (allT l t).size = t.size + psz l + 2 * l.length
  | [], t => by simp [allT, psz]
  | p :: r, t => by
    simp only [allT]
    rw [allT_size r]
    simp only [Ty.size, tsizes, psz, List.length_cons]
    omega
theorem allT_vars (l : List (Ty × Ty)) (t : Ty) : (tvars (allT l t) []).length ≤ t.size + psz l + 2 * l.length := by
  have := tvars_len (allT l t) []
  rw [allT_size] at this
  simpa using this
end Go.Proofs.Ytadhjnbhcenocaa

namespace Go.Proofs.Ytadhjnbhcenocaa
open Go.RowKit Go.Em8 Go.Em9
set_option linter.unusedSimpArgs false
set_option linter.unusedVariables false

/-- Of a world in the middle of a region only so much is known. -/
theorem forgetH {P : Program} {md : Region.Mode} {ops : Array Oper} {Q : Exit → Act → World → Prop} {S : World → Prop} {fuel : Nat} {listed : Array Bool} {a : Act} {W : World} (R : World → Prop) (hW : R W) (h : ∀ W', R W' → wpAnyH P md ops Q S fuel listed a W') : wpAnyH P md ops Q S fuel listed a W := h W hW
/-- Three cells of a box. -/
structure Bx (w : World) (g : Nat) (c0 c1 c2 : Value) : Prop where
  c0 : w.cell? ⟨g, 0, none⟩ = some c0
  c1 : w.cell? ⟨g, 1, none⟩ = some c1
  c2 : w.cell? ⟨g, 2, none⟩ = some c2
  f : ∀ o, w.frozen? ⟨g, o, none⟩ = false
theorem Bx.lt {w : World} {g : Nat} {c0 c1 c2 : Value} (h : Bx w g c0 c1 c2) : g < w.heap.size := Em.cell_lt h.c0
theorem Bx.same {w w' : World} {g : Nat} {c0 c1 c2 : Value} (h : Bx w g c0 c1 c2) (hb : w'.heap[g]? = w.heap[g]?) : Bx w' g c0 c1 c2 :=
  ⟨by rw [World.cell?_of_block (w := w) (a := ⟨g, 0, none⟩) hb]; exact h.c0, by rw [World.cell?_of_block (w := w) (a := ⟨g, 1, none⟩) hb]; exact h.c1, by rw [World.cell?_of_block (w := w) (a := ⟨g, 2, none⟩) hb]; exact h.c2, fun o => by rw [World.frozen?_of_block (w := w) (a := ⟨g, o, none⟩) hb]; exact h.f o⟩
theorem Bx.below {w w' : World} {g : Nat} {c0 c1 c2 : Value} (h : Bx w g c0 c1 c2) (hb : Below w.heap.size w w') : Bx w' g c0 c1 c2 := h.same (hb.block g h.lt)
abbrev Zr (w : World) (g : Nat) : Prop := Bx w g (.string ⟨#[]⟩) (.int .i64 0) (.slice none 0 0)
theorem Zr.new (w : World) (t : TypeId) : Zr (w.alloc (.cells #[.string ⟨#[]⟩, .int .i64 0, .slice none 0 0] t)) w.heap.size := ⟨by simp, by simp, by simp, fun o => by simp [go_sem]⟩
def set3 (w : World) (g : Nat) (c0 c1 c2 : Value) : World := ((w.setCell ⟨g, 0, none⟩ c0).setCell ⟨g, 1, none⟩ c1).setCell ⟨g, 2, none⟩ c2
theorem set3_block (w : World) (g : Nat) (c0 c1 c2 : Value) {k : Nat} (hk : k ≠ g) : (set3 w g c0 c1 c2).heap[k]? = w.heap[k]? := by
  unfold set3
  rw [Below.heap_setCell _ _ _ _ (by simp; exact hk), Below.heap_setCell _ _ _ _ (by simp; exact hk), Below.heap_setCell _ _ _ _ (by simp; exact hk)]
theorem set3_size (w : World) (g : Nat) (c0 c1 c2 : Value) : (set3 w g c0 c1 c2).heap.size = w.heap.size := by unfold set3; simp
theorem Bx.set {w : World} {g : Nat} {x0 x1 x2 : Value} (h : Bx w g x0 x1 x2) (c0 c1 c2 : Value) : Bx (set3 w g c0 c1 c2) g c0 c1 c2 := by
  unfold set3
  exact ⟨by simp [go_sem, h.c0, h.c1, h.c2], by simp [go_sem, h.c0, h.c1, h.c2], by simp [go_sem, h.c0, h.c1, h.c2], fun o => by simp [go_sem, h.f]⟩

/-- Some boxes G are there, some types L (all of them P) were made. -/
structure Pq (X0 W : World) (G : List Nat) (L : List Value) (P : Ty) : Prop where
  low : Below X0.heap.size X0 W
  zr : ∀ g ∈ G, X0.heap.size ≤ g ∧ Zr W g
  nd : G.Nodup
  q : ∀ v ∈ L, IsTyP (fun b => b ∉ G) W P v
section
variable {X0 W W' : World} {G : List Nat} {L : List Value} {P : Ty}
theorem Pq.start (X0 : World) (P : Ty) : Pq X0 X0.drew [] [] P := ⟨(Below.refl _ _).drew, by simp, by simp, by simp⟩
theorem Pq.alloc (h : Pq X0 W G L P) : Pq X0 (W.alloc (.cells #[.string ⟨#[]⟩, .int .i64 0, .slice none 0 0] 25)) (W.heap.size :: G) L P := by
  have hb : Below W.heap.size W (W.alloc (.cells #[.string ⟨#[]⟩, .int .i64 0, .slice none 0 0] 25)) := (Below.refl _ _).alloc (Nat.le_refl _) _
  refine ⟨h.low.trans (hb.mono h.low.size), fun g hg => ?_, ?_, fun v hv => ?_⟩
  · rcases List.mem_cons.1 hg with rfl | hg
    · exact ⟨h.low.size, Zr.new _ _⟩
    · exact ⟨(h.zr g hg).1, (h.zr g hg).2.below hb⟩
  · exact List.nodup_cons.2 ⟨fun hm => by have := (h.zr _ hm).2.lt; omega, h.nd⟩
  · exact isTyP_keep hb.size (fun k hp hl => ⟨hb.block k hl, fun hm => by
      rcases List.mem_cons.1 hm with rfl | hm
      · omega
      · exact hp hm⟩) _ _ (h.q v hv)
theorem Pq.call (h : Pq X0 W G L P) {w0 : World} (hz : w0.heap.size ≤ X0.heap.size) {v : Value} (hv : IsTyP (fun b => b < w0.heap.size ∨ W.heap.size + 2 ≤ b) W' P v) (hb : Below W.heap.size W W') : Pq X0 W' G (v :: L) P := by
  refine ⟨h.low.trans (hb.mono h.low.size), fun g hg => ⟨(h.zr g hg).1, (h.zr g hg).2.below hb⟩, h.nd, fun u hu => ?_⟩
  rcases List.mem_cons.1 hu with rfl | hu
  · exact isTyP_wide hv fun b hp _ hm => by
      have h1 := (h.zr b hm).1
      have h2 := (h.zr b hm).2.lt
      omega
  · exact isTyP_bel (h.q u hu) hb
/-- The first box is written. -/
structure Pq1 (X0 W : World) (ga gb : Nat) (c0 c1 c2 e0 e1 e2 : Value) (P : Ty) : Prop where
  low : Below X0.heap.size X0 W
  hg : X0.heap.size ≤ gb ∧ ga ≠ gb
  zr : Zr W gb
  bx : Bx W ga c0 c1 c2
  qa : IsTyP (fun b => b ≠ gb) W P (.agg #[c0, c1, c2])
  qb : IsTyP (fun b => b ≠ gb) W P (.agg #[e0, e1, e2])
theorem Pq.store (h : Pq X0 W G L P) {ga gb : Nat} {c0 c1 c2 e0 e1 e2 : Value} (hga : ga ∈ G) (hgb : gb ∈ G) (hne : ga ≠ gb) (ha : (.agg #[c0, c1, c2]) ∈ L) (hb : (.agg #[e0, e1, e2]) ∈ L) : Pq1 X0 (set3 W ga c0 c1 c2) ga gb c0 c1 c2 e0 e1 e2 P := by
  have key : ∀ v, IsTyP (fun b => b ∉ G) W P v → IsTyP (fun b => b ≠ gb) (set3 W ga c0 c1 c2) P v := fun v hv => isTyP_keep (by rw [set3_size]; exact Nat.le_refl _) (fun k hp hl => ⟨set3_block _ _ _ _ _ fun e => hp (by rw [e]; exact hga), fun e => hp (by rw [e]; exact hgb)⟩) _ _ hv
  exact ⟨below_set3 (g := ga) h.low (h.zr ga hga).1 _ _ _, ⟨(h.zr gb hgb).1, hne⟩, (h.zr gb hgb).2.same (set3_block _ _ _ _ _ fun e => hne e.symm), (h.zr ga hga).2.set _ _ _, key _ (h.q _ ha), key _ (h.q _ hb)⟩
/-- Both are. -/
def Pq2 (X0 W : World) (ga gb : Nat) (P : Ty) : Prop := Below X0.heap.size X0 W ∧ ∃ (s0 : ByteArray) (s1 : Int) (sa : Option Addr) (sk sc : Nat) (t0 : ByteArray) (t1 : Int) (ta : Option Addr) (tk tc : Nat),
  Bx W ga (.string s0) (.int .i64 s1) (.slice sa sk sc) ∧ Bx W gb (.string t0) (.int .i64 t1) (.slice ta tk tc) ∧ IsTy W P (.agg #[.string s0, .int .i64 s1, .slice sa sk sc]) ∧ IsTy W P (.agg #[.string t0, .int .i64 t1, .slice ta tk tc])
theorem Pq1.store {ga gb : Nat} {s0 : ByteArray} {s1 : Int} {sa : Option Addr} {sk sc : Nat} {t0 : ByteArray} {t1 : Int} {ta : Option Addr} {tk tc : Nat} (h : Pq1 X0 W ga gb (.string s0) (.int .i64 s1) (.slice sa sk sc) (.string t0) (.int .i64 t1) (.slice ta tk tc) P) :
    Pq2 X0 (set3 W gb (.string t0) (.int .i64 t1) (.slice ta tk tc)) ga gb P := by
  have key : ∀ v, IsTyP (fun b => b ≠ gb) W P v → IsTy (set3 W gb (.string t0) (.int .i64 t1) (.slice ta tk tc)) P v := fun v hv => isTyP_is _ _ (isTyP_keep (P := fun b => b ≠ gb) (by rw [set3_size]; exact Nat.le_refl _) (fun k hp hl => ⟨set3_block _ _ _ _ _ hp, hp⟩) _ _ hv)
  exact ⟨below_set3 (g := gb) h.low h.hg.1 _ _ _, s0, s1, sa, sk, sc, t0, t1, ta, tk, tc, h.bx.same (set3_block _ _ _ _ _ h.hg.2), h.zr.set _ _ _, key _ h.qa, key _ h.qb⟩
end
end Go.Proofs.Ytadhjnbhcenocaa

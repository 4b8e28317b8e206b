/- What the law's own 'may' answers (chapter 9). -/
import Derived.Test.YtadhjnbhcenocaaRTypC
import Derived.Test.YtadhjnbhcenocaaRTypN
import Derived.Test.YtadhjnbhcenocaaFrameG9
import Derived.Test.YtadhjnbhcenocaaUfG9
namespace Go.Proofs.Ytadhjnbhcenocaa
open Go.RowKit Go.Em8 Go.Em9
set_option linter.unusedSimpArgs false
set_option linter.unusedVariables false

/-- How many nodes pairs have. -/
def psz : List (Ty × Ty) → Nat
  | [] => 0
  | p :: r => p.1.size + p.2.size + psz r
theorem psz_app (a b : List (Ty × Ty)) : psz (a ++ b) = psz a + psz b := by
  induction a with
  | nil => simp [psz]
  | cons p r ih => simp only [List.cons_append, psz, ih]; omega
theorem take_next {α : Type} {l : List α} {j : Nat} {p : α} (h : l[j]? = some p) : l.take (j + 1) = l.take j ++ [p] := by
  rw [List.take_add_one, h]; rfl
theorem psz_next {l : List (Ty × Ty)} {j : Nat} {p : Ty × Ty} (h : l[j]? = some p) : psz (l.take (j + 1)) = psz (l.take j) + (p.1.size + p.2.size) := by
  rw [take_next h, psz_app]; simp [psz]
theorem isTy_teach9 {T : Ty} (h : isTy T = true) : Em8.teach T = true := by
  unfold isTy at h
  simp only [Bool.and_eq_true] at h
  exact h.2
/-- A pair of the row, its cells written out. -/
theorem IsPairs.get {w : World} {pa : Option Addr} {k pc : Nat} {l : List (Ty × Ty)} (h : IsPairs w (.slice pa k pc) l) {j : Nat} {p : Ty × Ty} (hj : l[j]? = some p) :
    ∃ b off x0 x1 xa xk xc y0 y1 ya yk yc, pa = some ⟨b, off, none⟩ ∧ k = l.length ∧ l.length ≤ pc ∧ pc ≤ 9223372036854775807 ∧ b < w.heap.size ∧ w.cell? ⟨b, off + j * 6, none⟩ = some (.string x0) ∧ w.cell? ⟨b, off + j * 6 + 1, none⟩ = some (.int .i64 x1) ∧ w.cell? ⟨b, off + j * 6 + 2, none⟩ = some (.slice xa xk xc) ∧
      w.cell? ⟨b, off + j * 6 + 3, none⟩ = some (.string y0) ∧ w.cell? ⟨b, off + j * 6 + 4, none⟩ = some (.int .i64 y1) ∧ w.cell? ⟨b, off + j * 6 + 5, none⟩ = some (.slice ya yk yc) ∧ Em8.IsTy w p.1 (.agg #[.string x0, .int .i64 x1, .slice xa xk xc]) ∧ Em8.IsTy w p.2 (.agg #[.string y0, .int .i64 y1, .slice ya yk yc]) := by
  obtain ⟨a, cap, e, h1, h2, h3⟩ := h
  cases e
  have hl := (List.getElem?_eq_some_iff.1 hj).1
  obtain ⟨b, off, e1, hb, hk⟩ := h3 (by omega)
  obtain ⟨c0, c1, c2, c3, c4, c5, k0, k1, k2, k3, k4, k5, g1, g2⟩ := hk j p hj
  obtain ⟨x0, x1, xa, xk, xc, e2⟩ := isTyP_form (isTy_isP _ _ g1)
  obtain ⟨y0, y1, ya, yk, yc, e3⟩ := isTyP_form (isTy_isP _ _ g2)
  simp only [Value.agg.injEq, Array.mk.injEq, List.cons.injEq, and_true] at e2 e3
  obtain ⟨rfl, rfl, rfl⟩ := e2
  obtain ⟨rfl, rfl, rfl⟩ := e3
  exact ⟨b, off, x0, x1, xa, xk, xc, y0, y1, ya, yk, yc, e1, rfl, h1, h2, hb, k0, k1, k2, k3, k4, k5, g1, g2⟩

/-- What 'may' answers. -/
def MayOk (l : List (Ty × Ty)) (w : World) (e : Ending) (w' : World) : Prop := ∃ r, e = .returned (.bool r) ∧ (r = true → l.length < 20 ∧ psz l ≤ 60 ∧ ∀ p ∈ l, Em8.teach p.1 = true ∧ Em8.teach p.2 = true) ∧ Below w.heap.size w w'
theorem MayOk.no {l : List (Ty × Ty)} {w w' : World} {e : Ending} (he : e = .returned (.bool false)) (hb : Below w.heap.size w w') : MayOk l w e w' := ⟨false, he, (fun h => by cases h), hb⟩
theorem MayOk.mk {l : List (Ty × Ty)} {w w' : World} {e : Ending} (r : Bool) (he : e = .returned (.bool r)) (hr : r = true → l.length < 20 ∧ psz l ≤ 60 ∧ ∀ p ∈ l, Em8.teach p.1 = true ∧ Em8.teach p.2 = true) (hb : Below w.heap.size w w') : MayOk l w e w' := ⟨r, he, hr, hb⟩

set_option maxRecDepth 100000 in
set_option maxHeartbeats 4000000 in
theorem may9_any (l : List (Ty × Ty)) (pa : Option Addr) (pk pc : Nat) (w : World) (hv : IsPairs w (.slice pa pk pc) l) :
    Calls Try.prog 8 #[.slice pa pk pc] w fun e w' => MayOk l w e w' := by
  have HV : Hid (IsPairs w (.slice pa pk pc) l) := hv
  have hpk : pk = l.length := by obtain ⟨a, cap, e, -⟩ := hv; cases e; rfl
  subst hpk
  clear hv
  go_enter Try.func8, Try.ntmps8
  go_wp2_with fail
  go_loopw [3, 4] (fun n i wr => ∃ (j : Nat) (m : Nat), j ≤ l.length ∧ m ≤ 60 ∧ n = .int .i64 m ∧ i = .int .i64 j ∧ Hid (m = psz (l.take j) ∧ (∀ p ∈ l.take j, Em8.teach p.1 = true ∧ Em8.teach p.2 = true) ∧ Below w.heap.size w wr)) (fun _ i _ => l.length - (intOf i).toNat)
  case atStart => exact ⟨0, 0, Nat.zero_le _, by omega, rfl, rfl, by simp [psz], by simp, Below.refl _ _⟩
  case round =>
    obtain ⟨j, m, hj, hm60, rfl, rfl, HR⟩ := hrel
    by_cases hlt : j < l.length
    · by_cases h20 : (j : Int) < 20
      · obtain ⟨p, hp⟩ : ∃ p, l[j]? = some p := ⟨_, List.getElem?_eq_getElem hlt⟩
        obtain ⟨b, off, x0, x1, xa, xk, xc, y0, y1, ya, yk, yc, rfl, -, hc1, hc2, hb, m0, m1, m2, m3, m4, m5, gA, gB⟩ := HV.out.get hp
        have HP : Hid (l[j]? = some p) := hp
        have HC : Hid (∀ w', Below w.heap.size w w' → w'.cell? ⟨b, off + j * 6, none⟩ = some (.string x0) ∧ w'.cell? ⟨b, off + j * 6 + 1, none⟩ = some (.int .i64 x1) ∧ w'.cell? ⟨b, off + j * 6 + 2, none⟩ = some (.slice xa xk xc) ∧ w'.cell? ⟨b, off + j * 6 + 3, none⟩ = some (.string y0) ∧ w'.cell? ⟨b, off + j * 6 + 4, none⟩ = some (.int .i64 y1) ∧ w'.cell? ⟨b, off + j * 6 + 5, none⟩ = some (.slice ya yk yc)) := fun w' h => by
          have key : ∀ o, w'.cell? ⟨b, o, none⟩ = w.cell? ⟨b, o, none⟩ := fun o => h.cell (p := ⟨b, o, none⟩) hb
          exact ⟨(key _).trans m0, (key _).trans m1, (key _).trans m2, (key _).trans m3, (key _).trans m4, (key _).trans m5⟩
        have HA : Hid (∀ w', Below w.heap.size w w' → Em8.IsTy w' p.1 (.agg #[.string x0, .int .i64 x1, .slice xa xk xc])) := fun w' h => isTy_below h _ _ gA
        have HB : Hid (∀ w', Below w.heap.size w w' → Em8.IsTy w' p.2 (.agg #[.string y0, .int .i64 y1, .slice ya yk yc])) := fun w' h => isTy_below h _ _ gB
        have b0 : Below w.heap.size w wr.drew := HR.out.2.2.drew
        have hj0 : (0 : Int) ≤ (j : Int) := by omega
        have hjl : (j : Int) < (l.length : Int) := by omega
        obtain ⟨z1, hz1⟩ : ∃ z, z = min p.1.size 100 := ⟨_, rfl⟩
        obtain ⟨z2, hz2⟩ : ∃ z, z = min p.2.size 100 := ⟨_, rfl⟩
        have HZ : Hid (z1 = min p.1.size 100 ∧ z2 = min p.2.size 100) := ⟨hz1, hz2⟩
        have hz1l : (z1 : Int) ≤ 100 := by omega
        have hz2l : (z2 : Int) ≤ 100 := by omega
        have HSA : Hid (∀ w', Below w.heap.size w w' → Calls Try.prog 9 #[.agg #[.string x0, .int .i64 x1, .slice xa xk xc], .int .i64 100] w' fun e w'' => e = .returned (.int .i64 (z1 : Int)) ∧ Below w'.heap.size w' w'') := fun w' h => by rw [HZ.out.1]; exact rtsize_any p.1 _ _ 100 (HA.out _ h) (by omega) (by omega)
        have HSB : Hid (∀ w', Below w.heap.size w w' → Calls Try.prog 9 #[.agg #[.string y0, .int .i64 y1, .slice ya yk yc], .int .i64 100] w' fun e w'' => e = .returned (.int .i64 (z2 : Int)) ∧ Below w'.heap.size w' w'') := fun w' h => by rw [HZ.out.2]; exact rtsize_any p.2 _ _ 100 (HB.out _ h) (by omega) (by omega)
        clear hp gA gB m0 m1 m2 m3 m4 m5 hb hz1 hz2
        go_wp2_with fail
        go_region_held (fun w' => w'.cell? ⟨b, off + j * 6, none⟩ = some (.string x0) ∧ w'.cell? ⟨b, off + j * 6 + 1, none⟩ = some (.int .i64 x1) ∧ w'.cell? ⟨b, off + j * 6 + 2, none⟩ = some (.slice xa xk xc) ∧ w'.cell? ⟨b, off + j * 6 + 3, none⟩ = some (.string y0) ∧ w'.cell? ⟨b, off + j * 6 + 4, none⟩ = some (.int .i64 y1) ∧ w'.cell? ⟨b, off + j * 6 + 5, none⟩ = some (.slice ya yk yc))
          (with_reducible (first | exact HC.out _ b2 | exact HC.out _ b1 | exact HC.out _ b0))
          (first
            | (go_at_call 9; refine (HSB.out _ b1).mono ?_; rintro e v2 ⟨rfl, hc⟩; have b2 := b1.trans (hc.mono b1.size); clear hc)
            | (go_at_call 9; refine (HSA.out _ b0).mono ?_; rintro e v1 ⟨rfl, hc⟩; have b1 := b0.trans (hc.mono b0.size); clear hc))
        all_goals
          have HB2 : Hid (Below w.heap.size w v2) := b2
          clear b0 b1 b2
          obtain ⟨q0, q1, q2, q3, q4, q5⟩ := HC.out _ HB2.out
          by_cases h60 : (60 : Int) < (m : Int) + (z1 : Int) + (z2 : Int)
          · go_wp2_with fail
            go_ret
            exact MayOk.no rfl HB2.out
          have HSZ : Hid (z1 = p.1.size ∧ z2 = p.2.size) := by obtain ⟨e1, e2⟩ := HZ.out; constructor <;> omega
          go_wp2_with fail
          refine (rtIs_any p.1 _ _ (HA.out _ HB2.out)).mono ?_
          rintro e v3 ⟨rfl, hc⟩
          have HB3 : Hid (Below w.heap.size w v3) := HB2.out.trans (hc.mono HB2.out.size)
          clear hc q0 q1 q2 q3 q4 q5
          obtain ⟨q0, q1, q2, q3, q4, q5⟩ := HC.out _ HB3.out
          cases hi1 : isTy p.1 with
          | false =>
            clear hi1
            go_wp2_with fail
            go_ret
            exact MayOk.no rfl HB3.out
          | true =>
          have HI1 : Hid (Em8.teach p.1 = true) := isTy_teach9 hi1
          clear hi1
          go_wp2_with fail
          refine (rtIs_any p.2 _ _ (HB.out _ HB3.out)).mono ?_
          rintro e v4 ⟨rfl, hc⟩
          have HB4 : Hid (Below w.heap.size w v4) := HB3.out.trans (hc.mono HB3.out.size)
          clear hc q0 q1 q2 q3 q4 q5
          cases hi2 : isTy p.2 with
          | false =>
            clear hi2
            go_wp2_with fail
            go_ret
            exact MayOk.no rfl HB4.out
          | true =>
          have HI2 : Hid (Em8.teach p.2 = true) := isTy_teach9 hi2
          clear hi2
          go_wp2_with fail
          go_roundw
          case rel =>
            refine ⟨j + 1, m + z1 + z2, by omega, by omega, by go_num, by go_num, ?_, fun r hr => ?_, HB4.out⟩
            · rw [psz_next HP.out, ← HR.out.1, HSZ.out.1, HSZ.out.2]; omega
            · rw [take_next HP.out] at hr
              rcases List.mem_append.1 hr with hr | hr
              · exact HR.out.2.1 r hr
              · simp at hr; subst hr; exact ⟨HI1.out, HI2.out⟩
          case measure => simp [intOf]; omega
      · have hge : ¬ (l.length : Int) < 20 := by omega
        go_wp2_with fail
        go_ret
        exact MayOk.no rfl HR.out.2.2
    · obtain rfl : j = l.length := by omega
      have HFin : Hid (∀ q, q = decide ((l.length : Int) < 20) → q = true → l.length < 20 ∧ psz l ≤ 60 ∧ ∀ p ∈ l, Em8.teach p.1 = true ∧ Em8.teach p.2 = true) := fun q hq h => by
        have h1 := HR.out
        rw [List.take_length] at h1
        have h2 := of_decide_eq_true (hq.symm.trans h)
        exact ⟨by omega, by omega, h1.2.1⟩
      go_wp2_with fail
      go_ret
      exact MayOk.mk _ rfl (HFin.out _ rfl) HR.out.2.2
end Go.Proofs.Ytadhjnbhcenocaa

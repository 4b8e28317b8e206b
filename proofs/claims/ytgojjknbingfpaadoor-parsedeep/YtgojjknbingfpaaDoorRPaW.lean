/- What the document's own 'SameAll' answers: two expressions are one, places too. -/
import Derived.Test.YtgojjknbingfpaaDoorRTreeM1
namespace Go.Em6
open Go.RowKit Go.Em5
mutual
def sameA : Nd → Nd → Bool
  | .mk op nm ar n p l, .mk op' nm' ar' n' p' l' => decide (op = op') && (decide (nm = nm') && (decide (ar = ar') && (decide (n = n') && (decide (p = p') && sameAs l l'))))
def sameAs : List Nd → List Nd → Bool
  | [], [] => true
  | a :: r, b :: s => sameA a b && sameAs r s
  | _, _ => false
end
theorem sameAs_len : ∀ (l m : List Nd), l.length ≠ m.length → sameAs l m = false
  | [], [], h => by simp at h
  | [], _ :: _, _ => by simp [sameAs]
  | _ :: _, [], _ => by simp [sameAs]
  | a :: r, b :: s, h => by
    simp only [sameAs]
    rw [sameAs_len r s (by simpa using h), Bool.and_false]
theorem sameAs_no : ∀ (l m : List Nd) (j : Nat) (s t : Nd), l[j]? = some s → m[j]? = some t → sameA s t = false → sameAs l m = false
  | [], _, _, _, _, h, _, _ => by simp at h
  | _ :: _, [], _, _, _, _, h, _ => by simp at h
  | a :: r, b :: q, 0, s, t, h1, h2, h => by
    simp at h1 h2; subst h1; subst h2
    simp [sameAs, h]
  | a :: r, b :: q, j + 1, s, t, h1, h2, h => by
    simp only [sameAs]
    rw [sameAs_no r q j s t (by simpa using h1) (by simpa using h2) h, Bool.and_false]
theorem sameAs_yes : ∀ (l m : List Nd), l.length = m.length → (∀ (j : Nat) (s t : Nd), l[j]? = some s → m[j]? = some t → sameA s t = true) → sameAs l m = true
  | [], [], _, _ => rfl
  | [], _ :: _, h, _ => by simp at h
  | _ :: _, [], h, _ => by simp at h
  | a :: r, b :: q, hl, h => by
    simp only [sameAs]
    rw [h 0 a b rfl rfl, sameAs_yes r q (by simpa using hl) (fun j s t h1 h2 => h (j + 1) s t (by simpa using h1) (by simpa using h2)), Bool.and_self]
mutual
theorem sameA_refl : ∀ t, sameA t t = true
  | .mk op nm ar n p l => by simp [sameA, sameAs_refl l]
theorem sameAs_refl : ∀ l, sameAs l l = true
  | [] => rfl
  | t :: r => by simp [sameAs, sameA_refl t, sameAs_refl r]
end
end Go.Em6
namespace Go.Proofs.YtgojjknbingfpaaDoor
open Go.RowKit
set_option linter.unusedSimpArgs false

theorem sameA_eq (S T : Em5.Nd) : Em6.sameA S T = (decide (S.op = T.op) && (decide (S.nm = T.nm) && (decide (S.ar = T.ar) && (decide (S.n = T.n) && (decide (S.p = T.p) && Em6.sameAs S.kids T.kids))))) := by
  obtain ⟨op, nm, ar, n, p, l⟩ := S
  obtain ⟨op', nm', ar', n', p', l'⟩ := T
  rfl

set_option maxRecDepth 100000 in
set_option maxHeartbeats 4000000 in
theorem rSameAll_any (S : Em5.Nd) : ∀ (T : Em5.Nd) (u v : Value) (w : World), Em5.IsNd w S u → Em5.IsNd w T v →
    Calls Tryd.prog 9 #[u, v] w fun e w' => e = .returned (.bool (Em6.sameA S T)) ∧ Below w.heap.size w w' := by
  induction S using Em5.Nd.ind with
  | h op nm ar n p l ih =>
    intro T u v w hu hv
    have HI : Hid (∀ t ∈ l, ∀ (T : Em5.Nd) (u v : Value) (w : World), Em5.IsNd w t u → Em5.IsNd w T v →
      Calls Tryd.prog 9 #[u, v] w fun e w' => e = .returned (.bool (Em6.sameA t T)) ∧ Below w.heap.size w w') := ih
    clear ih
    obtain ⟨op', nm', ar', n', p', l'⟩ := T
    obtain ⟨a, cap, rfl, t1, t2, t3, hc1, hc2, hk⟩ := isNd_val hu
    obtain ⟨a', cap', rfl, t1', t2', t3', hc1', hc2', hk'⟩ := isNd_val hv
    simp only [Em5.Nd.op, Em5.Nd.nm, Em5.Nd.ar, Em5.Nd.n, Em5.Nd.p, Em5.Nd.kids] at *
    have q1 := str_beq t1 t1'
    have q2 := str_beq t2 t2'
    have q3 := str_beq t3 t3'
    have HK : Hid (0 < l.length → ∃ b off, a = some ⟨b, off, none⟩ ∧ b < w.heap.size ∧ Em5.KidsAt w b off l) := hk
    have HK' : Hid (0 < l'.length → ∃ b off, a' = some ⟨b, off, none⟩ ∧ b < w.heap.size ∧ Em5.KidsAt w b off l') := hk'
    clear hu hv hk hk' t1 t2 t3 t1' t2' t3'
    obtain ⟨W, hW⟩ : ∃ W, W = (w.alloc (.cells #[.string (Em.str op), .string (Em.str nm), .string (Em.str ar), .int .i64 n, .int .i64 p, .slice a l.length cap] 24)).alloc (.cells #[.string (Em.str op'), .string (Em.str nm'), .string (Em.str ar'), .int .i64 n', .int .i64 p', .slice a' l'.length cap'] 24) := ⟨_, rfl⟩
    have hbW : Below w.heap.size w W := by rw [hW]; exact ((Below.refl _ _).alloc (Nat.le_refl _) _).alloc (by simp) _
    have c5 : W.cell? ⟨w.heap.size, 5, none⟩ = some (.slice a l.length cap) := by rw [hW]; simp
    have d5 : W.cell? ⟨w.heap.size + 1, 5, none⟩ = some (.slice a' l'.length cap') := by rw [hW]; simp
    have hWz : w.heap.size + 1 < W.heap.size := by rw [hW]; simp
    have HNO : (op = op' ∧ nm = nm' ∧ ar = ar' ∧ n = n' ∧ p = p' ∧ l.length = l'.length → False) → Hid (Em6.sameA (.mk op nm ar n p l) (.mk op' nm' ar' n' p' l') = false) := by
      intro h
      rw [Hid, sameA_eq]
      simp only [Em5.Nd.op, Em5.Nd.nm, Em5.Nd.ar, Em5.Nd.n, Em5.Nd.p, Em5.Nd.kids]
      by_cases e1 : op = op' <;> by_cases e2 : nm = nm' <;> by_cases e3 : ar = ar' <;> by_cases e4 : n = n' <;> by_cases e6 : p = p' <;> simp only [e1, e2, e3, e4, e6, decide_true, decide_false, Bool.true_and, Bool.false_and, Bool.and_false]
      exact Em6.sameAs_len l l' (fun e5 => h ⟨e1, e2, e3, e4, e6, e5⟩)
    by_cases hall : op = op' ∧ nm = nm' ∧ ar = ar' ∧ n = n' ∧ p = p' ∧ l.length = l'.length
    · clear HNO
      obtain ⟨e1, e2, e3, e4, e6, e5⟩ := hall
      have HR : Hid (Em6.sameA (.mk op nm ar n p l) (.mk op' nm' ar' n' p' l') = Em6.sameAs l l') := by
        rw [Hid, sameA_eq]; simp [Em5.Nd.op, Em5.Nd.nm, Em5.Nd.ar, Em5.Nd.n, Em5.Nd.p, Em5.Nd.kids, e1, e2, e3, e4, e6]
      rw [decide_eq_true e1] at q1
      rw [decide_eq_true e2] at q2
      rw [decide_eq_true e3] at q3
      have q4 : (n == n') = true := by rw [beq_iff_eq]; exact e4
      have q5 : ((l.length : Int) == (l'.length : Int)) = true := by rw [beq_iff_eq, e5]
      have q4' : (n != n') = false := by rw [bne, q4]; rfl
      have q6 : (p == p') = true := by rw [beq_iff_eq]; exact e6
      have q6' : (p != p') = false := by rw [bne, q6]; rfl
      have q5' : ((l.length : Int) != (l'.length : Int)) = false := by rw [bne, q5]; rfl
      have HL : Hid (l.length = l'.length) := e5
      clear e1 e2 e3 e4 e5 e6
      go_enter Tryd.func9, Tryd.ntmps9
      go_wp2
      rw [← hW]
      clear hW
      go_loopw [5] (fun i wr => ∃ j : Nat, j ≤ l.length ∧ i = .int .i64 j ∧ Below w.heap.size w wr ∧ wr.cell? ⟨w.heap.size, 5, none⟩ = some (.slice a l.length cap) ∧ wr.cell? ⟨w.heap.size + 1, 5, none⟩ = some (.slice a' l'.length cap') ∧ w.heap.size + 1 < wr.heap.size ∧ Hid (∀ (k : Nat) s t, k < j → l[k]? = some s → l'[k]? = some t → Em6.sameA s t = true)) (fun i _ => l.length - (intOf i).toNat)
      case atStart => exact ⟨0, Nat.zero_le _, rfl, hbW, c5, d5, hWz, fun k s t h => by omega⟩
      case round =>
        clear hbW c5 d5 hWz
        obtain ⟨j, hj, rfl, hbel, hcell, hcell', hsz, HD⟩ := hrel
        by_cases hlt : j < l.length
        · have hlt' : j < l'.length := by have := HL.out; omega
          obtain ⟨b, off, rfl, hb, hat⟩ := HK.out (by omega)
          obtain ⟨b', off', rfl, hb', hat'⟩ := HK'.out (by omega)
          obtain ⟨s, hs⟩ : ∃ s, l[j]? = some s := ⟨_, List.getElem?_eq_getElem hlt⟩
          obtain ⟨t, ht⟩ : ∃ t, l'[j]? = some t := ⟨_, List.getElem?_eq_getElem hlt'⟩
          obtain ⟨c0, c1, c2, c3, c4, c5, k0, k1, k2, k3, k4, k5, kn⟩ := Em5.kidsAt_get l off j s hat hs
          obtain ⟨d0, d1, d2, d3, d4, d5, m0, m1, m2, m3, m4, m5, mn⟩ := Em5.kidsAt_get l' off' j t hat' ht
          have key : ∀ o, wr.cell? ⟨b, o, none⟩ = w.cell? ⟨b, o, none⟩ := fun o => hbel.cell (p := ⟨b, o, none⟩) hb
          have key' : ∀ o, wr.cell? ⟨b', o, none⟩ = w.cell? ⟨b', o, none⟩ := fun o => hbel.cell (p := ⟨b', o, none⟩) hb'
          have HN : Hid (∀ w', Below w.heap.size w w' → Em5.IsNd w' s (.agg #[c0, c1, c2, c3, c4, c5])) := fun w' h => Em5.isNd_below h s _ kn
          have HN' : Hid (∀ w', Below w.heap.size w w' → Em5.IsNd w' t (.agg #[d0, d1, d2, d3, d4, d5])) := fun w' h => Em5.isNd_below h t _ mn
          rw [← key] at k0 k1 k2 k3 k4 k5
          rw [← key'] at m0 m1 m2 m3 m4 m5
          have HS : Hid (l[j]? = some s) := hs
          have HT : Hid (l'[j]? = some t) := ht
          have hj1 : (0 : Int) ≤ (j : Int) := by omega
          have hj2 : (j : Int) < (l.length : Int) := by omega
          have hj3 : (j : Int) < (l'.length : Int) := by omega
          have hS0 : Hid (Below w.heap.size w wr.drew ∧ wr.drew.cell? ⟨w.heap.size, 5, none⟩ = some (.slice (some ⟨b, off, none⟩) l.length cap) ∧ wr.drew.cell? ⟨w.heap.size + 1, 5, none⟩ = some (.slice (some ⟨b', off', none⟩) l'.length cap') ∧ w.heap.size + 1 < wr.drew.heap.size ∧
            wr.drew.cell? ⟨b, off + j * 6, none⟩ = some c0 ∧ wr.drew.cell? ⟨b, off + j * 6 + 1, none⟩ = some c1 ∧ wr.drew.cell? ⟨b, off + j * 6 + 2, none⟩ = some c2 ∧ wr.drew.cell? ⟨b, off + j * 6 + 3, none⟩ = some c3 ∧ wr.drew.cell? ⟨b, off + j * 6 + 4, none⟩ = some c4 ∧ wr.drew.cell? ⟨b, off + j * 6 + 5, none⟩ = some c5 ∧
            wr.drew.cell? ⟨b', off' + j * 6, none⟩ = some d0 ∧ wr.drew.cell? ⟨b', off' + j * 6 + 1, none⟩ = some d1 ∧ wr.drew.cell? ⟨b', off' + j * 6 + 2, none⟩ = some d2 ∧ wr.drew.cell? ⟨b', off' + j * 6 + 3, none⟩ = some d3 ∧ wr.drew.cell? ⟨b', off' + j * 6 + 4, none⟩ = some d4 ∧ wr.drew.cell? ⟨b', off' + j * 6 + 5, none⟩ = some d5) :=
            ⟨hbel.drew, hcell, hcell', hsz, k0, k1, k2, k3, k4, k5, m0, m1, m2, m3, m4, m5⟩
          clear key key' kn mn hs ht hat hat' k0 k1 k2 k3 k4 k5 m0 m1 m2 m3 m4 m5
          go_wp2_with fail
          go_region_held (fun w' => Below w.heap.size w w' ∧ w'.cell? ⟨w.heap.size, 5, none⟩ = some (.slice (some ⟨b, off, none⟩) l.length cap) ∧ w'.cell? ⟨w.heap.size + 1, 5, none⟩ = some (.slice (some ⟨b', off', none⟩) l'.length cap') ∧ w.heap.size + 1 < w'.heap.size ∧
            w'.cell? ⟨b, off + j * 6, none⟩ = some c0 ∧ w'.cell? ⟨b, off + j * 6 + 1, none⟩ = some c1 ∧ w'.cell? ⟨b, off + j * 6 + 2, none⟩ = some c2 ∧ w'.cell? ⟨b, off + j * 6 + 3, none⟩ = some c3 ∧ w'.cell? ⟨b, off + j * 6 + 4, none⟩ = some c4 ∧ w'.cell? ⟨b, off + j * 6 + 5, none⟩ = some c5 ∧
            w'.cell? ⟨b', off' + j * 6, none⟩ = some d0 ∧ w'.cell? ⟨b', off' + j * 6 + 1, none⟩ = some d1 ∧ w'.cell? ⟨b', off' + j * 6 + 2, none⟩ = some d2 ∧ w'.cell? ⟨b', off' + j * 6 + 3, none⟩ = some d3 ∧ w'.cell? ⟨b', off' + j * 6 + 4, none⟩ = some d4 ∧ w'.cell? ⟨b', off' + j * 6 + 5, none⟩ = some d5)
            (first | exact hS0 | exact same_keep (by assumption) (by assumption) (by assumption) (by assumption))
            (first | (go_at_call 9; refine (HI.out s (List.mem_of_getElem? HS.out) t _ _ _ (HN.out _ (Em.held1 (by assumption))) (HN'.out _ (Em.held1 (by assumption)))).mono ?_; rintro e w2 ⟨rfl, hb2⟩))
          obtain ⟨hbel2, hx5, hy5, hz2⟩ : Below w.heap.size w w2 ∧ w2.cell? ⟨w.heap.size, 5, none⟩ = some (.slice (some ⟨b, off, none⟩) l.length cap) ∧ w2.cell? ⟨w.heap.size + 1, 5, none⟩ = some (.slice (some ⟨b', off', none⟩) l'.length cap') ∧ w.heap.size + 1 < w2.heap.size := held4 (by assumption)
          clear hb2 hcell hcell' hsz hbel hS0
          cases hx : Em6.sameA s t with
          | false =>
            have HF : Hid (Em6.sameAs l l' = false) := Em6.sameAs_no l l' j s t HS.out HT.out hx
            go_wp2
            go_ret
            exact ⟨by rw [HR.out, HF.out]; rfl, hbel2⟩
          | true =>
            have HX : Hid (Em6.sameA s t = true) := hx
            go_wp2
            go_roundw
            case rel =>
              refine ⟨j + 1, by omega, by go_num, hbel2, hx5, hy5, hz2, fun k s' t' hk hs' ht' => ?_⟩
              by_cases hkj : k = j
              · subst hkj; rw [HS.out] at hs'; cases hs'; rw [HT.out] at ht'; cases ht'; exact HX.out
              · exact HD.out k s' t' (by omega) hs' ht'
            case measure => simp [intOf]; omega
        · have HF : Hid (Em6.sameAs l l' = true) := Em6.sameAs_yes l l' HL.out fun k s t hs ht => HD.out k s t (by have := (List.getElem?_eq_some_iff.1 hs).1; omega) hs ht
          go_wp2
          go_ret
          exact ⟨by rw [HR.out, HF.out]; rfl, hbel⟩
    · have HR := HNO hall
      have key : (((Em.str op).toList == (Em.str op').toList) && (((Em.str nm).toList == (Em.str nm').toList) && (((Em.str ar).toList == (Em.str ar').toList) && ((n == n') && ((p == p') && ((l.length : Int) == (l'.length : Int))))))) = false := by
        rw [q1, q2, q3, Bool.eq_false_iff]
        intro h
        simp at h
        exact hall ⟨h.1, h.2.1, h.2.2.1, h.2.2.2.1, h.2.2.2.2.1, by omega⟩
      obtain ⟨b1, hb1⟩ : ∃ b1, b1 = decide (op = op') := ⟨_, rfl⟩
      obtain ⟨b2, hb2⟩ : ∃ b2, b2 = decide (nm = nm') := ⟨_, rfl⟩
      obtain ⟨b3, hb3⟩ : ∃ b3, b3 = decide (ar = ar') := ⟨_, rfl⟩
      obtain ⟨b4, hb4⟩ : ∃ b4, b4 = (n == n') := ⟨_, rfl⟩
      obtain ⟨b6, hb6⟩ : ∃ b6, b6 = (p == p') := ⟨_, rfl⟩
      obtain ⟨b5, hb5⟩ : ∃ b5, b5 = ((l.length : Int) == (l'.length : Int)) := ⟨_, rfl⟩
      rw [q1, q2, q3, ← hb1, ← hb2, ← hb3, ← hb4, ← hb6, ← hb5] at key
      rw [← hb1] at q1
      rw [← hb2] at q2
      rw [← hb3] at q3
      have q4 : (n == n') = b4 := hb4.symm
      have q5 : ((l.length : Int) == (l'.length : Int)) = b5 := hb5.symm
      have q4' : (n != n') = !b4 := by rw [bne, q4]
      have q5' : ((l.length : Int) != (l'.length : Int)) = !b5 := by rw [bne, q5]
      have q6 : (p == p') = b6 := hb6.symm
      have q6' : (p != p') = !b6 := by rw [bne, q6]
      clear HNO hall hb1 hb2 hb3 hb4 hb5 hb6 hW c5 d5 hWz HK HK' HI hbW
      cases b1 <;> cases b2 <;> cases b3 <;> cases b4 <;> cases b6 <;> cases b5 <;> first | (simp at key; done) | skip
      all_goals
        clear key
        go_enter Tryd.func9, Tryd.ntmps9
        go_wp2
        go_ret
        exact ⟨by rw [HR.out]; rfl, ((Below.refl _ _).alloc (Nat.le_refl _) _).alloc (by simp) _⟩
end Go.Proofs.YtgojjknbingfpaaDoor

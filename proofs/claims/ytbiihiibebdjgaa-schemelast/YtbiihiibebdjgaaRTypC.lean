/- What the document's own 'Is', 'Same', 'Sent' answer of types. -/
import Derived.Test.YtbiihiibebdjgaaRTypE
namespace Go.Proofs.Ytbiihiibebdjgaa
open Go.RowKit
set_option linter.unusedSimpArgs false

set_option maxRecDepth 100000 in
set_option maxHeartbeats 1000000 in
theorem rtIs_any (T : Em8.Ty) (v : Value) (w : World) (hv : Em8.IsTy w T v) :
    Calls Try.prog 8 #[v] w fun e w' => e = .returned (.bool (Em8.isTy T)) ∧ Below w.heap.size w w' := by
  have HV : Hid (∀ w', Below w.heap.size w w' → Em8.IsTy w' T v) := fun w' h => Em8.isTy_below h _ _ hv
  obtain ⟨op, n, l⟩ := T
  unfold Em8.IsTy at hv
  obtain ⟨a, cap, rfl, -⟩ := hv
  obtain ⟨W, hW⟩ : ∃ W, W = w.alloc (.cells #[.string (Em.str op), .int .i64 n, .slice a l.length cap] 25) := ⟨_, rfl⟩
  have hbW : Below w.heap.size w W := by rw [hW]; exact (Below.refl _ _).alloc (Nat.le_refl _) _
  have k0 : W.cell? ⟨w.heap.size, 0, none⟩ = some (.string (Em.str op)) := by rw [hW]; simp
  have k1 : W.cell? ⟨w.heap.size, 1, none⟩ = some (.int .i64 n) := by rw [hW]; simp
  have k2 : W.cell? ⟨w.heap.size, 2, none⟩ = some (.slice a l.length cap) := by rw [hW]; simp
  have hWz : w.heap.size < W.heap.size := by rw [hW]; simp
  have key : ∀ w2, Below W.heap.size W w2 → ∀ o, w2.cell? ⟨w.heap.size, o, none⟩ = W.cell? ⟨w.heap.size, o, none⟩ := fun w2 h o => h.cell (p := ⟨w.heap.size, o, none⟩) hWz
  have hsz : Calls Try.prog 7 #[.agg #[.string (Em.str op), .int .i64 n, .slice a l.length cap], .int .i64 2001] W fun e w' => e = .returned (.int .i64 ((min (Em8.Ty.mk op n l).size 2001 : Nat) : Int)) ∧ Below W.heap.size W w' := rtsize_any _ _ _ 2001 (HV.out _ hbW) (by omega) (by omega)
  go_enter Try.func8, Try.ntmps8
  go_wp2_with fail
  rw [← hW]
  clear hW
  refine hsz.mono ?_
  rintro e w1 ⟨rfl, hb1⟩
  have kk := key _ hb1
  rw [← kk] at k0 k1 k2
  clear key kk hsz
  have hbel1 : Below w.heap.size w w1 := hbW.trans (hb1.mono hbW.size)
  by_cases hs : (Em8.Ty.mk op n l).size ≤ 2000
  · have hm : min (Em8.Ty.mk op n l).size 2001 ≤ 2000 := by omega
    generalize min (Em8.Ty.mk op n l).size 2001 = z at hm ⊢
    have HR : Hid (Em8.isTy (.mk op n l) = Em8.teach (.mk op n l)) := by simp [Hid, Em8.isTy, hs]
    clear hs hb1
    go_wp2_with fail
    refine (rteach_any _ _ _ (HV.out _ hbel1)).mono ?_
    rintro e w2 ⟨rfl, hb2⟩
    have hbel2 : Below w.heap.size w w2 := hbel1.trans (hb2.mono hbel1.size)
    obtain ⟨q, hq⟩ : ∃ q, q = Em8.teach (.mk op n l) := ⟨_, rfl⟩
    rw [← hq] at HR ⊢
    clear hb2 hbel1 hq
    go_wp2
    go_ret
    exact ⟨by rw [HR.out]; rfl, hbel2⟩
  · have hm : min (Em8.Ty.mk op n l).size 2001 = 2001 := by omega
    rw [hm]
    have HR : Hid (Em8.isTy (.mk op n l) = false) := by simp [Hid, Em8.isTy, hs]
    clear hs hm
    go_wp2
    go_ret
    exact ⟨by rw [HR.out]; rfl, hbel1⟩

theorem tstr_beq {L M : List Int} (h : Em5.Txt L) (k : Em5.Txt M) : ((Em.str L).toList == (Em.str M).toList) = decide (L = M) := (Em.isStr_str h.1).beq (Em.isStr_str k.1)
theorem isTy_val {w : World} {T : Em8.Ty} {v : Value} (h : Em8.IsTy w T v) : ∃ a cap, v = .agg #[.string (Em.str T.op), .int .i64 T.n, .slice a T.kids.length cap] ∧
      Em5.Txt T.op ∧ T.kids.length ≤ cap ∧ cap ≤ 9223372036854775807 ∧ (0 < T.kids.length → ∃ b off, a = some ⟨b, off, none⟩ ∧ b < w.heap.size ∧ Em8.TysAt w b off T.kids) := by
  obtain ⟨op, n, l⟩ := T
  unfold Em8.IsTy at h
  obtain ⟨a, cap, rfl, t1, -, h1, h2, h3⟩ := h
  exact ⟨a, cap, rfl, t1, h1, h2, h3⟩
theorem tsame_eq (S T : Em8.Ty) : Em8.tsame S T = (decide (S.op = T.op) && (decide (S.n = T.n) && Em8.tsames S.kids T.kids)) := by
  obtain ⟨op, n, l⟩ := S
  obtain ⟨op', n', l'⟩ := T
  rfl

theorem theld4 {p q r s t : Prop} (h : p ∧ q ∧ r ∧ s ∧ t) : p ∧ q ∧ r ∧ s := ⟨h.1, h.2.1, h.2.2.1, h.2.2.2.1⟩
theorem tsame_keep {w0 w w' : World} {B b b' : Nat} {x y c0 c1 c2 d0 d1 d2 : Value} {o o' : Nat} (hb : Below w.heap.size w w') (hlt : b < w0.heap.size) (hlt' : b' < w0.heap.size)
    (h : Below w0.heap.size w0 w ∧ w.cell? ⟨B, 2, none⟩ = some x ∧ w.cell? ⟨B + 1, 2, none⟩ = some y ∧ B + 1 < w.heap.size ∧
      w.cell? ⟨b, o, none⟩ = some c0 ∧ w.cell? ⟨b, o + 1, none⟩ = some c1 ∧ w.cell? ⟨b, o + 2, none⟩ = some c2 ∧
      w.cell? ⟨b', o', none⟩ = some d0 ∧ w.cell? ⟨b', o' + 1, none⟩ = some d1 ∧ w.cell? ⟨b', o' + 2, none⟩ = some d2) :
    Below w0.heap.size w0 w' ∧ w'.cell? ⟨B, 2, none⟩ = some x ∧ w'.cell? ⟨B + 1, 2, none⟩ = some y ∧ B + 1 < w'.heap.size ∧
      w'.cell? ⟨b, o, none⟩ = some c0 ∧ w'.cell? ⟨b, o + 1, none⟩ = some c1 ∧ w'.cell? ⟨b, o + 2, none⟩ = some c2 ∧
      w'.cell? ⟨b', o', none⟩ = some d0 ∧ w'.cell? ⟨b', o' + 1, none⟩ = some d1 ∧ w'.cell? ⟨b', o' + 2, none⟩ = some d2 := by
  obtain ⟨h1, h2, h3, h4, k0, k1, k2, m0, m1, m2⟩ := h
  have key : ∀ g o, g < w.heap.size → w'.cell? ⟨g, o, none⟩ = w.cell? ⟨g, o, none⟩ := fun g o h => hb.cell (p := ⟨g, o, none⟩) h
  have hs := h1.size
  refine ⟨h1.trans (hb.mono hs), ?_, ?_, Nat.lt_of_lt_of_le h4 hb.size, ?_, ?_, ?_, ?_, ?_, ?_⟩ <;> (rw [key _ _ (by omega)]; assumption)

set_option maxRecDepth 100000 in
set_option maxHeartbeats 4000000 in
theorem rtSame_any (S : Em8.Ty) : ∀ (T : Em8.Ty) (u v : Value) (w : World), Em8.IsTy w S u → Em8.IsTy w T v →
    Calls Try.prog 16 #[u, v] w fun e w' => e = .returned (.bool (Em8.tsame S T)) ∧ Below w.heap.size w w' := by
  induction S using Em8.Ty.ind with
  | h op n l ih =>
    intro T u v w hu hv
    have HI : Hid (∀ t ∈ l, ∀ (T : Em8.Ty) (u v : Value) (w : World), Em8.IsTy w t u → Em8.IsTy w T v →
      Calls Try.prog 16 #[u, v] w fun e w' => e = .returned (.bool (Em8.tsame t T)) ∧ Below w.heap.size w w') := ih
    clear ih
    obtain ⟨op', n', l'⟩ := T
    obtain ⟨a, cap, rfl, t1, hc1, hc2, hk⟩ := isTy_val hu
    obtain ⟨a', cap', rfl, t1', hc1', hc2', hk'⟩ := isTy_val hv
    simp only [Em8.Ty.op, Em8.Ty.n, Em8.Ty.kids] at *
    have q1 := tstr_beq t1 t1'
    have HK : Hid (0 < l.length → ∃ b off, a = some ⟨b, off, none⟩ ∧ b < w.heap.size ∧ Em8.TysAt w b off l) := hk
    have HK' : Hid (0 < l'.length → ∃ b off, a' = some ⟨b, off, none⟩ ∧ b < w.heap.size ∧ Em8.TysAt w b off l') := hk'
    clear hu hv hk hk' t1 t1'
    obtain ⟨W, hW⟩ : ∃ W, W = (w.alloc (.cells #[.string (Em.str op), .int .i64 n, .slice a l.length cap] 25)).alloc (.cells #[.string (Em.str op'), .int .i64 n', .slice a' l'.length cap'] 25) := ⟨_, rfl⟩
    have hbW : Below w.heap.size w W := by rw [hW]; exact ((Below.refl _ _).alloc (Nat.le_refl _) _).alloc (by simp) _
    have c5 : W.cell? ⟨w.heap.size, 2, none⟩ = some (.slice a l.length cap) := by rw [hW]; simp
    have d5 : W.cell? ⟨w.heap.size + 1, 2, none⟩ = some (.slice a' l'.length cap') := by rw [hW]; simp
    have hWz : w.heap.size + 1 < W.heap.size := by rw [hW]; simp
    have HNO : (op = op' ∧ n = n' ∧ l.length = l'.length → False) → Hid (Em8.tsame (.mk op n l) (.mk op' n' l') = false) := by
      intro h
      rw [Hid, tsame_eq]
      simp only [Em8.Ty.op, Em8.Ty.n, Em8.Ty.kids]
      by_cases e1 : op = op' <;> by_cases e4 : n = n' <;> simp only [e1, e4, decide_true, decide_false, Bool.true_and, Bool.false_and, Bool.and_false]
      exact Em8.tsames_len l l' (fun e5 => h ⟨e1, e4, e5⟩)
    by_cases hall : op = op' ∧ n = n' ∧ l.length = l'.length
    · clear HNO
      obtain ⟨e1, e4, e5⟩ := hall
      have HR : Hid (Em8.tsame (.mk op n l) (.mk op' n' l') = Em8.tsames l l') := by
        rw [Hid, tsame_eq]; simp [Em8.Ty.op, Em8.Ty.n, Em8.Ty.kids, e1, e4]
      rw [decide_eq_true e1] at q1
      have q4 : (n == n') = true := by rw [beq_iff_eq]; exact e4
      have q5 : ((l.length : Int) == (l'.length : Int)) = true := by rw [beq_iff_eq, e5]
      have q4' : (n != n') = false := by rw [bne, q4]; rfl
      have q5' : ((l.length : Int) != (l'.length : Int)) = false := by rw [bne, q5]; rfl
      have HL : Hid (l.length = l'.length) := e5
      clear e1 e4 e5
      go_enter Try.func16, Try.ntmps16
      go_wp2
      rw [← hW]
      clear hW
      go_loopw [5] (fun i wr => ∃ j : Nat, j ≤ l.length ∧ i = .int .i64 j ∧ Below w.heap.size w wr ∧ wr.cell? ⟨w.heap.size, 2, none⟩ = some (.slice a l.length cap) ∧ wr.cell? ⟨w.heap.size + 1, 2, none⟩ = some (.slice a' l'.length cap') ∧ w.heap.size + 1 < wr.heap.size ∧ Hid (∀ (k : Nat) s t, k < j → l[k]? = some s → l'[k]? = some t → Em8.tsame s t = true)) (fun i _ => l.length - (intOf i).toNat)
      case atStart => exact ⟨0, Nat.zero_le _, rfl, hbW, c5, d5, hWz, fun k s t h => by omega⟩
      case round =>
        clear hbW c5 d5 hWz
        obtain ⟨j, hj, rfl, hbel, hcell, hcell', hsz, HD⟩ := hrel
        by_cases hlt : j < l.length
        · have hlt' : j < l'.length := by have := HL.out; omega
          obtain ⟨b, off, rfl, hb, hat⟩ := HK.out (by omega)
          obtain ⟨b', off', rfl, hb', hat'⟩ := HK'.out (by omega)
          obtain ⟨s, hs⟩ : ∃ s, l[j]? = some s := ⟨_, List.getElem?_eq_getElem hlt⟩
          obtain ⟨t, ht⟩ : ∃ t, l'[j]? = some t := ⟨_, List.getElem?_eq_getElem hlt'⟩
          obtain ⟨c0, c1, c2, k0, k1, k2, kn⟩ := Em8.tysAt_get l off j s hat hs
          obtain ⟨d0, d1, d2, m0, m1, m2, mn⟩ := Em8.tysAt_get l' off' j t hat' ht
          have key : ∀ o, wr.cell? ⟨b, o, none⟩ = w.cell? ⟨b, o, none⟩ := fun o => hbel.cell (p := ⟨b, o, none⟩) hb
          have key' : ∀ o, wr.cell? ⟨b', o, none⟩ = w.cell? ⟨b', o, none⟩ := fun o => hbel.cell (p := ⟨b', o, none⟩) hb'
          have HN : Hid (∀ w', Below w.heap.size w w' → Em8.IsTy w' s (.agg #[c0, c1, c2])) := fun w' h => Em8.isTy_below h s _ kn
          have HN' : Hid (∀ w', Below w.heap.size w w' → Em8.IsTy w' t (.agg #[d0, d1, d2])) := fun w' h => Em8.isTy_below h t _ mn
          rw [← key] at k0 k1 k2
          rw [← key'] at m0 m1 m2
          have HS : Hid (l[j]? = some s) := hs
          have HT : Hid (l'[j]? = some t) := ht
          have hj1 : (0 : Int) ≤ (j : Int) := by omega
          have hj2 : (j : Int) < (l.length : Int) := by omega
          have hj3 : (j : Int) < (l'.length : Int) := by omega
          have hS0 : Hid (Below w.heap.size w wr.drew ∧ wr.drew.cell? ⟨w.heap.size, 2, none⟩ = some (.slice (some ⟨b, off, none⟩) l.length cap) ∧ wr.drew.cell? ⟨w.heap.size + 1, 2, none⟩ = some (.slice (some ⟨b', off', none⟩) l'.length cap') ∧ w.heap.size + 1 < wr.drew.heap.size ∧
            wr.drew.cell? ⟨b, off + j * 3, none⟩ = some c0 ∧ wr.drew.cell? ⟨b, off + j * 3 + 1, none⟩ = some c1 ∧ wr.drew.cell? ⟨b, off + j * 3 + 2, none⟩ = some c2 ∧
            wr.drew.cell? ⟨b', off' + j * 3, none⟩ = some d0 ∧ wr.drew.cell? ⟨b', off' + j * 3 + 1, none⟩ = some d1 ∧ wr.drew.cell? ⟨b', off' + j * 3 + 2, none⟩ = some d2) :=
            ⟨hbel.drew, hcell, hcell', hsz, k0, k1, k2, m0, m1, m2⟩
          clear key key' kn mn hs ht hat hat' k0 k1 k2 m0 m1 m2
          go_wp2_with fail
          go_region_held (fun w' => Below w.heap.size w w' ∧ w'.cell? ⟨w.heap.size, 2, none⟩ = some (.slice (some ⟨b, off, none⟩) l.length cap) ∧ w'.cell? ⟨w.heap.size + 1, 2, none⟩ = some (.slice (some ⟨b', off', none⟩) l'.length cap') ∧ w.heap.size + 1 < w'.heap.size ∧
            w'.cell? ⟨b, off + j * 3, none⟩ = some c0 ∧ w'.cell? ⟨b, off + j * 3 + 1, none⟩ = some c1 ∧ w'.cell? ⟨b, off + j * 3 + 2, none⟩ = some c2 ∧
            w'.cell? ⟨b', off' + j * 3, none⟩ = some d0 ∧ w'.cell? ⟨b', off' + j * 3 + 1, none⟩ = some d1 ∧ w'.cell? ⟨b', off' + j * 3 + 2, none⟩ = some d2)
            (first | exact hS0 | exact tsame_keep (by assumption) (by assumption) (by assumption) (by assumption))
            (first | (go_at_call 16; refine (HI.out s (List.mem_of_getElem? HS.out) t _ _ _ (HN.out _ (Em.held1 (by assumption))) (HN'.out _ (Em.held1 (by assumption)))).mono ?_; rintro e w2 ⟨rfl, hb2⟩))
          obtain ⟨hbel2, hx5, hy5, hz2⟩ : Below w.heap.size w w2 ∧ w2.cell? ⟨w.heap.size, 2, none⟩ = some (.slice (some ⟨b, off, none⟩) l.length cap) ∧ w2.cell? ⟨w.heap.size + 1, 2, none⟩ = some (.slice (some ⟨b', off', none⟩) l'.length cap') ∧ w.heap.size + 1 < w2.heap.size := theld4 (by assumption)
          clear hb2 hcell hcell' hsz hbel hS0
          cases hx : Em8.tsame s t with
          | false =>
            have HF : Hid (Em8.tsames l l' = false) := Em8.tsames_no l l' j s t HS.out HT.out hx
            go_wp2
            go_ret
            exact ⟨by rw [HR.out, HF.out]; rfl, hbel2⟩
          | true =>
            have HX : Hid (Em8.tsame s t = true) := hx
            go_wp2
            go_roundw
            case rel =>
              refine ⟨j + 1, by omega, by go_num, hbel2, hx5, hy5, hz2, fun k s' t' hk hs' ht' => ?_⟩
              by_cases hkj : k = j
              · subst hkj; rw [HS.out] at hs'; cases hs'; rw [HT.out] at ht'; cases ht'; exact HX.out
              · exact HD.out k s' t' (by omega) hs' ht'
            case measure => simp [intOf]; omega
        · have HF : Hid (Em8.tsames l l' = true) := Em8.tsames_yes l l' HL.out fun k s t hs ht => HD.out k s t (by have := (List.getElem?_eq_some_iff.1 hs).1; omega) hs ht
          go_wp2
          go_ret
          exact ⟨by rw [HR.out, HF.out]; rfl, hbel⟩
    · have HR := HNO hall
      have key : (((Em.str op).toList == (Em.str op').toList) && ((n == n') && ((l.length : Int) == (l'.length : Int)))) = false := by
        rw [q1, Bool.eq_false_iff]
        intro h
        simp at h
        exact hall ⟨h.1, h.2.1, by omega⟩
      obtain ⟨b1, hb1⟩ : ∃ b1, b1 = decide (op = op') := ⟨_, rfl⟩
      obtain ⟨b4, hb4⟩ : ∃ b4, b4 = (n == n') := ⟨_, rfl⟩
      obtain ⟨b5, hb5⟩ : ∃ b5, b5 = ((l.length : Int) == (l'.length : Int)) := ⟨_, rfl⟩
      rw [q1, ← hb1, ← hb4, ← hb5] at key
      rw [← hb1] at q1
      have q4 : (n == n') = b4 := hb4.symm
      have q5 : ((l.length : Int) == (l'.length : Int)) = b5 := hb5.symm
      have q4' : (n != n') = !b4 := by rw [bne, q4]
      have q5' : ((l.length : Int) != (l'.length : Int)) = !b5 := by rw [bne, q5]
      clear HNO hall hb1 hb4 hb5 hW c5 d5 hWz HK HK' HI hbW
      cases b1 <;> cases b4 <;> cases b5 <;> first | (simp at key; done) | skip
      all_goals
        clear key
        go_enter Try.func16, Try.ntmps16
        go_wp2
        go_ret
        exact ⟨by rw [HR.out]; rfl, ((Below.refl _ _).alloc (Nat.le_refl _) _).alloc (by simp) _⟩
end Go.Proofs.Ytbiihiibebdjgaa

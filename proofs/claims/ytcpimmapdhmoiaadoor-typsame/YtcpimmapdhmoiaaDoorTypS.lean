/- What the program's own typ.Same answers, by slices.EqualFunc. -/
import Derived.Test.YtcpimmapdhmoiaaDoorRTypC
import Derived.Test.YtcpimmapdhmoiaaDoorTyV
import Derived.Deep.DeepCutAuto
namespace Go.Proofs.YtcpimmapdhmoiaaDoor
open Go.RowKit
set_option linter.unusedSimpArgs false

set_option maxRecDepth 100000 in
set_option maxHeartbeats 4000000 in
theorem yequalFunc_any (l m : List Em8.Ty) (a a' : Option Addr) (cap cap' : Nat) (w : World) (hl : l.length ≤ 9223372036854775807) (hm : m.length ≤ 9223372036854775807)
    (hk : 0 < l.length → ∃ b off, a = some ⟨b, off, none⟩ ∧ b < w.heap.size ∧ Em8.TysAt w b off l) (hk' : 0 < m.length → ∃ b off, a' = some ⟨b, off, none⟩ ∧ b < w.heap.size ∧ Em8.TysAt w b off m)
    (ih : ∀ t ∈ l, ∀ (T : Em8.Ty) (u v : Value) (w : World), Em8.IsTy w t u → Em8.IsTy w T v →
      Calls Tryd.prog 22 #[u, v] w fun e w' => e = .returned (.bool (Em8.tsame t T)) ∧ Below w.heap.size w w') :
    Calls Tryd.prog 36 #[.slice a l.length cap, .slice a' m.length cap', .func (.func 22) #[] #[]] w fun e w' => e = .returned (.bool (Em8.tsames l m)) ∧ Below w.heap.size w w' := by
  have HI : Hid (∀ t ∈ l, ∀ (T : Em8.Ty) (u v : Value) (w : World), Em8.IsTy w t u → Em8.IsTy w T v →
      Calls Tryd.prog 22 #[u, v] w fun e w' => e = .returned (.bool (Em8.tsame t T)) ∧ Below w.heap.size w w') := ih
  have HK : Hid (0 < l.length → ∃ b off, a = some ⟨b, off, none⟩ ∧ b < w.heap.size ∧ Em8.TysAt w b off l) := hk
  have HK' : Hid (0 < m.length → ∃ b off, a' = some ⟨b, off, none⟩ ∧ b < w.heap.size ∧ Em8.TysAt w b off m) := hk'
  clear ih hk hk'
  by_cases e5 : l.length = m.length
  · have q5 : ((l.length : Int) == (m.length : Int)) = true := by rw [beq_iff_eq, e5]
    have q5' : ((l.length : Int) != (m.length : Int)) = false := by rw [bne, q5]; rfl
    have HL : Hid (l.length = m.length) := e5
    clear e5
    go_enter Tryd.func36, Tryd.ntmps36
    go_wp2
    go_loopw [17] (fun i wr => ∃ j : Nat, j ≤ l.length ∧ i = .int .i64 j ∧ Below w.heap.size w wr ∧ Hid (∀ (k : Nat) s t, k < j → l[k]? = some s → m[k]? = some t → Em8.tsame s t = true)) (fun i _ => l.length - (intOf i).toNat)
    case atStart => exact ⟨0, Nat.zero_le _, rfl, Below.refl _ _, fun k s t h => by omega⟩
    case round =>
      obtain ⟨j, hj, rfl, hbel, HD⟩ := hrel
      by_cases hlt : j < l.length
      · have hlt' : j < m.length := by have := HL.out; omega
        obtain ⟨b, off, rfl, hb, hat⟩ := HK.out (by omega)
        obtain ⟨b', off', rfl, hb', hat'⟩ := HK'.out (by omega)
        obtain ⟨s, hs⟩ : ∃ s, l[j]? = some s := ⟨_, List.getElem?_eq_getElem hlt⟩
        obtain ⟨t, ht⟩ : ∃ t, m[j]? = some t := ⟨_, List.getElem?_eq_getElem hlt'⟩
        obtain ⟨x, xc, k0, k1, k2, kn⟩ := Em8.ty_get hat hs
        obtain ⟨y, yc, m0, m1, m2, mn⟩ := Em8.ty_get hat' ht
        have hbz : b < wr.heap.size := Nat.lt_of_lt_of_le hb hbel.size
        have hbz' : b' < wr.heap.size := Nat.lt_of_lt_of_le hb' hbel.size
        have hne : b' ≠ wr.heap.size := by omega
        have key : ∀ o, wr.cell? ⟨b, o, none⟩ = w.cell? ⟨b, o, none⟩ := fun o => hbel.cell (p := ⟨b, o, none⟩) hb
        have key' : ∀ o, wr.cell? ⟨b', o, none⟩ = w.cell? ⟨b', o, none⟩ := fun o => hbel.cell (p := ⟨b', o, none⟩) hb'
        rw [← key] at k0 k1 k2
        rw [← key'] at m0 m1 m2
        obtain ⟨W1, hW1⟩ : ∃ W1, W1 = wr.alloc (.cells #[.string (Em.str s.op), .int .i64 s.n, .slice x s.kids.length xc] 24) := ⟨_, rfl⟩
        obtain ⟨W, hW⟩ : ∃ W, W = W1.alloc (.cells #[.string (Em.str t.op), .int .i64 t.n, .slice y t.kids.length yc] 24) := ⟨_, rfl⟩
        have hb1 : Below wr.heap.size wr W1 := by rw [hW1]; exact (Below.refl _ _).alloc (Nat.le_refl _) _
        have hb2 : Below wr.heap.size wr W := by rw [hW]; exact hb1.alloc hb1.size _
        have key1 : ∀ o, W1.cell? ⟨b', o, none⟩ = wr.cell? ⟨b', o, none⟩ := fun o => hb1.cell (p := ⟨b', o, none⟩) hbz'
        rw [← key1] at m0 m1 m2
        have hbW : Below w.heap.size w W := hbel.trans (hb2.mono hbel.size)
        have hz1 : W1.heap.size = wr.heap.size + 1 := by rw [hW1]; simp
        have e1 : ∀ o c, o < 6 → W1.cell? ⟨wr.heap.size, o, none⟩ = some c → W.cell? ⟨wr.heap.size, o, none⟩ = some c := fun o c _ h => by
          rw [hW, ← h]; exact ((Below.refl _ _).alloc (Nat.le_refl _) _).cell (p := ⟨wr.heap.size, o, none⟩) (by simp only; omega)
        have p0 : W.cell? ⟨wr.heap.size, 0, none⟩ = some (.string (Em.str s.op)) := e1 0 _ (by omega) (by rw [hW1]; simp)
        have p1 : W.cell? ⟨wr.heap.size, 1, none⟩ = some (.int .i64 s.n) := e1 1 _ (by omega) (by rw [hW1]; simp)
        have p2 : W.cell? ⟨wr.heap.size, 2, none⟩ = some (.slice x s.kids.length xc) := e1 2 _ (by omega) (by rw [hW1]; simp)
        have r0 : W.cell? ⟨W1.heap.size, 0, none⟩ = some (.string (Em.str t.op)) := by rw [hW]; simp
        have r1 : W.cell? ⟨W1.heap.size, 1, none⟩ = some (.int .i64 t.n) := by rw [hW]; simp
        have r2 : W.cell? ⟨W1.heap.size, 2, none⟩ = some (.slice y t.kids.length yc) := by rw [hW]; simp
        have HW1 : Hid (wr.alloc (.cells #[.string (Em.str s.op), .int .i64 s.n, .slice x s.kids.length xc] 24) = W1) := hW1.symm
        have HW2 : Hid (W1.alloc (.cells #[.string (Em.str t.op), .int .i64 t.n, .slice y t.kids.length yc] 24) = W) := hW.symm
        clear e1 hz1 hW hW1
        have HN : Hid (Em8.IsTy W s (.agg #[.string (Em.str s.op), .int .i64 s.n, .slice x s.kids.length xc])) := Em8.isTy_below hbW s _ kn
        have HN' : Hid (Em8.IsTy W t (.agg #[.string (Em.str t.op), .int .i64 t.n, .slice y t.kids.length yc])) := Em8.isTy_below hbW t _ mn
        have HS : Hid (l[j]? = some s) := hs
        have HT : Hid (m[j]? = some t) := ht
        have hj2 : (j : Int) < (l.length : Int) := by omega
        have hj3 : (j : Int) < (m.length : Int) := by omega
        clear key key' key1 kn mn hs ht hat hat'
        go_upto_region 6 with fail
        rw [HW1.out]
        go_upto_region 7 with fail
        rw [HW2.out]
        go_wp2_with fail
        refine (HI.out s (List.mem_of_getElem? HS.out) t _ _ _ HN.out HN'.out).mono ?_
        rintro e w2 ⟨rfl, hb3⟩
        have hbel1 : Below w.heap.size w w2 := hbW.trans (hb3.mono hbW.size)
        clear hb3 hbel hb1 hb2 HW1 HW2 k0 k1 k2 m0 m1 m2 p0 p1 p2 r0 r1 r2 HN HN' hbW
        cases hx : Em8.tsame s t with
        | false =>
          have HF : Hid (Em8.tsames l m = false) := Em8.tsames_no l m j s t HS.out HT.out hx
          clear hx
          go_wp2
          go_ret
          exact ⟨by rw [HF.out]; rfl, hbel1⟩
        | true =>
          have HX : Hid (Em8.tsame s t = true) := hx
          clear hx
          go_wp2
          go_roundw
          case rel =>
            refine ⟨j + 1, by omega, by go_num, hbel1, fun k s' t' hk hs' ht' => ?_⟩
            by_cases hjk : k = j
            · subst hjk; rw [HS.out] at hs'; rw [HT.out] at ht'; cases hs'; cases ht'; exact HX.out
            · exact HD.out k s' t' (by omega) hs' ht'
          case measure => simp [intOf]; omega
      · have HF : Hid (Em8.tsames l m = true) := Em8.tsames_yes l m HL.out (fun k s t h1 h2 => HD.out k s t (by have := (List.getElem?_eq_some_iff.1 h1).1; omega) h1 h2)
        go_wp2
        go_ret
        exact ⟨by rw [HF.out]; rfl, hbel⟩
  · have q5 : ((l.length : Int) == (m.length : Int)) = false := by rw [beq_eq_false_iff_ne]; omega
    have q5' : ((l.length : Int) != (m.length : Int)) = true := by rw [bne, q5]; rfl
    have HF : Hid (Em8.tsames l m = false) := Em8.tsames_len l m e5
    clear e5
    go_enter Tryd.func36, Tryd.ntmps36
    go_wp2
    go_ret
    exact ⟨by rw [HF.out]; rfl, Below.refl _ _⟩

set_option maxRecDepth 100000 in
set_option maxHeartbeats 4000000 in
theorem ySame_any (S : Em8.Ty) : ∀ (T : Em8.Ty) (u v : Value) (w : World), Em8.IsTy w S u → Em8.IsTy w T v →
    Calls Tryd.prog 22 #[u, v] w fun e w' => e = .returned (.bool (Em8.tsame S T)) ∧ Below w.heap.size w w' := by
  induction S using Em8.Ty.ind with
  | h op n l ih =>
    intro T u v w hu hv
    have HI : Hid (∀ t ∈ l, ∀ (T : Em8.Ty) (u v : Value) (w : World), Em8.IsTy w t u → Em8.IsTy w T v →
      Calls Tryd.prog 22 #[u, v] w fun e w' => e = .returned (.bool (Em8.tsame t T)) ∧ Below w.heap.size w w') := ih
    clear ih
    obtain ⟨op', n', l'⟩ := T
    have hu1 := hu
    have hv1 := hv
    unfold Em8.IsTy at hu1 hv1
    obtain ⟨a, cap, rfl, t1, i1, hc1, hc2, -⟩ := hu1
    obtain ⟨a', cap', rfl, t1', i1', hc1', hc2', -⟩ := hv1
    have q1 := tstr_beq t1 t1'
    obtain ⟨W, hW⟩ : ∃ W, W = (w.alloc (.cells #[.string (Em.str op), .int .i64 n, .slice a l.length cap] 24)).alloc (.cells #[.string (Em.str op'), .int .i64 n', .slice a' l'.length cap'] 24) := ⟨_, rfl⟩
    have hbW : Below w.heap.size w W := by rw [hW]; exact ((Below.refl _ _).alloc (Nat.le_refl _) _).alloc (by simp) _
    have HK : Hid (0 < l.length → ∃ b off, a = some ⟨b, off, none⟩ ∧ b < W.heap.size ∧ Em8.TysAt W b off l) := by
      have h := Em8.isTy_below hbW _ _ hu
      unfold Em8.IsTy at h
      obtain ⟨a2, cap2, e, -, -, -, -, h9⟩ := h
      simp only [Value.agg.injEq, Array.mk.injEq, List.cons.injEq, and_true, true_and, Value.slice.injEq] at e
      rw [e.1]; exact h9
    have HK' : Hid (0 < l'.length → ∃ b off, a' = some ⟨b, off, none⟩ ∧ b < W.heap.size ∧ Em8.TysAt W b off l') := by
      have h := Em8.isTy_below hbW _ _ hv
      unfold Em8.IsTy at h
      obtain ⟨a2, cap2, e, -, -, -, -, h9⟩ := h
      simp only [Value.agg.injEq, Array.mk.injEq, List.cons.injEq, and_true, true_and, Value.slice.injEq] at e
      rw [e.1]; exact h9
    have HW : Hid ((w.alloc (.cells #[.string (Em.str op), .int .i64 n, .slice a l.length cap] 24)).alloc (.cells #[.string (Em.str op'), .int .i64 n', .slice a' l'.length cap'] 24) = W) := hW.symm
    have HEQ : Hid (Em8.tsame (.mk op n l) (.mk op' n' l') = (decide (op = op') && (decide (n = n') && Em8.tsames l l'))) := by rw [Hid, Em8.tsame]
    have HBW : Hid (Below w.heap.size w W) := hbW
    have HC1 : l.length ≤ 9223372036854775807 := by omega
    have HC2 : l'.length ≤ 9223372036854775807 := by omega
    clear hu hv t1 t1' i1 i1' hW hbW
    by_cases e1 : op = op'
    · rw [decide_eq_true e1] at q1
      by_cases e4 : n = n'
      · have HR : Hid (Em8.tsame (.mk op n l) (.mk op' n' l') = Em8.tsames l l') := by
          rw [Hid, HEQ.out, decide_eq_true e1, decide_eq_true e4]; rfl
        have q4 : (n == n') = true := by rw [beq_iff_eq]; exact e4
        clear e1 e4 HEQ
        go_enter Tryd.func22, Tryd.ntmps22
        go_wp2_with fail
        rw [HW.out]
        refine (yequalFunc_any l l' a a' cap cap' _ HC1 HC2 HK.out HK'.out HI.out).mono ?_
        rintro e w2 ⟨rfl, hb3⟩
        have hbel1 : Below w.heap.size w w2 := HBW.out.trans (hb3.mono HBW.out.size)
        obtain ⟨z, hz⟩ : ∃ z, z = Em8.tsames l l' := ⟨_, rfl⟩
        rw [← hz] at HR ⊢
        clear hz hb3 HW HK HK' HI q1 q4 HBW
        go_wp2
        go_ret
        exact ⟨by rw [HR.out]; rfl, hbel1⟩
      · have HF : Hid (Em8.tsame (.mk op n l) (.mk op' n' l') = false) := by rw [Hid, HEQ.out, decide_eq_false e4]; cases decide (op = op') <;> rfl
        have q4 : (n == n') = false := by rw [beq_eq_false_iff_ne]; exact e4
        clear e1 e4 HEQ HI HK HK'
        go_enter Tryd.func22, Tryd.ntmps22
        go_wp2
        rw [HW.out]
        go_ret
        exact ⟨by rw [HF.out]; rfl, HBW.out⟩
    · have HF : Hid (Em8.tsame (.mk op n l) (.mk op' n' l') = false) := by rw [Hid, HEQ.out, decide_eq_false e1]; rfl
      rw [decide_eq_false e1] at q1
      clear e1 HEQ HI HK HK'
      go_enter Tryd.func22, Tryd.ntmps22
      go_wp2
      rw [HW.out]
      go_ret
      exact ⟨by rw [HF.out]; rfl, HBW.out⟩
end Go.Proofs.YtcpimmapdhmoiaaDoor

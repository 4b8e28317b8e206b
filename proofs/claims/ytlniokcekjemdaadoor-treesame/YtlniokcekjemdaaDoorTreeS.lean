/- What tree.Same answers, by slices.EqualFunc. -/
import Derived.Test.YtlniokcekjemdaaDoorRTreeC0
import Derived.Test.YtlniokcekjemdaaDoorNdV
import Derived.Deep.DeepCutAuto
namespace Go.Proofs.YtlniokcekjemdaaDoor
open Go.RowKit
set_option linter.unusedSimpArgs false

set_option maxRecDepth 100000 in
set_option maxHeartbeats 4000000 in
theorem equalFunc_any (l m : List Em5.Nd) (a a' : Option Addr) (cap cap' : Nat) (w : World) (hl : l.length ≤ 140737488351232) (hm : m.length ≤ 140737488351232)
    (hk : 0 < l.length → ∃ b off, a = some ⟨b, off, none⟩ ∧ b < w.heap.size ∧ Em5.KidsAt w b off l) (hk' : 0 < m.length → ∃ b off, a' = some ⟨b, off, none⟩ ∧ b < w.heap.size ∧ Em5.KidsAt w b off m)
    (ih : ∀ t ∈ l, ∀ (T : Em5.Nd) (u v : Value) (w : World), Em5.IsNd w t u → Em5.IsNd w T v →
      Calls Tryd.prog 17 #[u, v] w fun e w' => e = .returned (.bool (Em5.same t T)) ∧ Below w.heap.size w w') :
    Calls Tryd.prog 27 #[.slice a l.length cap, .slice a' m.length cap', .func (.func 17) #[] #[]] w fun e w' => e = .returned (.bool (Em5.sames l m)) ∧ Below w.heap.size w w' := by
  have HI : Hid (∀ t ∈ l, ∀ (T : Em5.Nd) (u v : Value) (w : World), Em5.IsNd w t u → Em5.IsNd w T v →
      Calls Tryd.prog 17 #[u, v] w fun e w' => e = .returned (.bool (Em5.same t T)) ∧ Below w.heap.size w w') := ih
  have HK : Hid (0 < l.length → ∃ b off, a = some ⟨b, off, none⟩ ∧ b < w.heap.size ∧ Em5.KidsAt w b off l) := hk
  have HK' : Hid (0 < m.length → ∃ b off, a' = some ⟨b, off, none⟩ ∧ b < w.heap.size ∧ Em5.KidsAt w b off m) := hk'
  clear ih hk hk'
  by_cases e5 : l.length = m.length
  · have q5 : ((l.length : Int) == (m.length : Int)) = true := by rw [beq_iff_eq, e5]
    have q5' : ((l.length : Int) != (m.length : Int)) = false := by rw [bne, q5]; rfl
    have HL : Hid (l.length = m.length) := e5
    clear e5
    go_enter Tryd.func27, Tryd.ntmps27
    go_wp2
    go_loopw [17] (fun i wr => ∃ j : Nat, j ≤ l.length ∧ i = .int .i64 j ∧ Below w.heap.size w wr ∧ Hid (∀ (k : Nat) s t, k < j → l[k]? = some s → m[k]? = some t → Em5.same s t = true)) (fun i _ => l.length - (intOf i).toNat)
    case atStart => exact ⟨0, Nat.zero_le _, rfl, Below.refl _ _, fun k s t h => by omega⟩
    case round =>
      obtain ⟨j, hj, rfl, hbel, HD⟩ := hrel
      by_cases hlt : j < l.length
      · have hlt' : j < m.length := by have := HL.out; omega
        obtain ⟨b, off, rfl, hb, hat⟩ := HK.out (by omega)
        obtain ⟨b', off', rfl, hb', hat'⟩ := HK'.out (by omega)
        obtain ⟨s, hs⟩ : ∃ s, l[j]? = some s := ⟨_, List.getElem?_eq_getElem hlt⟩
        obtain ⟨t, ht⟩ : ∃ t, m[j]? = some t := ⟨_, List.getElem?_eq_getElem hlt'⟩
        obtain ⟨x, xc, k0, k1, k2, k3, k4, k5, kn⟩ := Em5.kid_get hat hs
        obtain ⟨y, yc, m0, m1, m2, m3, m4, m5, mn⟩ := Em5.kid_get hat' ht
        have hbz : b < wr.heap.size := Nat.lt_of_lt_of_le hb hbel.size
        have hbz' : b' < wr.heap.size := Nat.lt_of_lt_of_le hb' hbel.size
        have hne : b' ≠ wr.heap.size := by omega
        have key : ∀ o, wr.cell? ⟨b, o, none⟩ = w.cell? ⟨b, o, none⟩ := fun o => hbel.cell (p := ⟨b, o, none⟩) hb
        have key' : ∀ o, wr.cell? ⟨b', o, none⟩ = w.cell? ⟨b', o, none⟩ := fun o => hbel.cell (p := ⟨b', o, none⟩) hb'
        rw [← key] at k0 k1 k2 k3 k4 k5
        rw [← key'] at m0 m1 m2 m3 m4 m5
        obtain ⟨W1, hW1⟩ : ∃ W1, W1 = wr.alloc (.cells #[.string (Em.str s.op), .string (Em.str s.nm), .string (Em.str s.ar), .int .i64 s.n, .int .i64 s.p, .slice x s.kids.length xc] 24) := ⟨_, rfl⟩
        obtain ⟨W, hW⟩ : ∃ W, W = W1.alloc (.cells #[.string (Em.str t.op), .string (Em.str t.nm), .string (Em.str t.ar), .int .i64 t.n, .int .i64 t.p, .slice y t.kids.length yc] 24) := ⟨_, rfl⟩
        have hb1 : Below wr.heap.size wr W1 := by rw [hW1]; exact (Below.refl _ _).alloc (Nat.le_refl _) _
        have hb2 : Below wr.heap.size wr W := by rw [hW]; exact hb1.alloc hb1.size _
        have key1 : ∀ o, W1.cell? ⟨b', o, none⟩ = wr.cell? ⟨b', o, none⟩ := fun o => hb1.cell (p := ⟨b', o, none⟩) hbz'
        rw [← key1] at m0 m1 m2 m3 m4 m5
        have hbW : Below w.heap.size w W := hbel.trans (hb2.mono hbel.size)
        have hz1 : W1.heap.size = wr.heap.size + 1 := by rw [hW1]; simp
        have e1 : ∀ o c, o < 6 → W1.cell? ⟨wr.heap.size, o, none⟩ = some c → W.cell? ⟨wr.heap.size, o, none⟩ = some c := fun o c _ h => by
          rw [hW, ← h]; exact ((Below.refl _ _).alloc (Nat.le_refl _) _).cell (p := ⟨wr.heap.size, o, none⟩) (by simp only; omega)
        have p0 : W.cell? ⟨wr.heap.size, 0, none⟩ = some (.string (Em.str s.op)) := e1 0 _ (by omega) (by rw [hW1]; simp)
        have p1 : W.cell? ⟨wr.heap.size, 1, none⟩ = some (.string (Em.str s.nm)) := e1 1 _ (by omega) (by rw [hW1]; simp)
        have p2 : W.cell? ⟨wr.heap.size, 2, none⟩ = some (.string (Em.str s.ar)) := e1 2 _ (by omega) (by rw [hW1]; simp)
        have p3 : W.cell? ⟨wr.heap.size, 3, none⟩ = some (.int .i64 s.n) := e1 3 _ (by omega) (by rw [hW1]; simp)
        have p4 : W.cell? ⟨wr.heap.size, 4, none⟩ = some (.int .i64 s.p) := e1 4 _ (by omega) (by rw [hW1]; simp)
        have p5 : W.cell? ⟨wr.heap.size, 5, none⟩ = some (.slice x s.kids.length xc) := e1 5 _ (by omega) (by rw [hW1]; simp)
        have r0 : W.cell? ⟨W1.heap.size, 0, none⟩ = some (.string (Em.str t.op)) := by rw [hW]; simp
        have r1 : W.cell? ⟨W1.heap.size, 1, none⟩ = some (.string (Em.str t.nm)) := by rw [hW]; simp
        have r2 : W.cell? ⟨W1.heap.size, 2, none⟩ = some (.string (Em.str t.ar)) := by rw [hW]; simp
        have r3 : W.cell? ⟨W1.heap.size, 3, none⟩ = some (.int .i64 t.n) := by rw [hW]; simp
        have r4 : W.cell? ⟨W1.heap.size, 4, none⟩ = some (.int .i64 t.p) := by rw [hW]; simp
        have r5 : W.cell? ⟨W1.heap.size, 5, none⟩ = some (.slice y t.kids.length yc) := by rw [hW]; simp
        have HW1 : Hid (wr.alloc (.cells #[.string (Em.str s.op), .string (Em.str s.nm), .string (Em.str s.ar), .int .i64 s.n, .int .i64 s.p, .slice x s.kids.length xc] 24) = W1) := hW1.symm
        have HW2 : Hid (W1.alloc (.cells #[.string (Em.str t.op), .string (Em.str t.nm), .string (Em.str t.ar), .int .i64 t.n, .int .i64 t.p, .slice y t.kids.length yc] 24) = W) := hW.symm
        clear e1 hz1 hW hW1
        have HN : Hid (Em5.IsNd W s (.agg #[.string (Em.str s.op), .string (Em.str s.nm), .string (Em.str s.ar), .int .i64 s.n, .int .i64 s.p, .slice x s.kids.length xc])) := Em5.isNd_below hbW s _ kn
        have HN' : Hid (Em5.IsNd W t (.agg #[.string (Em.str t.op), .string (Em.str t.nm), .string (Em.str t.ar), .int .i64 t.n, .int .i64 t.p, .slice y t.kids.length yc])) := Em5.isNd_below hbW t _ mn
        have HS : Hid (l[j]? = some s) := hs
        have HT : Hid (m[j]? = some t) := ht
        have hj2 : (j : Int) < (l.length : Int) := by omega
        have hj3 : (j : Int) < (m.length : Int) := by omega
        clear key key' key1 kn mn hs ht hat hat'
        go_upto_region 6 with fail
        rw [HW1.out]
        go_upto_region 7 with fail
        rw [HW2.out]
        go_wp2_with fail
        refine (HI.out s (List.mem_of_getElem? HS.out) t _ _ _ HN.out HN'.out).mono ?_
        rintro e w2 ⟨rfl, hb3⟩
        have hbel1 : Below w.heap.size w w2 := hbW.trans (hb3.mono hbW.size)
        clear hb3 hbel hb1 hb2 HW1 HW2 k0 k1 k2 k3 k4 k5 m0 m1 m2 m3 m4 m5 p0 p1 p2 p3 p4 p5 r0 r1 r2 r3 r4 r5 HN HN' hbW
        cases hx : Em5.same s t with
        | false =>
          have HF : Hid (Em5.sames l m = false) := Em5.sames_no l m j s t HS.out HT.out hx
          clear hx
          go_wp2
          go_ret
          exact ⟨by rw [HF.out]; rfl, hbel1⟩
        | true =>
          have HX : Hid (Em5.same s t = true) := hx
          clear hx
          go_wp2
          go_roundw
          case rel =>
            refine ⟨j + 1, by omega, by go_num, hbel1, fun k s' t' hk hs' ht' => ?_⟩
            by_cases hjk : k = j
            · subst hjk; rw [HS.out] at hs'; rw [HT.out] at ht'; cases hs'; cases ht'; exact HX.out
            · exact HD.out k s' t' (by omega) hs' ht'
          case measure => simp [intOf]; omega
      · have HF : Hid (Em5.sames l m = true) := Em5.sames_yes l m HL.out (fun k s t h1 h2 => HD.out k s t (by have := (List.getElem?_eq_some_iff.1 h1).1; omega) h1 h2)
        go_wp2
        go_ret
        exact ⟨by rw [HF.out]; rfl, hbel⟩
  · have q5 : ((l.length : Int) == (m.length : Int)) = false := by rw [beq_eq_false_iff_ne]; omega
    have q5' : ((l.length : Int) != (m.length : Int)) = true := by rw [bne, q5]; rfl
    have HF : Hid (Em5.sames l m = false) := Em5.sames_len l m e5
    clear e5
    go_enter Tryd.func27, Tryd.ntmps27
    go_wp2
    go_ret
    exact ⟨by rw [HF.out]; rfl, Below.refl _ _⟩

set_option maxRecDepth 100000 in
set_option maxHeartbeats 4000000 in
theorem tSame_any (S : Em5.Nd) : ∀ (T : Em5.Nd) (u v : Value) (w : World), Em5.IsNd w S u → Em5.IsNd w T v →
    Calls Tryd.prog 17 #[u, v] w fun e w' => e = .returned (.bool (Em5.same S T)) ∧ Below w.heap.size w w' := by
  induction S using Em5.Nd.ind with
  | h op nm ar n p l ih =>
    intro T u v w hu hv
    have HI : Hid (∀ t ∈ l, ∀ (T : Em5.Nd) (u v : Value) (w : World), Em5.IsNd w t u → Em5.IsNd w T v →
      Calls Tryd.prog 17 #[u, v] w fun e w' => e = .returned (.bool (Em5.same t T)) ∧ Below w.heap.size w w') := ih
    clear ih
    obtain ⟨op', nm', ar', n', p', l'⟩ := T
    obtain ⟨a, cap, rfl, t1, t2, t3, hc1, hc2, -⟩ := isNd_val hu
    obtain ⟨a', cap', rfl, t1', t2', t3', hc1', hc2', -⟩ := isNd_val hv
    simp only [Em5.Nd.op, Em5.Nd.nm, Em5.Nd.ar, Em5.Nd.n, Em5.Nd.p, Em5.Nd.kids] at *
    have q1 := str_beq t1 t1'
    have q2 := str_beq t2 t2'
    have q3 := str_beq t3 t3'
    obtain ⟨W, hW⟩ : ∃ W, W = (w.alloc (.cells #[.string (Em.str op), .string (Em.str nm), .string (Em.str ar), .int .i64 n, .int .i64 p, .slice a l.length cap] 24)).alloc (.cells #[.string (Em.str op'), .string (Em.str nm'), .string (Em.str ar'), .int .i64 n', .int .i64 p', .slice a' l'.length cap'] 24) := ⟨_, rfl⟩
    have hbW : Below w.heap.size w W := by rw [hW]; exact ((Below.refl _ _).alloc (Nat.le_refl _) _).alloc (by simp) _
    have HK : Hid (0 < l.length → ∃ b off, a = some ⟨b, off, none⟩ ∧ b < W.heap.size ∧ Em5.KidsAt W b off l) := by
      have h := Em5.isNd_below hbW _ _ hu
      unfold Em5.IsNd at h
      obtain ⟨a2, cap2, e, -, -, -, -, -, -, -, h9⟩ := h
      simp only [Value.agg.injEq, Array.mk.injEq, List.cons.injEq, and_true, true_and, Value.slice.injEq] at e
      rw [e.1]; exact h9
    have HK' : Hid (0 < l'.length → ∃ b off, a' = some ⟨b, off, none⟩ ∧ b < W.heap.size ∧ Em5.KidsAt W b off l') := by
      have h := Em5.isNd_below hbW _ _ hv
      unfold Em5.IsNd at h
      obtain ⟨a2, cap2, e, -, -, -, -, -, -, -, h9⟩ := h
      simp only [Value.agg.injEq, Array.mk.injEq, List.cons.injEq, and_true, true_and, Value.slice.injEq] at e
      rw [e.1]; exact h9
    have HW : Hid ((w.alloc (.cells #[.string (Em.str op), .string (Em.str nm), .string (Em.str ar), .int .i64 n, .int .i64 p, .slice a l.length cap] 24)).alloc (.cells #[.string (Em.str op'), .string (Em.str nm'), .string (Em.str ar'), .int .i64 n', .int .i64 p', .slice a' l'.length cap'] 24) = W) := hW.symm
    have HNO : (op = op' ∧ nm = nm' ∧ ar = ar' ∧ n = n' → False) → Hid (Em5.same (.mk op nm ar n p l) (.mk op' nm' ar' n' p' l') = false) := by
      intro h
      rw [Hid, same_eq]
      simp only [Em5.Nd.op, Em5.Nd.nm, Em5.Nd.ar, Em5.Nd.n, Em5.Nd.kids]
      by_cases e1 : op = op' <;> by_cases e2 : nm = nm' <;> by_cases e3 : ar = ar' <;> by_cases e4 : n = n' <;> simp only [e1, e2, e3, e4, decide_true, decide_false, Bool.true_and, Bool.false_and, Bool.and_false]
      exact absurd ⟨e1, e2, e3, e4⟩ h
    have HBW : Hid (Below w.heap.size w W) := hbW
    have HC1 : l.length ≤ 140737488351232 := by omega
    have HC2 : l'.length ≤ 140737488351232 := by omega
    clear hu hv t1 t2 t3 t1' t2' t3' hW hbW
    by_cases hall : op = op' ∧ nm = nm' ∧ ar = ar' ∧ n = n'
    · clear HNO
      obtain ⟨e1, e2, e3, e4⟩ := hall
      have HR : Hid (Em5.same (.mk op nm ar n p l) (.mk op' nm' ar' n' p' l') = Em5.sames l l') := by
        rw [Hid, same_eq]; simp [Em5.Nd.op, Em5.Nd.nm, Em5.Nd.ar, Em5.Nd.n, Em5.Nd.kids, e1, e2, e3, e4]
      rw [decide_eq_true e1] at q1
      rw [decide_eq_true e2] at q2
      rw [decide_eq_true e3] at q3
      have q4 : (n == n') = true := by rw [beq_iff_eq]; exact e4
      clear e1 e2 e3 e4
      go_enter Tryd.func17, Tryd.ntmps17
      go_wp2_with fail
      rw [HW.out]
      refine (equalFunc_any l l' a a' cap cap' _ HC1 HC2 HK.out HK'.out HI.out).mono ?_
      rintro e w2 ⟨rfl, hb3⟩
      have hbel1 : Below w.heap.size w w2 := HBW.out.trans (hb3.mono HBW.out.size)
      obtain ⟨z, hz⟩ : ∃ z, z = Em5.sames l l' := ⟨_, rfl⟩
      rw [← hz] at HR ⊢
      clear hz hb3 HW HK HK' HI q1 q2 q3 q4 HBW
      go_wp2
      go_ret
      exact ⟨by rw [HR.out]; rfl, hbel1⟩
    · have HF := HNO hall
      clear HNO HI HK HK'
      have c1 : Below w.heap.size w W := HBW.out
      by_cases e1 : op = op'
      · rw [decide_eq_true e1] at q1
        by_cases e2 : nm = nm'
        · rw [decide_eq_true e2] at q2
          by_cases e3 : ar = ar'
          · rw [decide_eq_true e3] at q3
            have q4 : (n == n') = false := by rw [beq_eq_false_iff_ne]; exact fun e4 => hall ⟨e1, e2, e3, e4⟩
            clear hall e1 e2 e3
            go_enter Tryd.func17, Tryd.ntmps17
            go_wp2
            rw [HW.out]
            go_ret
            exact ⟨by rw [HF.out]; rfl, c1⟩
          · rw [decide_eq_false e3] at q3
            clear hall e1 e2 e3
            go_enter Tryd.func17, Tryd.ntmps17
            go_wp2
            rw [HW.out]
            go_ret
            exact ⟨by rw [HF.out]; rfl, c1⟩
        · rw [decide_eq_false e2] at q2
          clear hall e1 e2
          go_enter Tryd.func17, Tryd.ntmps17
          go_wp2
          rw [HW.out]
          go_ret
          exact ⟨by rw [HF.out]; rfl, c1⟩
      · rw [decide_eq_false e1] at q1
        clear hall e1
        go_enter Tryd.func17, Tryd.ntmps17
        go_wp2
        rw [HW.out]
        go_ret
        exact ⟨by rw [HF.out]; rfl, c1⟩
end Go.Proofs.YtlniokcekjemdaaDoor

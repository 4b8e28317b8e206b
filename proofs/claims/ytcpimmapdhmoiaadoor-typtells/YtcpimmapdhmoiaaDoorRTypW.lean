/- What the document's own 'Show' answers of types. -/
import Derived.Test.YtcpimmapdhmoiaaDoorRTypC
import Derived.Test.YtcpimmapdhmoiaaDoorRTypG
import Derived.Test.YtcpimmapdhmoiaaDoorMath8b
namespace Go.Proofs.YtcpimmapdhmoiaaDoor
open Go.RowKit
set_option linter.unusedSimpArgs false

set_option maxRecDepth 100000 in
set_option maxHeartbeats 4000000 in
theorem rtShow_any (T : Em8.Ty) : ∀ (v : Value) (w : World), Em8.IsTy w T v → Em8.teach T = true → T.size ≤ 1000000 →
    Calls Tryd.prog 19 #[v] w fun e w' => e = .returned (.string (Em.str (Em8.tshow T))) ∧ Below w.heap.size w w' := by
  induction T using Em8.Ty.ind with
  | h op n l ih =>
    intro v w hv ht hs
    have hi := Em8.isTy_i64 _ v hv
    obtain ⟨hn, his⟩ : Em5.I64 n ∧ ∀ t ∈ l, Em8.TI64 t := by cases hi with | mk h1 h2 => exact ⟨h1, h2⟩
    have HI : Hid (∀ t ∈ l, ∀ (v : Value) (w : World), Em8.IsTy w t v → Em8.teach t = true → t.size ≤ 1000000 →
      Calls Tryd.prog 19 #[v] w fun e w' => e = .returned (.string (Em.str (Em8.tshow t))) ∧ Below w.heap.size w w') := ih
    clear ih hi
    obtain ⟨a, cap, rfl, t1, hc1, hc2, hk⟩ := isTy_val hv
    simp only [Em8.Ty.op, Em8.Ty.n, Em8.Ty.kids] at *
    have hq := Em5.str_eq t1.1
    have HBE : Hid (Below w.heap.size w (w.alloc (.cells #[.string (Em.str op), .int .i64 n, .slice a l.length cap] 24))) := (Below.refl _ _).alloc (Nat.le_refl _) _
    have HE : Hid (Em8.tshow (.mk op n l) = _) := Em8.tshow_eq op n l
    rcases Em8.teach_cases ht with ⟨ho, rfl, rfl⟩ | ⟨ho, hn0, rfl⟩ | ⟨ho, rfl, x, rfl, hx⟩ | ⟨ho, rfl, x, y, rfl, hx, hy⟩
    · clear hv hk t1 ht hs
      rcases ho with h | h | h | h | h
      all_goals
        subst h
        go_enter Tryd.func19, Tryd.ntmps19
        go_wp2
        go_ret
        exact ⟨by rw [HE.out]; rfl, HBE.out⟩
    · obtain ⟨m, rfl⟩ : ∃ m : Nat, n = m := ⟨n.toNat, by omega⟩
      have hm : m ≤ 9223372036854775807 := by unfold Em5.I64 at hn; omega
      have hsz : ¬ 9223372036854775807 < (Em.str [39]).size + (Em.str (Em8.tdigs m)).size := by
        have := Em8.tdigs_len64 hm
        rw [str_size, str_size]; simp; omega
      have HM : Hid (m ≤ 9223372036854775807) := hm
      clear hv hk t1 ht hs hm hn hn0
      subst ho
      go_enter Tryd.func19, Tryd.ntmps19
      go_wp2_with fail
      refine (rdigits_any m _ HM.out).mono ?_
      rintro e w1 ⟨rfl, hb1⟩
      have HB1 : Hid (Below w.heap.size w w1) := HBE.out.trans (hb1.mono HBE.out.size)
      clear hb1
      go_wp2
      go_ret
      exact ⟨by rw [HE.out]; rfl, HB1.out⟩
    · obtain ⟨b, off, rfl, hb, hat⟩ := hk (by simp)
      obtain ⟨c0, c1, c2, k0, k1, k2, kn⟩ := Em8.tysAt_get _ off 0 x hat rfl
      simp only [Nat.zero_mul, Nat.add_zero] at k0 k1 k2
      have hxs : x.size ≤ 1000000 := by rw [Em8.Ty.size] at hs; simp [Em8.tsizes] at hs; omega
      have hlen := Em8.tshow_len x hx (his x (by simp))
      have HN : Hid (∀ w', Below w.heap.size w w' → Calls Tryd.prog 19 #[.agg #[c0, c1, c2]] w' fun e w2 => e = .returned (.string (Em.str (Em8.tshow x))) ∧ Below w'.heap.size w' w2) := fun w' h => HI.out x (by simp) _ w' (Em8.isTy_below h x _ kn) hx hxs
      have HLEN : Hid ((Em8.tshow x).length ≤ 20000000) := by rw [Hid]; omega
      clear hv hk t1 ht hs hn his hat kn hlen hxs hx HI
      rcases ho with h | h
      · subst h
        obtain ⟨W, hW⟩ : ∃ W, W = w.alloc (.cells #[.string (Em.str [108, 105, 115, 116]), .int .i64 0, .slice (some ⟨b, off, none⟩) 1 cap] 24) := ⟨_, rfl⟩
        have hbW : Below w.heap.size w W := by rw [hW]; exact HBE.out
        have HSX : Hid (∀ w', Below W.heap.size W w' → Below W.heap.size W w' ∧ w'.cell? ⟨w.heap.size, 0, none⟩ = some (.string (Em.str [108, 105, 115, 116])) ∧ w'.cell? ⟨w.heap.size, 2, none⟩ = some (.slice (some ⟨b, off, none⟩) 1 cap) ∧ w'.cell? ⟨b, off, none⟩ = some c0 ∧ w'.cell? ⟨b, off + 1, none⟩ = some c1 ∧ w'.cell? ⟨b, off + 2, none⟩ = some c2) := fun w' h => by
          have key : ∀ g o, g < W.heap.size → w'.cell? ⟨g, o, none⟩ = W.cell? ⟨g, o, none⟩ := fun g o hg => h.cell (p := ⟨g, o, none⟩) hg
          have key2 : ∀ o, W.cell? ⟨b, o, none⟩ = w.cell? ⟨b, o, none⟩ := fun o => hbW.cell (p := ⟨b, o, none⟩) hb
          have hbr : b < W.heap.size := Nat.lt_of_lt_of_le hb hbW.size
          have hwz : w.heap.size < W.heap.size := by rw [hW]; simp
          refine ⟨h, ?_, ?_, ?_, ?_, ?_⟩
          · rw [key _ _ hwz, hW]; simp
          · rw [key _ _ hwz, hW]; simp
          · rw [key _ _ hbr, key2]; exact k0
          · rw [key _ _ hbr, key2]; exact k1
          · rw [key _ _ hbr, key2]; exact k2
        have HBW : Hid (Below w.heap.size w W) := hbW
        have hsA : ¬ 9223372036854775807 < (Em.str (Em8.tshow x)).size + (Em.str [32]).size := by have := HLEN.out; rw [str_size, str_size]; simp; omega
        have hsB : ¬ 9223372036854775807 < (Em.str (Em8.tshow x) ++ Em.str [32]).size + (Em.str [108, 105, 115, 116]).size := by have := HLEN.out; rw [str_app, str_size, str_size]; simp; omega
        have hsC : ¬ 9223372036854775807 < (Em.str (Em8.tshow x)).size + 1 + (Em.str [108, 105, 115, 116]).size := by have := HLEN.out; rw [str_size, str_size]; simp; omega
        have hsD : ¬ 9223372036854775807 < (Em.str (Em8.tshow x)).size + 1 + 4 := by have := HLEN.out; rw [str_size]; omega
        have HR : Hid (Em.str (Em8.tshow (.mk [108, 105, 115, 116] 0 [x])) = Em.str (Em8.tshow x) ++ (⟨#[32]⟩ : ByteArray) ++ Em.str [108, 105, 115, 116]) := by
          rw [Hid, Em8.tshow_eq, if_pos (by first | exact .inl rfl | exact .inr rfl), ← str_app, ← str_app]; rfl
        clear k0 k1 k2 hb hbW
        go_enter Tryd.func19, Tryd.ntmps19
        go_wp2_with fail
        rw [← hW]
        clear hW
        go_region_held (fun w' => Below W.heap.size W w' ∧ w'.cell? ⟨w.heap.size, 0, none⟩ = some (.string (Em.str [108, 105, 115, 116])) ∧ w'.cell? ⟨w.heap.size, 2, none⟩ = some (.slice (some ⟨b, off, none⟩) 1 cap) ∧ w'.cell? ⟨b, off, none⟩ = some c0 ∧ w'.cell? ⟨b, off + 1, none⟩ = some c1 ∧ w'.cell? ⟨b, off + 2, none⟩ = some c2)
          (first | exact HSX.out _ (Below.refl _ _).drew | exact HSX.out _ hb1)
          (first | (go_at_call 19; refine (HN.out _ (HBW.out.trans ((Em.held1 (by assumption)).mono HBW.out.size))).mono ?_; rintro e w1 ⟨rfl, hb1'⟩; have hb1 : Below W.heap.size W w1 := (Below.refl _ _).drew.trans hb1'; clear hb1'))
        go_wp2
        go_ret
        exact ⟨congrArg (fun z => Ending.returned (Value.string z)) HR.out.symm, HBW.out.trans (hb1.mono HBW.out.size)⟩
      · subst h
        obtain ⟨W, hW⟩ : ∃ W, W = w.alloc (.cells #[.string (Em.str [114, 101, 102]), .int .i64 0, .slice (some ⟨b, off, none⟩) 1 cap] 24) := ⟨_, rfl⟩
        have hbW : Below w.heap.size w W := by rw [hW]; exact HBE.out
        have HSX : Hid (∀ w', Below W.heap.size W w' → Below W.heap.size W w' ∧ w'.cell? ⟨w.heap.size, 0, none⟩ = some (.string (Em.str [114, 101, 102])) ∧ w'.cell? ⟨w.heap.size, 2, none⟩ = some (.slice (some ⟨b, off, none⟩) 1 cap) ∧ w'.cell? ⟨b, off, none⟩ = some c0 ∧ w'.cell? ⟨b, off + 1, none⟩ = some c1 ∧ w'.cell? ⟨b, off + 2, none⟩ = some c2) := fun w' h => by
          have key : ∀ g o, g < W.heap.size → w'.cell? ⟨g, o, none⟩ = W.cell? ⟨g, o, none⟩ := fun g o hg => h.cell (p := ⟨g, o, none⟩) hg
          have key2 : ∀ o, W.cell? ⟨b, o, none⟩ = w.cell? ⟨b, o, none⟩ := fun o => hbW.cell (p := ⟨b, o, none⟩) hb
          have hbr : b < W.heap.size := Nat.lt_of_lt_of_le hb hbW.size
          have hwz : w.heap.size < W.heap.size := by rw [hW]; simp
          refine ⟨h, ?_, ?_, ?_, ?_, ?_⟩
          · rw [key _ _ hwz, hW]; simp
          · rw [key _ _ hwz, hW]; simp
          · rw [key _ _ hbr, key2]; exact k0
          · rw [key _ _ hbr, key2]; exact k1
          · rw [key _ _ hbr, key2]; exact k2
        have HBW : Hid (Below w.heap.size w W) := hbW
        have hsA : ¬ 9223372036854775807 < (Em.str (Em8.tshow x)).size + (Em.str [32]).size := by have := HLEN.out; rw [str_size, str_size]; simp; omega
        have hsB : ¬ 9223372036854775807 < (Em.str (Em8.tshow x) ++ Em.str [32]).size + (Em.str [114, 101, 102]).size := by have := HLEN.out; rw [str_app, str_size, str_size]; simp; omega
        have hsC : ¬ 9223372036854775807 < (Em.str (Em8.tshow x)).size + 1 + (Em.str [114, 101, 102]).size := by have := HLEN.out; rw [str_size, str_size]; simp; omega
        have hsD : ¬ 9223372036854775807 < (Em.str (Em8.tshow x)).size + 1 + 3 := by have := HLEN.out; rw [str_size]; omega
        have HR : Hid (Em.str (Em8.tshow (.mk [114, 101, 102] 0 [x])) = Em.str (Em8.tshow x) ++ (⟨#[32]⟩ : ByteArray) ++ Em.str [114, 101, 102]) := by
          rw [Hid, Em8.tshow_eq, if_pos (by first | exact .inl rfl | exact .inr rfl), ← str_app, ← str_app]; rfl
        clear k0 k1 k2 hb hbW
        go_enter Tryd.func19, Tryd.ntmps19
        go_wp2_with fail
        rw [← hW]
        clear hW
        go_region_held (fun w' => Below W.heap.size W w' ∧ w'.cell? ⟨w.heap.size, 0, none⟩ = some (.string (Em.str [114, 101, 102])) ∧ w'.cell? ⟨w.heap.size, 2, none⟩ = some (.slice (some ⟨b, off, none⟩) 1 cap) ∧ w'.cell? ⟨b, off, none⟩ = some c0 ∧ w'.cell? ⟨b, off + 1, none⟩ = some c1 ∧ w'.cell? ⟨b, off + 2, none⟩ = some c2)
          (first | exact HSX.out _ (Below.refl _ _).drew | exact HSX.out _ hb1)
          (first | (go_at_call 19; refine (HN.out _ (HBW.out.trans ((Em.held1 (by assumption)).mono HBW.out.size))).mono ?_; rintro e w1 ⟨rfl, hb1'⟩; have hb1 : Below W.heap.size W w1 := (Below.refl _ _).drew.trans hb1'; clear hb1'))
        go_wp2
        go_ret
        exact ⟨congrArg (fun z => Ending.returned (Value.string z)) HR.out.symm, HBW.out.trans (hb1.mono HBW.out.size)⟩
    · obtain ⟨b, off, rfl, hb, hat⟩ := hk (by simp)
      obtain ⟨c0, c1, c2, k0, k1, k2, kn⟩ := Em8.tysAt_get _ off 0 x hat rfl
      obtain ⟨d0, d1, d2, m0, m1, m2, mn⟩ := Em8.tysAt_get _ off 1 y hat rfl
      simp only [Nat.zero_mul, Nat.add_zero, Nat.one_mul] at k0 k1 k2 m0 m1 m2
      have hxs : x.size + y.size ≤ 1000000 := by rw [Em8.Ty.size] at hs; simp [Em8.tsizes] at hs; omega
      have hlen := Em8.tshow_len x hx (his x (by simp))
      have hlen2 := Em8.tshow_len y hy (his y (by simp))
      have HN : Hid (∀ w', Below w.heap.size w w' → Calls Tryd.prog 19 #[.agg #[c0, c1, c2]] w' fun e w2 => e = .returned (.string (Em.str (Em8.tshow x))) ∧ Below w'.heap.size w' w2) := fun w' h => HI.out x (by simp) _ w' (Em8.isTy_below h x _ kn) hx (by omega)
      have HN2 : Hid (∀ w', Below w.heap.size w w' → Calls Tryd.prog 19 #[.agg #[d0, d1, d2]] w' fun e w2 => e = .returned (.string (Em.str (Em8.tshow y))) ∧ Below w'.heap.size w' w2) := fun w' h => HI.out y (by simp) _ w' (Em8.isTy_below h y _ mn) hy (by omega)
      have HLEN : Hid ((Em8.tshow x).length ≤ 20000000) := by rw [Hid]; omega
      have HLEN2 : Hid ((Em8.tshow y).length ≤ 20000000) := by rw [Hid]; omega
      clear hv hk t1 ht hs hn his hat kn mn hlen hlen2 hxs hx hy HI
      rcases ho with h | h
      · subst h
        obtain ⟨W, hW⟩ : ∃ W, W = w.alloc (.cells #[.string (Em.str [112, 97, 105, 114]), .int .i64 0, .slice (some ⟨b, off, none⟩) 2 cap] 24) := ⟨_, rfl⟩
        have hbW : Below w.heap.size w W := by rw [hW]; exact HBE.out
        have HSX : Hid (∀ w', Below W.heap.size W w' → Below W.heap.size W w' ∧ w'.cell? ⟨w.heap.size, 2, none⟩ = some (.slice (some ⟨b, off, none⟩) 2 cap) ∧ w'.cell? ⟨b, off, none⟩ = some c0 ∧ w'.cell? ⟨b, off + 1, none⟩ = some c1 ∧ w'.cell? ⟨b, off + 2, none⟩ = some c2 ∧ w'.cell? ⟨b, off + 3, none⟩ = some d0 ∧ w'.cell? ⟨b, off + 3 + 1, none⟩ = some d1 ∧ w'.cell? ⟨b, off + 3 + 2, none⟩ = some d2) := fun w' h => by
          have key : ∀ g o, g < W.heap.size → w'.cell? ⟨g, o, none⟩ = W.cell? ⟨g, o, none⟩ := fun g o hg => h.cell (p := ⟨g, o, none⟩) hg
          have key2 : ∀ o, W.cell? ⟨b, o, none⟩ = w.cell? ⟨b, o, none⟩ := fun o => hbW.cell (p := ⟨b, o, none⟩) hb
          have hbr : b < W.heap.size := Nat.lt_of_lt_of_le hb hbW.size
          have hwz : w.heap.size < W.heap.size := by rw [hW]; simp
          refine ⟨h, ?_, ?_, ?_, ?_, ?_, ?_, ?_⟩
          · rw [key _ _ hwz, hW]; simp
          · rw [key _ _ hbr, key2]; exact k0
          · rw [key _ _ hbr, key2]; exact k1
          · rw [key _ _ hbr, key2]; exact k2
          · rw [key _ _ hbr, key2]; exact m0
          · rw [key _ _ hbr, key2]; exact m1
          · rw [key _ _ hbr, key2]; exact m2
        have HBW : Hid (Below w.heap.size w W) := hbW
        have hl1 := HLEN.out
        have hl2 := HLEN2.out
        have hsA : ¬ 9223372036854775807 < (Em.str [40]).size + (Em.str (Em8.tshow x)).size := by rw [str_size, str_size]; simp; omega
        have hsA' : ¬ 9223372036854775807 < (⟨#[40]⟩ : ByteArray).size + (Em.str (Em8.tshow x)).size := hsA
        have hsB : ¬ 9223372036854775807 < (Em.str [40] ++ Em.str (Em8.tshow x)).size + (Em.str [32, 42, 32]).size := by rw [str_app, str_size, str_size]; simp; omega
        have hsB' : ¬ 9223372036854775807 < ((⟨#[40]⟩ : ByteArray) ++ Em.str (Em8.tshow x)).size + (⟨#[32, 42, 32]⟩ : ByteArray).size := hsB
        have hsC : ¬ 9223372036854775807 < (Em.str [40] ++ Em.str (Em8.tshow x) ++ Em.str [32, 42, 32]).size + (Em.str (Em8.tshow y)).size := by rw [str_app, str_app, str_size, str_size]; simp; omega
        have hsC' : ¬ 9223372036854775807 < ((⟨#[40]⟩ : ByteArray) ++ Em.str (Em8.tshow x) ++ (⟨#[32, 42, 32]⟩ : ByteArray)).size + (Em.str (Em8.tshow y)).size := hsC
        have hsD : ¬ 9223372036854775807 < (Em.str [40] ++ Em.str (Em8.tshow x) ++ Em.str [32, 42, 32] ++ Em.str (Em8.tshow y)).size + (Em.str [41]).size := by rw [str_app, str_app, str_app, str_size, str_size]; simp; omega
        have hsD' : ¬ 9223372036854775807 < ((⟨#[40]⟩ : ByteArray) ++ Em.str (Em8.tshow x) ++ (⟨#[32, 42, 32]⟩ : ByteArray) ++ Em.str (Em8.tshow y)).size + (⟨#[41]⟩ : ByteArray).size := hsD
        have hzA : ¬ 9223372036854775807 < 1 + (Em.str (Em8.tshow x)).size := by rw [str_size]; omega
        have hzB : ¬ 9223372036854775807 < 1 + (Em.str (Em8.tshow x)).size + 3 := by rw [str_size]; omega
        have hzC : ¬ 9223372036854775807 < 1 + (Em.str (Em8.tshow x)).size + 3 + (Em.str (Em8.tshow y)).size := by rw [str_size, str_size]; omega
        have hzD : ¬ 9223372036854775807 < 1 + (Em.str (Em8.tshow x)).size + 3 + (Em.str (Em8.tshow y)).size + 1 := by rw [str_size, str_size]; omega
        have HR : Hid (Em.str (Em8.tshow (.mk [112, 97, 105, 114] 0 [x, y])) = (⟨#[40]⟩ : ByteArray) ++ Em.str (Em8.tshow x) ++ (⟨#[32, 42, 32]⟩ : ByteArray) ++ Em.str (Em8.tshow y) ++ (⟨#[41]⟩ : ByteArray)) := by
          rw [Hid, Em8.tshow_eq]
          have e : ∀ L M N : List Int, Em.str ([40] ++ L ++ N ++ M ++ [41]) = Em.str [40] ++ Em.str L ++ Em.str N ++ Em.str M ++ Em.str [41] := fun L M N => by rw [str_app, str_app, str_app, str_app]
          exact e (Em8.tshow x) (Em8.tshow y) [32, 42, 32]
        clear k0 k1 k2 m0 m1 m2 hb hbW hl1 hl2 hsA hsB hsC hsD
        go_enter Tryd.func19, Tryd.ntmps19
        go_wp2_with fail
        rw [← hW]
        clear hW
        go_region_held (fun w' => Below W.heap.size W w' ∧ w'.cell? ⟨w.heap.size, 2, none⟩ = some (.slice (some ⟨b, off, none⟩) 2 cap) ∧ w'.cell? ⟨b, off, none⟩ = some c0 ∧ w'.cell? ⟨b, off + 1, none⟩ = some c1 ∧ w'.cell? ⟨b, off + 2, none⟩ = some c2 ∧ w'.cell? ⟨b, off + 3, none⟩ = some d0 ∧ w'.cell? ⟨b, off + 3 + 1, none⟩ = some d1 ∧ w'.cell? ⟨b, off + 3 + 2, none⟩ = some d2)
          (first | exact HSX.out _ hb2 | exact HSX.out _ hb1 | exact HSX.out _ (Below.refl _ _).drew)
          (first | (have hbq := hb1; clear hbq; go_at_call 19; refine (HN2.out _ (HBW.out.trans (hb1.mono HBW.out.size))).mono ?_; rintro e w2 ⟨rfl, hb2'⟩; have hb2 : Below W.heap.size W w2 := hb1.trans (hb2'.mono hb1.size); clear hb2') | (go_at_call 19; refine (HN.out _ (HBW.out.trans ((Em.held1 (by assumption)).mono HBW.out.size))).mono ?_; rintro e w1 ⟨rfl, hb1'⟩; have hb1 : Below W.heap.size W w1 := (Below.refl _ _).drew.trans hb1'; clear hb1'))
        go_wp2
        go_ret
        exact ⟨congrArg (fun z => Ending.returned (Value.string z)) HR.out.symm, HBW.out.trans (hb2.mono HBW.out.size)⟩
      · subst h
        obtain ⟨W, hW⟩ : ∃ W, W = w.alloc (.cells #[.string (Em.str [102, 117, 110]), .int .i64 0, .slice (some ⟨b, off, none⟩) 2 cap] 24) := ⟨_, rfl⟩
        have hbW : Below w.heap.size w W := by rw [hW]; exact HBE.out
        have HSX : Hid (∀ w', Below W.heap.size W w' → Below W.heap.size W w' ∧ w'.cell? ⟨w.heap.size, 2, none⟩ = some (.slice (some ⟨b, off, none⟩) 2 cap) ∧ w'.cell? ⟨b, off, none⟩ = some c0 ∧ w'.cell? ⟨b, off + 1, none⟩ = some c1 ∧ w'.cell? ⟨b, off + 2, none⟩ = some c2 ∧ w'.cell? ⟨b, off + 3, none⟩ = some d0 ∧ w'.cell? ⟨b, off + 3 + 1, none⟩ = some d1 ∧ w'.cell? ⟨b, off + 3 + 2, none⟩ = some d2) := fun w' h => by
          have key : ∀ g o, g < W.heap.size → w'.cell? ⟨g, o, none⟩ = W.cell? ⟨g, o, none⟩ := fun g o hg => h.cell (p := ⟨g, o, none⟩) hg
          have key2 : ∀ o, W.cell? ⟨b, o, none⟩ = w.cell? ⟨b, o, none⟩ := fun o => hbW.cell (p := ⟨b, o, none⟩) hb
          have hbr : b < W.heap.size := Nat.lt_of_lt_of_le hb hbW.size
          have hwz : w.heap.size < W.heap.size := by rw [hW]; simp
          refine ⟨h, ?_, ?_, ?_, ?_, ?_, ?_, ?_⟩
          · rw [key _ _ hwz, hW]; simp
          · rw [key _ _ hbr, key2]; exact k0
          · rw [key _ _ hbr, key2]; exact k1
          · rw [key _ _ hbr, key2]; exact k2
          · rw [key _ _ hbr, key2]; exact m0
          · rw [key _ _ hbr, key2]; exact m1
          · rw [key _ _ hbr, key2]; exact m2
        have HBW : Hid (Below w.heap.size w W) := hbW
        have hl1 := HLEN.out
        have hl2 := HLEN2.out
        have hsA : ¬ 9223372036854775807 < (Em.str [40]).size + (Em.str (Em8.tshow x)).size := by rw [str_size, str_size]; simp; omega
        have hsA' : ¬ 9223372036854775807 < (⟨#[40]⟩ : ByteArray).size + (Em.str (Em8.tshow x)).size := hsA
        have hsB : ¬ 9223372036854775807 < (Em.str [40] ++ Em.str (Em8.tshow x)).size + (Em.str [32, 45, 62, 32]).size := by rw [str_app, str_size, str_size]; simp; omega
        have hsB' : ¬ 9223372036854775807 < ((⟨#[40]⟩ : ByteArray) ++ Em.str (Em8.tshow x)).size + (⟨#[32, 45, 62, 32]⟩ : ByteArray).size := hsB
        have hsC : ¬ 9223372036854775807 < (Em.str [40] ++ Em.str (Em8.tshow x) ++ Em.str [32, 45, 62, 32]).size + (Em.str (Em8.tshow y)).size := by rw [str_app, str_app, str_size, str_size]; simp; omega
        have hsC' : ¬ 9223372036854775807 < ((⟨#[40]⟩ : ByteArray) ++ Em.str (Em8.tshow x) ++ (⟨#[32, 45, 62, 32]⟩ : ByteArray)).size + (Em.str (Em8.tshow y)).size := hsC
        have hsD : ¬ 9223372036854775807 < (Em.str [40] ++ Em.str (Em8.tshow x) ++ Em.str [32, 45, 62, 32] ++ Em.str (Em8.tshow y)).size + (Em.str [41]).size := by rw [str_app, str_app, str_app, str_size, str_size]; simp; omega
        have hsD' : ¬ 9223372036854775807 < ((⟨#[40]⟩ : ByteArray) ++ Em.str (Em8.tshow x) ++ (⟨#[32, 45, 62, 32]⟩ : ByteArray) ++ Em.str (Em8.tshow y)).size + (⟨#[41]⟩ : ByteArray).size := hsD
        have hzA : ¬ 9223372036854775807 < 1 + (Em.str (Em8.tshow x)).size := by rw [str_size]; omega
        have hzB : ¬ 9223372036854775807 < 1 + (Em.str (Em8.tshow x)).size + 4 := by rw [str_size]; omega
        have hzC : ¬ 9223372036854775807 < 1 + (Em.str (Em8.tshow x)).size + 4 + (Em.str (Em8.tshow y)).size := by rw [str_size, str_size]; omega
        have hzD : ¬ 9223372036854775807 < 1 + (Em.str (Em8.tshow x)).size + 4 + (Em.str (Em8.tshow y)).size + 1 := by rw [str_size, str_size]; omega
        have HR : Hid (Em.str (Em8.tshow (.mk [102, 117, 110] 0 [x, y])) = (⟨#[40]⟩ : ByteArray) ++ Em.str (Em8.tshow x) ++ (⟨#[32, 45, 62, 32]⟩ : ByteArray) ++ Em.str (Em8.tshow y) ++ (⟨#[41]⟩ : ByteArray)) := by
          rw [Hid, Em8.tshow_eq]
          have e : ∀ L M N : List Int, Em.str ([40] ++ L ++ N ++ M ++ [41]) = Em.str [40] ++ Em.str L ++ Em.str N ++ Em.str M ++ Em.str [41] := fun L M N => by rw [str_app, str_app, str_app, str_app]
          exact e (Em8.tshow x) (Em8.tshow y) [32, 45, 62, 32]
        clear k0 k1 k2 m0 m1 m2 hb hbW hl1 hl2 hsA hsB hsC hsD
        go_enter Tryd.func19, Tryd.ntmps19
        go_wp2_with fail
        rw [← hW]
        clear hW
        go_region_held (fun w' => Below W.heap.size W w' ∧ w'.cell? ⟨w.heap.size, 2, none⟩ = some (.slice (some ⟨b, off, none⟩) 2 cap) ∧ w'.cell? ⟨b, off, none⟩ = some c0 ∧ w'.cell? ⟨b, off + 1, none⟩ = some c1 ∧ w'.cell? ⟨b, off + 2, none⟩ = some c2 ∧ w'.cell? ⟨b, off + 3, none⟩ = some d0 ∧ w'.cell? ⟨b, off + 3 + 1, none⟩ = some d1 ∧ w'.cell? ⟨b, off + 3 + 2, none⟩ = some d2)
          (first | exact HSX.out _ hb2 | exact HSX.out _ hb1 | exact HSX.out _ (Below.refl _ _).drew)
          (first | (have hbq := hb1; clear hbq; go_at_call 19; refine (HN2.out _ (HBW.out.trans (hb1.mono HBW.out.size))).mono ?_; rintro e w2 ⟨rfl, hb2'⟩; have hb2 : Below W.heap.size W w2 := hb1.trans (hb2'.mono hb1.size); clear hb2') | (go_at_call 19; refine (HN.out _ (HBW.out.trans ((Em.held1 (by assumption)).mono HBW.out.size))).mono ?_; rintro e w1 ⟨rfl, hb1'⟩; have hb1 : Below W.heap.size W w1 := (Below.refl _ _).drew.trans hb1'; clear hb1'))
        go_wp2
        go_ret
        exact ⟨congrArg (fun z => Ending.returned (Value.string z)) HR.out.symm, HBW.out.trans (hb2.mono HBW.out.size)⟩
end Go.Proofs.YtcpimmapdhmoiaaDoor

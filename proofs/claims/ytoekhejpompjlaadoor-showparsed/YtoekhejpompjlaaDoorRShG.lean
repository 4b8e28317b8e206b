/- Several texts in one: RShA, RShB. -/
import Derived.Test.YtoekhejpompjlaaDoorProg
import Derived.Test.YtoekhejpompjlaaDoorPureC
import Derived.Test.YtoekhejpompjlaaDoorPureA
import Derived.WalkKit
import Derived.WalkSpells
import Derived.WalkLawsBesides
import Derived.Deep.RegionHeld
namespace Go.Proofs.YtoekhejpompjlaaDoor
open Go.RowKit
set_option linter.unusedSimpArgs false

theorem isBytes_one7 (w : World) (x : Int) (t : TypeId) (hx : 0 ≤ x ∧ x ≤ 255) : Em.IsBytes (w.alloc (.cells #[.int .u8 x] t)) (.slice (some ⟨w.heap.size, 0, none⟩) 1 1) [x] := by
  refine ⟨some ⟨w.heap.size, 0, none⟩, 1, rfl, ?_⟩
  simp [maxLen]
  exact ⟨hx, by simp [Addr.add]⟩
theorem str_size7 (L : List Int) : (Em.str L).size = L.length := by simp [Em.str, ByteArray.size]
theorem str_app7 (L M : List Int) : Em.str L ++ Em.str M = Em.str (L ++ M) := by
  unfold Em.str
  rw [List.map_append]
  rfl

set_option maxRecDepth 100000 in
set_option maxHeartbeats 1000000 in
theorem sdigits_any (n : Nat) : ∀ (w : World), n ≤ 9223372036854775807 →
    Calls Tryd.prog 19 #[.int .i64 n] w fun e w' => e = .returned (.string (Em.str (Em7.digs n))) ∧ Below w.heap.size w w' := by
  induction n using Nat.strongRecOn with
  | ind n ih =>
    intro w hn
    have hc : (convert 35 9 (.slice (some ⟨w.heap.size, 0, none⟩) 1 1)).run Tryd.prog (w.alloc (.cells #[.int .u8 (48 + (n : Int) % 10)] 5)) = .ok (.string (Em.str [48 + (n : Int) % 10])) (w.alloc (.cells #[.int .u8 (48 + (n : Int) % 10)] 5)) :=
      Em.run_str 35 9 5 Tryd.underlying35 Tryd.underlying5 Tryd.underlying9 (isBytes_one7 w _ _ (by omega))
    have HBE : Hid (Below w.heap.size w (w.alloc (.cells #[.int .u8 (48 + (n : Int) % 10)] 5))) := (Below.refl _ _).alloc (Nat.le_refl _) _
    by_cases h10 : n < 10
    · have HR : Hid (Em7.digs n = [48 + (n : Int) % 10]) := by rw [Hid, Em7.digs_lt h10]; rfl
      go_enter Tryd.func19, Tryd.ntmps19
      go_wp2
      go_ret
      exact ⟨by rw [HR.out]; rfl, HBE.out⟩
    · have HR : Hid (Em7.digs n = Em7.digs (n / 10) ++ [48 + (n : Int) % 10]) := by rw [Hid, Em7.digs_ge h10 hn]; rfl
      have HI : Hid (∀ (w : World), Calls Tryd.prog 19 #[.int .i64 ((n / 10 : Nat) : Int)] w fun e w' => e = .returned (.string (Em.str (Em7.digs (n / 10)))) ∧ Below w.heap.size w w') := fun w => ih (n / 10) (by omega) w (by omega)
      clear ih
      have hdiv : (n : Int).tdiv 10 = ((n / 10 : Nat) : Int) := by rw [Int.tdiv_eq_ediv_of_nonneg (by omega)]; simp
      go_enter Tryd.func19, Tryd.ntmps19
      go_wp2_with fail
      refine (HI.out _).mono ?_
      rintro e w1 ⟨rfl, hb1⟩
      have HB1 : Hid (Below w.heap.size w w1) := HBE.out.trans (hb1.mono HBE.out.size)
      clear hb1 hc
      have hsz : ¬ 9223372036854775807 < (Em.str (Em7.digs (n / 10))).size + (Em.str [48 + (n : Int) % 10]).size := by
        have := (Em7.digs_len (n := n / 10) (by omega)).1
        rw [str_size7, str_size7]; simp; omega
      go_wp2
      go_ret
      exact ⟨by rw [HR.out, ← str_app7]; rfl, HB1.out⟩

set_option maxRecDepth 100000 in
set_option maxHeartbeats 2000000 in
theorem ssign_any (op : List Int) (w : World) (h : ∀ x ∈ op, 0 ≤ x ∧ x ≤ 255) :
    Calls Tryd.prog 31 #[.string (Em.str op)] w fun e w' => e = .returned (.string (Em.str (Em7.signOf op))) ∧ w' = w := by
  have hq := Em5.str_eq h
  have q1 : ((Em.str op).toList == [115, 101, 113]) = decide (op = Em5.oSeq) := hq [115, 101, 113]
  have q2 : ((Em.str op).toList == [115, 101, 116]) = decide (op = Em5.oSet) := hq [115, 101, 116]
  have q3 : ((Em.str op).toList == [101, 113]) = decide (op = Em5.oEq) := hq [101, 113]
  have q4 : ((Em.str op).toList == [108, 101, 115, 115]) = decide (op = Em5.oLess) := hq [108, 101, 115, 115]
  have q5 : ((Em.str op).toList == [99, 111, 110, 115]) = decide (op = Em5.oCons) := hq [99, 111, 110, 115]
  have q6 : ((Em.str op).toList == [97, 100, 100]) = decide (op = Em5.oAdd) := hq [97, 100, 100]
  have q7 : ((Em.str op).toList == [115, 117, 98]) = decide (op = Em5.oSub) := hq [115, 117, 98]
  have q8 : ((Em.str op).toList == [99, 97, 116]) = decide (op = Em5.oCat) := hq [99, 97, 116]
  have q9 : ((Em.str op).toList == [109, 117, 108]) = decide (op = Em5.oMul) := hq [109, 117, 108]
  have q10 : ((Em.str op).toList == [97, 112, 112]) = decide (op = Em5.oApp) := hq [97, 112, 112]
  unfold Em7.signOf
  clear hq h
  by_cases h1 : op = Em5.oSeq
  · rw [if_pos h1]; rw [decide_eq_true h1] at q1; clear h1 q2 q3 q4 q5 q6 q7 q8 q9 q10
    go_enter Tryd.func31, Tryd.ntmps31
    go_wp2; go_ret; exact ⟨rfl, rfl⟩
  rw [if_neg h1]; rw [decide_eq_false h1] at q1; clear h1
  by_cases h1 : op = Em5.oSet
  · rw [if_pos h1]; rw [decide_eq_true h1] at q2; clear h1 q3 q4 q5 q6 q7 q8 q9 q10
    go_enter Tryd.func31, Tryd.ntmps31
    go_wp2; go_ret; exact ⟨rfl, rfl⟩
  rw [if_neg h1]; rw [decide_eq_false h1] at q2; clear h1
  by_cases h1 : op = Em5.oEq
  · rw [if_pos h1]; rw [decide_eq_true h1] at q3; clear h1 q4 q5 q6 q7 q8 q9 q10
    go_enter Tryd.func31, Tryd.ntmps31
    go_wp2; go_ret; exact ⟨rfl, rfl⟩
  rw [if_neg h1]; rw [decide_eq_false h1] at q3; clear h1
  by_cases h1 : op = Em5.oLess
  · rw [if_pos h1]; rw [decide_eq_true h1] at q4; clear h1 q5 q6 q7 q8 q9 q10
    go_enter Tryd.func31, Tryd.ntmps31
    go_wp2; go_ret; exact ⟨rfl, rfl⟩
  rw [if_neg h1]; rw [decide_eq_false h1] at q4; clear h1
  by_cases h1 : op = Em5.oCons
  · rw [if_pos h1]; rw [decide_eq_true h1] at q5; clear h1 q6 q7 q8 q9 q10
    go_enter Tryd.func31, Tryd.ntmps31
    go_wp2; go_ret; exact ⟨rfl, rfl⟩
  rw [if_neg h1]; rw [decide_eq_false h1] at q5; clear h1
  by_cases h1 : op = Em5.oAdd
  · rw [if_pos h1]; rw [decide_eq_true h1] at q6; clear h1 q7 q8 q9 q10
    go_enter Tryd.func31, Tryd.ntmps31
    go_wp2; go_ret; exact ⟨rfl, rfl⟩
  rw [if_neg h1]; rw [decide_eq_false h1] at q6; clear h1
  by_cases h1 : op = Em5.oSub
  · rw [if_pos h1]; rw [decide_eq_true h1] at q7; clear h1 q8 q9 q10
    go_enter Tryd.func31, Tryd.ntmps31
    go_wp2; go_ret; exact ⟨rfl, rfl⟩
  rw [if_neg h1]; rw [decide_eq_false h1] at q7; clear h1
  by_cases h1 : op = Em5.oCat
  · rw [if_pos h1]; rw [decide_eq_true h1] at q8; clear h1 q9 q10
    go_enter Tryd.func31, Tryd.ntmps31
    go_wp2; go_ret; exact ⟨rfl, rfl⟩
  rw [if_neg h1]; rw [decide_eq_false h1] at q8; clear h1
  by_cases h1 : op = Em5.oMul
  · rw [if_pos h1]; rw [decide_eq_true h1] at q9; clear h1 q10
    go_enter Tryd.func31, Tryd.ntmps31
    go_wp2; go_ret; exact ⟨rfl, rfl⟩
  rw [if_neg h1]; rw [decide_eq_false h1] at q9; clear h1
  by_cases h1 : op = Em5.oApp
  · rw [if_pos h1]; rw [decide_eq_true h1] at q10; clear h1
    go_enter Tryd.func31, Tryd.ntmps31
    go_wp2; go_ret; exact ⟨rfl, rfl⟩
  rw [if_neg h1]; rw [decide_eq_false h1] at q10; clear h1
  go_enter Tryd.func31, Tryd.ntmps31
  go_wp2; go_ret; exact ⟨rfl, rfl⟩
end Go.Proofs.YtoekhejpompjlaaDoor

namespace Go.Proofs.YtoekhejpompjlaaDoor
open Go.RowKit
set_option linter.unusedSimpArgs false

set_option maxRecDepth 100000 in
set_option maxHeartbeats 8000000 in
theorem sinner_any (op nm ar : List Int) (n p : Int) (l : List Em5.Nd) (hi : ∀ t ∈ l, ∀ (v : Value) (w : World), Em5.IsNd w t v → Calls Tryd.prog 10 #[v] w fun e w' => e = .returned (.string (Em.str (Em7.text t))) ∧ Below w.heap.size w w')
    (he : Em5.each (.mk op nm ar n p l) = true) (htl : ∀ t ∈ l, (Em7.text t).length ≤ 300000) (v : Value) (w : World) (hv : Em5.IsNd w (.mk op nm ar n p l) v) :
    Calls Tryd.prog 20 #[v] w fun e w' => e = .returned (.string (Em.str (Em7.innerB op nm ar (Em7.texts l)))) ∧ Below w.heap.size w w' := by
  have HI : Hid (∀ t ∈ l, ∀ (v : Value) (w : World), Em5.IsNd w t v → Calls Tryd.prog 10 #[v] w fun e w' => e = .returned (.string (Em.str (Em7.text t))) ∧ Below w.heap.size w w') := hi
  have HTL : Hid (∀ t ∈ l, (Em7.text t).length ≤ 300000) := htl
  obtain ⟨ho5, hn40, ha40, hkn⟩ := Em7.each_cases he
  unfold Em5.IsNd at hv
  obtain ⟨a, cap, rfl, t1, t2, t3, t4, t5, hc1, hc2, hk⟩ := hv
  have HT1 : Hid (∀ x ∈ op, 0 ≤ x ∧ x ≤ 255) := t1.1
  have hq := Em5.str_eq t1.1
  clear hi htl he t1 t2 t3 t4 t5
  by_cases hsg : Em7.signOf op = []
  · have hse : ((Em.str []).toList == []) = true := by rw [Em5.str_eq (by simp) []]; rfl
    have hse' : ((Em.str []).toList != []) = false := by rw [bne, hse]; rfl
    have HSG : Hid (Em7.signOf op = []) := hsg
    clear hsg
    have q_fun : ((Em.str op).toList == [102, 117, 110]) = decide (op = Em5.oFun) := hq [102, 117, 110]
    have q_let : ((Em.str op).toList == [108, 101, 116]) = decide (op = Em5.oLet) := hq [108, 101, 116]
    have q_rec : ((Em.str op).toList == [114, 101, 99]) = decide (op = Em5.oRec) := hq [114, 101, 99]
    have q_if : ((Em.str op).toList == [105, 102]) = decide (op = Em5.oIf) := hq [105, 102]
    have q_match : ((Em.str op).toList == [109, 97, 116, 99, 104]) = decide (op = Em5.oMatch) := hq [109, 97, 116, 99, 104]
    have q_try : ((Em.str op).toList == [116, 114, 121]) = decide (op = Em5.oTry) := hq [116, 114, 121]
    clear hq
    by_cases h1 : op = Em5.oFun
    · have hl2 : l.length = 1 := by rw [h1, show Em5.kidsN Em5.oFun = 1 from by decide] at hkn; omega
      obtain ⟨x, rfl⟩ : ∃ x, l = [x] := by
        match l, hl2 with
        | [x], _ => exact ⟨x, rfl⟩
      rw [decide_eq_true h1] at q_fun
      have HO : Hid (op = Em5.oFun) := h1
      clear hl2 hkn h1 q_let q_rec q_if q_match q_try
      obtain ⟨b, off, rfl, hb, hat⟩ := hk (by simp)
      obtain ⟨c0, c1, c2, c3, c4, c5, ck0, ck1, ck2, ck3, ck4, ck5, cn⟩ := Em5.kidsAt_get _ off 0 x hat rfl
      simp only [Nat.zero_mul, Nat.add_zero, Nat.one_mul, Nat.reduceMul] at ck0 ck1 ck2 ck3 ck4 ck5
      have HN1 : Hid (∀ w', Below w.heap.size w w' → Calls Tryd.prog 10 #[.agg #[c0, c1, c2, c3, c4, c5]] w' fun e w2 => e = .returned (.string (Em.str (Em7.text x))) ∧ Below w'.heap.size w' w2) := fun w' h => HI.out x (by simp) _ w' (Em5.isNd_below h x _ cn)
      have hl1 : (Em7.text x).length ≤ 300000 := HTL.out x (by simp)
      clear hat HI HTL cn
      obtain ⟨W, hW⟩ : ∃ W, W = w.alloc (.cells #[.string (Em.str op), .string (Em.str nm), .string (Em.str ar), .int .i64 n, .int .i64 p, .slice (some ⟨b, off, none⟩) 1 cap] 24) := ⟨_, rfl⟩
      have hbW : Below w.heap.size w W := by rw [hW]; exact (Below.refl _ _).alloc (Nat.le_refl _) _
      have HSX : Hid (∀ w', Below W.heap.size W w' → Below W.heap.size W w' ∧ w'.cell? ⟨w.heap.size, 1, none⟩ = some (.string (Em.str nm)) ∧ w'.cell? ⟨w.heap.size, 5, none⟩ = some (.slice (some ⟨b, off, none⟩) 1 cap) ∧ w'.cell? ⟨b, off, none⟩ = some c0 ∧ w'.cell? ⟨b, off + 1, none⟩ = some c1 ∧ w'.cell? ⟨b, off + 2, none⟩ = some c2 ∧ w'.cell? ⟨b, off + 3, none⟩ = some c3 ∧ w'.cell? ⟨b, off + 4, none⟩ = some c4 ∧ w'.cell? ⟨b, off + 5, none⟩ = some c5) := fun w' h => by
        have key : ∀ g o, g < W.heap.size → w'.cell? ⟨g, o, none⟩ = W.cell? ⟨g, o, none⟩ := fun g o hg => h.cell (p := ⟨g, o, none⟩) hg
        have key2 : ∀ o, W.cell? ⟨b, o, none⟩ = w.cell? ⟨b, o, none⟩ := fun o => hbW.cell (p := ⟨b, o, none⟩) hb
        have hbr : b < W.heap.size := Nat.lt_of_lt_of_le hb hbW.size
        have hwz : w.heap.size < W.heap.size := by rw [hW]; simp
        refine ⟨h, ?_, ?_, ?_, ?_, ?_, ?_, ?_, ?_⟩
        · rw [key _ _ hwz, hW]; simp
        · rw [key _ _ hwz, hW]; simp
        · rw [key _ _ hbr, key2]; exact ck0
        · rw [key _ _ hbr, key2]; exact ck1
        · rw [key _ _ hbr, key2]; exact ck2
        · rw [key _ _ hbr, key2]; exact ck3
        · rw [key _ _ hbr, key2]; exact ck4
        · rw [key _ _ hbr, key2]; exact ck5
      have HBW : Hid (Below w.heap.size w W) := hbW
      have hz2 : ¬ 9223372036854775807 < 4 + (Em.str nm).size := by simp only [str_size7]; omega
      have hz3 : ¬ 9223372036854775807 < 4 + (Em.str nm).size + 4 := by simp only [str_size7]; omega
      have hz4 : ¬ 9223372036854775807 < 4 + (Em.str nm).size + 4 + (Em.str (Em7.text x)).size := by simp only [str_size7]; omega
      have HR : Hid (Em.str (Em7.innerB op nm ar (Em7.texts [x])) = (⟨#[102, 117, 110, 32]⟩ : ByteArray) ++ Em.str nm ++ (⟨#[32, 45, 62, 32]⟩ : ByteArray) ++ Em.str (Em7.text x)) := by
        rw [Hid, Em7.innerB, if_neg (fun h => h HSG.out), if_pos HO.out, Em7.texts_get [x] 0 x rfl, ← str_app7, ← str_app7, ← str_app7]
        rfl
      clear ck0 ck1 ck2 ck3 ck4 ck5 hb hbW
      go_enter Tryd.func20, Tryd.ntmps20
      go_wp2_with fail
      refine (ssign_any op _ HT1.out).mono ?_
      rintro e w0 ⟨rfl, rfl⟩
      rw [HSG.out]
      go_wp2_with fail
      rw [← hW]
      clear hW
      go_region_held (fun w' => Below W.heap.size W w' ∧ w'.cell? ⟨w.heap.size, 1, none⟩ = some (.string (Em.str nm)) ∧ w'.cell? ⟨w.heap.size, 5, none⟩ = some (.slice (some ⟨b, off, none⟩) 1 cap) ∧ w'.cell? ⟨b, off, none⟩ = some c0 ∧ w'.cell? ⟨b, off + 1, none⟩ = some c1 ∧ w'.cell? ⟨b, off + 2, none⟩ = some c2 ∧ w'.cell? ⟨b, off + 3, none⟩ = some c3 ∧ w'.cell? ⟨b, off + 4, none⟩ = some c4 ∧ w'.cell? ⟨b, off + 5, none⟩ = some c5)
        (first | with_reducible exact HSX.out _ hb1 | with_reducible exact HSX.out _ (Below.refl _ _).drew)
        (first | (go_at_call 10; refine (HN1.out _ (HBW.out.trans ((Em.held1 (by assumption)).mono HBW.out.size))).mono ?_; rintro e w1 ⟨rfl, hb'⟩; have hb1 : Below W.heap.size W w1 := (Below.refl _ _).drew.trans hb'; clear hb'))
      go_wp2
      go_ret
      exact ⟨congrArg (fun z => Ending.returned (Value.string z)) HR.out.symm, HBW.out.trans (hb1.mono HBW.out.size)⟩
    rw [decide_eq_false h1] at q_fun
    have HX0 : Hid (¬ op = Em5.oFun) := h1
    clear h1
    by_cases h1 : op = Em5.oLet
    · have hl2 : l.length = 2 := by rw [h1, show Em5.kidsN Em5.oLet = 2 from by decide] at hkn; omega
      obtain ⟨x, y, rfl⟩ : ∃ x y, l = [x, y] := by
        match l, hl2 with
        | [x, y], _ => exact ⟨x, y, rfl⟩
      rw [decide_eq_true h1] at q_let
      have HO : Hid (op = Em5.oLet) := h1
      clear hl2 hkn h1 q_rec q_if q_match q_try
      obtain ⟨b, off, rfl, hb, hat⟩ := hk (by simp)
      obtain ⟨c0, c1, c2, c3, c4, c5, ck0, ck1, ck2, ck3, ck4, ck5, cn⟩ := Em5.kidsAt_get _ off 0 x hat rfl
      simp only [Nat.zero_mul, Nat.add_zero, Nat.one_mul, Nat.reduceMul] at ck0 ck1 ck2 ck3 ck4 ck5
      have HN1 : Hid (∀ w', Below w.heap.size w w' → Calls Tryd.prog 10 #[.agg #[c0, c1, c2, c3, c4, c5]] w' fun e w2 => e = .returned (.string (Em.str (Em7.text x))) ∧ Below w'.heap.size w' w2) := fun w' h => HI.out x (by simp) _ w' (Em5.isNd_below h x _ cn)
      have hl1 : (Em7.text x).length ≤ 300000 := HTL.out x (by simp)
      obtain ⟨d0, d1, d2, d3, d4, d5, dk0, dk1, dk2, dk3, dk4, dk5, dn⟩ := Em5.kidsAt_get _ off 1 y hat rfl
      simp only [Nat.zero_mul, Nat.add_zero, Nat.one_mul, Nat.reduceMul] at dk0 dk1 dk2 dk3 dk4 dk5
      have HN2 : Hid (∀ w', Below w.heap.size w w' → Calls Tryd.prog 10 #[.agg #[d0, d1, d2, d3, d4, d5]] w' fun e w2 => e = .returned (.string (Em.str (Em7.text y))) ∧ Below w'.heap.size w' w2) := fun w' h => HI.out y (by simp) _ w' (Em5.isNd_below h y _ dn)
      have hl2 : (Em7.text y).length ≤ 300000 := HTL.out y (by simp)
      clear hat HI HTL cn dn
      obtain ⟨W, hW⟩ : ∃ W, W = w.alloc (.cells #[.string (Em.str op), .string (Em.str nm), .string (Em.str ar), .int .i64 n, .int .i64 p, .slice (some ⟨b, off, none⟩) 2 cap] 24) := ⟨_, rfl⟩
      have hbW : Below w.heap.size w W := by rw [hW]; exact (Below.refl _ _).alloc (Nat.le_refl _) _
      have HSX : Hid (∀ w', Below W.heap.size W w' → Below W.heap.size W w' ∧ w'.cell? ⟨w.heap.size, 1, none⟩ = some (.string (Em.str nm)) ∧ w'.cell? ⟨w.heap.size, 5, none⟩ = some (.slice (some ⟨b, off, none⟩) 2 cap) ∧ w'.cell? ⟨b, off, none⟩ = some c0 ∧ w'.cell? ⟨b, off + 1, none⟩ = some c1 ∧ w'.cell? ⟨b, off + 2, none⟩ = some c2 ∧ w'.cell? ⟨b, off + 3, none⟩ = some c3 ∧ w'.cell? ⟨b, off + 4, none⟩ = some c4 ∧ w'.cell? ⟨b, off + 5, none⟩ = some c5 ∧ w'.cell? ⟨b, off + 6, none⟩ = some d0 ∧ w'.cell? ⟨b, off + 6 + 1, none⟩ = some d1 ∧ w'.cell? ⟨b, off + 6 + 2, none⟩ = some d2 ∧ w'.cell? ⟨b, off + 6 + 3, none⟩ = some d3 ∧ w'.cell? ⟨b, off + 6 + 4, none⟩ = some d4 ∧ w'.cell? ⟨b, off + 6 + 5, none⟩ = some d5) := fun w' h => by
        have key : ∀ g o, g < W.heap.size → w'.cell? ⟨g, o, none⟩ = W.cell? ⟨g, o, none⟩ := fun g o hg => h.cell (p := ⟨g, o, none⟩) hg
        have key2 : ∀ o, W.cell? ⟨b, o, none⟩ = w.cell? ⟨b, o, none⟩ := fun o => hbW.cell (p := ⟨b, o, none⟩) hb
        have hbr : b < W.heap.size := Nat.lt_of_lt_of_le hb hbW.size
        have hwz : w.heap.size < W.heap.size := by rw [hW]; simp
        refine ⟨h, ?_, ?_, ?_, ?_, ?_, ?_, ?_, ?_, ?_, ?_, ?_, ?_, ?_, ?_⟩
        · rw [key _ _ hwz, hW]; simp
        · rw [key _ _ hwz, hW]; simp
        · rw [key _ _ hbr, key2]; exact ck0
        · rw [key _ _ hbr, key2]; exact ck1
        · rw [key _ _ hbr, key2]; exact ck2
        · rw [key _ _ hbr, key2]; exact ck3
        · rw [key _ _ hbr, key2]; exact ck4
        · rw [key _ _ hbr, key2]; exact ck5
        · rw [key _ _ hbr, key2]; exact dk0
        · rw [key _ _ hbr, key2]; exact dk1
        · rw [key _ _ hbr, key2]; exact dk2
        · rw [key _ _ hbr, key2]; exact dk3
        · rw [key _ _ hbr, key2]; exact dk4
        · rw [key _ _ hbr, key2]; exact dk5
      have HBW : Hid (Below w.heap.size w W) := hbW
      have hz2 : ¬ 9223372036854775807 < 4 + (Em.str nm).size := by simp only [str_size7]; omega
      have hz3 : ¬ 9223372036854775807 < 4 + (Em.str nm).size + 3 := by simp only [str_size7]; omega
      have hz4 : ¬ 9223372036854775807 < 4 + (Em.str nm).size + 3 + (Em.str (Em7.text x)).size := by simp only [str_size7]; omega
      have hz5 : ¬ 9223372036854775807 < 4 + (Em.str nm).size + 3 + (Em.str (Em7.text x)).size + 4 := by simp only [str_size7]; omega
      have hz6 : ¬ 9223372036854775807 < 4 + (Em.str nm).size + 3 + (Em.str (Em7.text x)).size + 4 + (Em.str (Em7.text y)).size := by simp only [str_size7]; omega
      have HR : Hid (Em.str (Em7.innerB op nm ar (Em7.texts [x, y])) = (⟨#[108, 101, 116, 32]⟩ : ByteArray) ++ Em.str nm ++ (⟨#[32, 61, 32]⟩ : ByteArray) ++ Em.str (Em7.text x) ++ (⟨#[32, 105, 110, 32]⟩ : ByteArray) ++ Em.str (Em7.text y)) := by
        rw [Hid, Em7.innerB, if_neg (fun h => h HSG.out), if_neg HX0.out, if_pos HO.out, Em7.texts_get [x, y] 0 x rfl, Em7.texts_get [x, y] 1 y rfl, ← str_app7, ← str_app7, ← str_app7, ← str_app7, ← str_app7]
        rfl
      clear ck0 ck1 ck2 ck3 ck4 ck5 dk0 dk1 dk2 dk3 dk4 dk5 hb hbW
      go_enter Tryd.func20, Tryd.ntmps20
      go_wp2_with fail
      refine (ssign_any op _ HT1.out).mono ?_
      rintro e w0 ⟨rfl, rfl⟩
      rw [HSG.out]
      go_wp2_with fail
      rw [← hW]
      clear hW
      go_region_held (fun w' => Below W.heap.size W w' ∧ w'.cell? ⟨w.heap.size, 1, none⟩ = some (.string (Em.str nm)) ∧ w'.cell? ⟨w.heap.size, 5, none⟩ = some (.slice (some ⟨b, off, none⟩) 2 cap) ∧ w'.cell? ⟨b, off, none⟩ = some c0 ∧ w'.cell? ⟨b, off + 1, none⟩ = some c1 ∧ w'.cell? ⟨b, off + 2, none⟩ = some c2 ∧ w'.cell? ⟨b, off + 3, none⟩ = some c3 ∧ w'.cell? ⟨b, off + 4, none⟩ = some c4 ∧ w'.cell? ⟨b, off + 5, none⟩ = some c5 ∧ w'.cell? ⟨b, off + 6, none⟩ = some d0 ∧ w'.cell? ⟨b, off + 6 + 1, none⟩ = some d1 ∧ w'.cell? ⟨b, off + 6 + 2, none⟩ = some d2 ∧ w'.cell? ⟨b, off + 6 + 3, none⟩ = some d3 ∧ w'.cell? ⟨b, off + 6 + 4, none⟩ = some d4 ∧ w'.cell? ⟨b, off + 6 + 5, none⟩ = some d5)
        (first | with_reducible exact HSX.out _ hb2 | with_reducible exact HSX.out _ hb1 | with_reducible exact HSX.out _ (Below.refl _ _).drew)
        (first | (go_at_call 10; have hbq := hb1; clear hbq; refine (HN2.out _ (HBW.out.trans ((Em.held1 (by assumption)).mono HBW.out.size))).mono ?_; rintro e w2 ⟨rfl, hb'⟩; have hb2 : Below W.heap.size W w2 := hb1.trans (hb'.mono hb1.size); clear hb') | (go_at_call 10; refine (HN1.out _ (HBW.out.trans ((Em.held1 (by assumption)).mono HBW.out.size))).mono ?_; rintro e w1 ⟨rfl, hb'⟩; have hb1 : Below W.heap.size W w1 := (Below.refl _ _).drew.trans hb'; clear hb'))
      go_wp2
      go_ret
      exact ⟨congrArg (fun z => Ending.returned (Value.string z)) HR.out.symm, HBW.out.trans (hb2.mono HBW.out.size)⟩
    rw [decide_eq_false h1] at q_let
    have HX1 : Hid (¬ op = Em5.oLet) := h1
    clear h1
    by_cases h1 : op = Em5.oRec
    · have hl2 : l.length = 2 := by rw [h1, show Em5.kidsN Em5.oRec = 2 from by decide] at hkn; omega
      obtain ⟨x, y, rfl⟩ : ∃ x y, l = [x, y] := by
        match l, hl2 with
        | [x, y], _ => exact ⟨x, y, rfl⟩
      rw [decide_eq_true h1] at q_rec
      have HO : Hid (op = Em5.oRec) := h1
      clear hl2 hkn h1 q_if q_match q_try
      obtain ⟨b, off, rfl, hb, hat⟩ := hk (by simp)
      obtain ⟨c0, c1, c2, c3, c4, c5, ck0, ck1, ck2, ck3, ck4, ck5, cn⟩ := Em5.kidsAt_get _ off 0 x hat rfl
      simp only [Nat.zero_mul, Nat.add_zero, Nat.one_mul, Nat.reduceMul] at ck0 ck1 ck2 ck3 ck4 ck5
      have HN1 : Hid (∀ w', Below w.heap.size w w' → Calls Tryd.prog 10 #[.agg #[c0, c1, c2, c3, c4, c5]] w' fun e w2 => e = .returned (.string (Em.str (Em7.text x))) ∧ Below w'.heap.size w' w2) := fun w' h => HI.out x (by simp) _ w' (Em5.isNd_below h x _ cn)
      have hl1 : (Em7.text x).length ≤ 300000 := HTL.out x (by simp)
      obtain ⟨d0, d1, d2, d3, d4, d5, dk0, dk1, dk2, dk3, dk4, dk5, dn⟩ := Em5.kidsAt_get _ off 1 y hat rfl
      simp only [Nat.zero_mul, Nat.add_zero, Nat.one_mul, Nat.reduceMul] at dk0 dk1 dk2 dk3 dk4 dk5
      have HN2 : Hid (∀ w', Below w.heap.size w w' → Calls Tryd.prog 10 #[.agg #[d0, d1, d2, d3, d4, d5]] w' fun e w2 => e = .returned (.string (Em.str (Em7.text y))) ∧ Below w'.heap.size w' w2) := fun w' h => HI.out y (by simp) _ w' (Em5.isNd_below h y _ dn)
      have hl2 : (Em7.text y).length ≤ 300000 := HTL.out y (by simp)
      clear hat HI HTL cn dn
      obtain ⟨W, hW⟩ : ∃ W, W = w.alloc (.cells #[.string (Em.str op), .string (Em.str nm), .string (Em.str ar), .int .i64 n, .int .i64 p, .slice (some ⟨b, off, none⟩) 2 cap] 24) := ⟨_, rfl⟩
      have hbW : Below w.heap.size w W := by rw [hW]; exact (Below.refl _ _).alloc (Nat.le_refl _) _
      have HSX : Hid (∀ w', Below W.heap.size W w' → Below W.heap.size W w' ∧ w'.cell? ⟨w.heap.size, 1, none⟩ = some (.string (Em.str nm)) ∧ w'.cell? ⟨w.heap.size, 2, none⟩ = some (.string (Em.str ar)) ∧ w'.cell? ⟨w.heap.size, 5, none⟩ = some (.slice (some ⟨b, off, none⟩) 2 cap) ∧ w'.cell? ⟨b, off, none⟩ = some c0 ∧ w'.cell? ⟨b, off + 1, none⟩ = some c1 ∧ w'.cell? ⟨b, off + 2, none⟩ = some c2 ∧ w'.cell? ⟨b, off + 3, none⟩ = some c3 ∧ w'.cell? ⟨b, off + 4, none⟩ = some c4 ∧ w'.cell? ⟨b, off + 5, none⟩ = some c5 ∧ w'.cell? ⟨b, off + 6, none⟩ = some d0 ∧ w'.cell? ⟨b, off + 6 + 1, none⟩ = some d1 ∧ w'.cell? ⟨b, off + 6 + 2, none⟩ = some d2 ∧ w'.cell? ⟨b, off + 6 + 3, none⟩ = some d3 ∧ w'.cell? ⟨b, off + 6 + 4, none⟩ = some d4 ∧ w'.cell? ⟨b, off + 6 + 5, none⟩ = some d5) := fun w' h => by
        have key : ∀ g o, g < W.heap.size → w'.cell? ⟨g, o, none⟩ = W.cell? ⟨g, o, none⟩ := fun g o hg => h.cell (p := ⟨g, o, none⟩) hg
        have key2 : ∀ o, W.cell? ⟨b, o, none⟩ = w.cell? ⟨b, o, none⟩ := fun o => hbW.cell (p := ⟨b, o, none⟩) hb
        have hbr : b < W.heap.size := Nat.lt_of_lt_of_le hb hbW.size
        have hwz : w.heap.size < W.heap.size := by rw [hW]; simp
        refine ⟨h, ?_, ?_, ?_, ?_, ?_, ?_, ?_, ?_, ?_, ?_, ?_, ?_, ?_, ?_, ?_⟩
        · rw [key _ _ hwz, hW]; simp
        · rw [key _ _ hwz, hW]; simp
        · rw [key _ _ hwz, hW]; simp
        · rw [key _ _ hbr, key2]; exact ck0
        · rw [key _ _ hbr, key2]; exact ck1
        · rw [key _ _ hbr, key2]; exact ck2
        · rw [key _ _ hbr, key2]; exact ck3
        · rw [key _ _ hbr, key2]; exact ck4
        · rw [key _ _ hbr, key2]; exact ck5
        · rw [key _ _ hbr, key2]; exact dk0
        · rw [key _ _ hbr, key2]; exact dk1
        · rw [key _ _ hbr, key2]; exact dk2
        · rw [key _ _ hbr, key2]; exact dk3
        · rw [key _ _ hbr, key2]; exact dk4
        · rw [key _ _ hbr, key2]; exact dk5
      have HBW : Hid (Below w.heap.size w W) := hbW
      have hz2 : ¬ 9223372036854775807 < 8 + (Em.str nm).size := by simp only [str_size7]; omega
      have hz3 : ¬ 9223372036854775807 < 8 + (Em.str nm).size + 1 := by simp only [str_size7]; omega
      have hz4 : ¬ 9223372036854775807 < 8 + (Em.str nm).size + 1 + (Em.str ar).size := by simp only [str_size7]; omega
      have hz5 : ¬ 9223372036854775807 < 8 + (Em.str nm).size + 1 + (Em.str ar).size + 3 := by simp only [str_size7]; omega
      have hz6 : ¬ 9223372036854775807 < 8 + (Em.str nm).size + 1 + (Em.str ar).size + 3 + (Em.str (Em7.text x)).size := by simp only [str_size7]; omega
      have hz7 : ¬ 9223372036854775807 < 8 + (Em.str nm).size + 1 + (Em.str ar).size + 3 + (Em.str (Em7.text x)).size + 4 := by simp only [str_size7]; omega
      have hz8 : ¬ 9223372036854775807 < 8 + (Em.str nm).size + 1 + (Em.str ar).size + 3 + (Em.str (Em7.text x)).size + 4 + (Em.str (Em7.text y)).size := by simp only [str_size7]; omega
      have HR : Hid (Em.str (Em7.innerB op nm ar (Em7.texts [x, y])) = (⟨#[108, 101, 116, 32, 114, 101, 99, 32]⟩ : ByteArray) ++ Em.str nm ++ (⟨#[32]⟩ : ByteArray) ++ Em.str ar ++ (⟨#[32, 61, 32]⟩ : ByteArray) ++ Em.str (Em7.text x) ++ (⟨#[32, 105, 110, 32]⟩ : ByteArray) ++ Em.str (Em7.text y)) := by
        rw [Hid, Em7.innerB, if_neg (fun h => h HSG.out), if_neg HX0.out, if_neg HX1.out, if_pos HO.out, Em7.texts_get [x, y] 0 x rfl, Em7.texts_get [x, y] 1 y rfl, ← str_app7, ← str_app7, ← str_app7, ← str_app7, ← str_app7, ← str_app7, ← str_app7]
        rfl
      clear ck0 ck1 ck2 ck3 ck4 ck5 dk0 dk1 dk2 dk3 dk4 dk5 hb hbW
      go_enter Tryd.func20, Tryd.ntmps20
      go_wp2_with fail
      refine (ssign_any op _ HT1.out).mono ?_
      rintro e w0 ⟨rfl, rfl⟩
      rw [HSG.out]
      go_wp2_with fail
      rw [← hW]
      clear hW
      go_region_held (fun w' => Below W.heap.size W w' ∧ w'.cell? ⟨w.heap.size, 1, none⟩ = some (.string (Em.str nm)) ∧ w'.cell? ⟨w.heap.size, 2, none⟩ = some (.string (Em.str ar)) ∧ w'.cell? ⟨w.heap.size, 5, none⟩ = some (.slice (some ⟨b, off, none⟩) 2 cap) ∧ w'.cell? ⟨b, off, none⟩ = some c0 ∧ w'.cell? ⟨b, off + 1, none⟩ = some c1 ∧ w'.cell? ⟨b, off + 2, none⟩ = some c2 ∧ w'.cell? ⟨b, off + 3, none⟩ = some c3 ∧ w'.cell? ⟨b, off + 4, none⟩ = some c4 ∧ w'.cell? ⟨b, off + 5, none⟩ = some c5 ∧ w'.cell? ⟨b, off + 6, none⟩ = some d0 ∧ w'.cell? ⟨b, off + 6 + 1, none⟩ = some d1 ∧ w'.cell? ⟨b, off + 6 + 2, none⟩ = some d2 ∧ w'.cell? ⟨b, off + 6 + 3, none⟩ = some d3 ∧ w'.cell? ⟨b, off + 6 + 4, none⟩ = some d4 ∧ w'.cell? ⟨b, off + 6 + 5, none⟩ = some d5)
        (first | with_reducible exact HSX.out _ hb2 | with_reducible exact HSX.out _ hb1 | with_reducible exact HSX.out _ (Below.refl _ _).drew)
        (first | (go_at_call 10; have hbq := hb1; clear hbq; refine (HN2.out _ (HBW.out.trans ((Em.held1 (by assumption)).mono HBW.out.size))).mono ?_; rintro e w2 ⟨rfl, hb'⟩; have hb2 : Below W.heap.size W w2 := hb1.trans (hb'.mono hb1.size); clear hb') | (go_at_call 10; refine (HN1.out _ (HBW.out.trans ((Em.held1 (by assumption)).mono HBW.out.size))).mono ?_; rintro e w1 ⟨rfl, hb'⟩; have hb1 : Below W.heap.size W w1 := (Below.refl _ _).drew.trans hb'; clear hb'))
      go_wp2
      go_ret
      exact ⟨congrArg (fun z => Ending.returned (Value.string z)) HR.out.symm, HBW.out.trans (hb2.mono HBW.out.size)⟩
    rw [decide_eq_false h1] at q_rec
    have HX2 : Hid (¬ op = Em5.oRec) := h1
    clear h1
    by_cases h1 : op = Em5.oIf
    · have hl2 : l.length = 3 := by rw [h1, show Em5.kidsN Em5.oIf = 3 from by decide] at hkn; omega
      obtain ⟨x, y, z, rfl⟩ : ∃ x y z, l = [x, y, z] := by
        match l, hl2 with
        | [x, y, z], _ => exact ⟨x, y, z, rfl⟩
      rw [decide_eq_true h1] at q_if
      have HO : Hid (op = Em5.oIf) := h1
      clear hl2 hkn h1 q_match q_try
      obtain ⟨b, off, rfl, hb, hat⟩ := hk (by simp)
      obtain ⟨c0, c1, c2, c3, c4, c5, ck0, ck1, ck2, ck3, ck4, ck5, cn⟩ := Em5.kidsAt_get _ off 0 x hat rfl
      simp only [Nat.zero_mul, Nat.add_zero, Nat.one_mul, Nat.reduceMul] at ck0 ck1 ck2 ck3 ck4 ck5
      have HN1 : Hid (∀ w', Below w.heap.size w w' → Calls Tryd.prog 10 #[.agg #[c0, c1, c2, c3, c4, c5]] w' fun e w2 => e = .returned (.string (Em.str (Em7.text x))) ∧ Below w'.heap.size w' w2) := fun w' h => HI.out x (by simp) _ w' (Em5.isNd_below h x _ cn)
      have hl1 : (Em7.text x).length ≤ 300000 := HTL.out x (by simp)
      obtain ⟨d0, d1, d2, d3, d4, d5, dk0, dk1, dk2, dk3, dk4, dk5, dn⟩ := Em5.kidsAt_get _ off 1 y hat rfl
      simp only [Nat.zero_mul, Nat.add_zero, Nat.one_mul, Nat.reduceMul] at dk0 dk1 dk2 dk3 dk4 dk5
      have HN2 : Hid (∀ w', Below w.heap.size w w' → Calls Tryd.prog 10 #[.agg #[d0, d1, d2, d3, d4, d5]] w' fun e w2 => e = .returned (.string (Em.str (Em7.text y))) ∧ Below w'.heap.size w' w2) := fun w' h => HI.out y (by simp) _ w' (Em5.isNd_below h y _ dn)
      have hl2 : (Em7.text y).length ≤ 300000 := HTL.out y (by simp)
      obtain ⟨e0, e1, e2, e3, e4, e5, ek0, ek1, ek2, ek3, ek4, ek5, en⟩ := Em5.kidsAt_get _ off 2 z hat rfl
      simp only [Nat.zero_mul, Nat.add_zero, Nat.one_mul, Nat.reduceMul] at ek0 ek1 ek2 ek3 ek4 ek5
      have HN3 : Hid (∀ w', Below w.heap.size w w' → Calls Tryd.prog 10 #[.agg #[e0, e1, e2, e3, e4, e5]] w' fun e w2 => e = .returned (.string (Em.str (Em7.text z))) ∧ Below w'.heap.size w' w2) := fun w' h => HI.out z (by simp) _ w' (Em5.isNd_below h z _ en)
      have hl3 : (Em7.text z).length ≤ 300000 := HTL.out z (by simp)
      clear hat HI HTL cn dn en
      obtain ⟨W, hW⟩ : ∃ W, W = w.alloc (.cells #[.string (Em.str op), .string (Em.str nm), .string (Em.str ar), .int .i64 n, .int .i64 p, .slice (some ⟨b, off, none⟩) 3 cap] 24) := ⟨_, rfl⟩
      have hbW : Below w.heap.size w W := by rw [hW]; exact (Below.refl _ _).alloc (Nat.le_refl _) _
      have HSX : Hid (∀ w', Below W.heap.size W w' → Below W.heap.size W w' ∧ w'.cell? ⟨w.heap.size, 5, none⟩ = some (.slice (some ⟨b, off, none⟩) 3 cap) ∧ w'.cell? ⟨b, off, none⟩ = some c0 ∧ w'.cell? ⟨b, off + 1, none⟩ = some c1 ∧ w'.cell? ⟨b, off + 2, none⟩ = some c2 ∧ w'.cell? ⟨b, off + 3, none⟩ = some c3 ∧ w'.cell? ⟨b, off + 4, none⟩ = some c4 ∧ w'.cell? ⟨b, off + 5, none⟩ = some c5 ∧ w'.cell? ⟨b, off + 6, none⟩ = some d0 ∧ w'.cell? ⟨b, off + 6 + 1, none⟩ = some d1 ∧ w'.cell? ⟨b, off + 6 + 2, none⟩ = some d2 ∧ w'.cell? ⟨b, off + 6 + 3, none⟩ = some d3 ∧ w'.cell? ⟨b, off + 6 + 4, none⟩ = some d4 ∧ w'.cell? ⟨b, off + 6 + 5, none⟩ = some d5 ∧ w'.cell? ⟨b, off + 12, none⟩ = some e0 ∧ w'.cell? ⟨b, off + 12 + 1, none⟩ = some e1 ∧ w'.cell? ⟨b, off + 12 + 2, none⟩ = some e2 ∧ w'.cell? ⟨b, off + 12 + 3, none⟩ = some e3 ∧ w'.cell? ⟨b, off + 12 + 4, none⟩ = some e4 ∧ w'.cell? ⟨b, off + 12 + 5, none⟩ = some e5) := fun w' h => by
        have key : ∀ g o, g < W.heap.size → w'.cell? ⟨g, o, none⟩ = W.cell? ⟨g, o, none⟩ := fun g o hg => h.cell (p := ⟨g, o, none⟩) hg
        have key2 : ∀ o, W.cell? ⟨b, o, none⟩ = w.cell? ⟨b, o, none⟩ := fun o => hbW.cell (p := ⟨b, o, none⟩) hb
        have hbr : b < W.heap.size := Nat.lt_of_lt_of_le hb hbW.size
        have hwz : w.heap.size < W.heap.size := by rw [hW]; simp
        refine ⟨h, ?_, ?_, ?_, ?_, ?_, ?_, ?_, ?_, ?_, ?_, ?_, ?_, ?_, ?_, ?_, ?_, ?_, ?_, ?_⟩
        · rw [key _ _ hwz, hW]; simp
        · rw [key _ _ hbr, key2]; exact ck0
        · rw [key _ _ hbr, key2]; exact ck1
        · rw [key _ _ hbr, key2]; exact ck2
        · rw [key _ _ hbr, key2]; exact ck3
        · rw [key _ _ hbr, key2]; exact ck4
        · rw [key _ _ hbr, key2]; exact ck5
        · rw [key _ _ hbr, key2]; exact dk0
        · rw [key _ _ hbr, key2]; exact dk1
        · rw [key _ _ hbr, key2]; exact dk2
        · rw [key _ _ hbr, key2]; exact dk3
        · rw [key _ _ hbr, key2]; exact dk4
        · rw [key _ _ hbr, key2]; exact dk5
        · rw [key _ _ hbr, key2]; exact ek0
        · rw [key _ _ hbr, key2]; exact ek1
        · rw [key _ _ hbr, key2]; exact ek2
        · rw [key _ _ hbr, key2]; exact ek3
        · rw [key _ _ hbr, key2]; exact ek4
        · rw [key _ _ hbr, key2]; exact ek5
      have HBW : Hid (Below w.heap.size w W) := hbW
      have hz2 : ¬ 9223372036854775807 < 3 + (Em.str (Em7.text x)).size := by simp only [str_size7]; omega
      have hz3 : ¬ 9223372036854775807 < 3 + (Em.str (Em7.text x)).size + 6 := by simp only [str_size7]; omega
      have hz4 : ¬ 9223372036854775807 < 3 + (Em.str (Em7.text x)).size + 6 + (Em.str (Em7.text y)).size := by simp only [str_size7]; omega
      have hz5 : ¬ 9223372036854775807 < 3 + (Em.str (Em7.text x)).size + 6 + (Em.str (Em7.text y)).size + 6 := by simp only [str_size7]; omega
      have hz6 : ¬ 9223372036854775807 < 3 + (Em.str (Em7.text x)).size + 6 + (Em.str (Em7.text y)).size + 6 + (Em.str (Em7.text z)).size := by simp only [str_size7]; omega
      have HR : Hid (Em.str (Em7.innerB op nm ar (Em7.texts [x, y, z])) = (⟨#[105, 102, 32]⟩ : ByteArray) ++ Em.str (Em7.text x) ++ (⟨#[32, 116, 104, 101, 110, 32]⟩ : ByteArray) ++ Em.str (Em7.text y) ++ (⟨#[32, 101, 108, 115, 101, 32]⟩ : ByteArray) ++ Em.str (Em7.text z)) := by
        rw [Hid, Em7.innerB, if_neg (fun h => h HSG.out), if_neg HX0.out, if_neg HX1.out, if_neg HX2.out, if_pos HO.out, Em7.texts_get [x, y, z] 0 x rfl, Em7.texts_get [x, y, z] 1 y rfl, Em7.texts_get [x, y, z] 2 z rfl, ← str_app7, ← str_app7, ← str_app7, ← str_app7, ← str_app7]
        rfl
      clear ck0 ck1 ck2 ck3 ck4 ck5 dk0 dk1 dk2 dk3 dk4 dk5 ek0 ek1 ek2 ek3 ek4 ek5 hb hbW
      go_enter Tryd.func20, Tryd.ntmps20
      go_wp2_with fail
      refine (ssign_any op _ HT1.out).mono ?_
      rintro e w0 ⟨rfl, rfl⟩
      rw [HSG.out]
      go_wp2_with fail
      rw [← hW]
      clear hW
      go_region_held (fun w' => Below W.heap.size W w' ∧ w'.cell? ⟨w.heap.size, 5, none⟩ = some (.slice (some ⟨b, off, none⟩) 3 cap) ∧ w'.cell? ⟨b, off, none⟩ = some c0 ∧ w'.cell? ⟨b, off + 1, none⟩ = some c1 ∧ w'.cell? ⟨b, off + 2, none⟩ = some c2 ∧ w'.cell? ⟨b, off + 3, none⟩ = some c3 ∧ w'.cell? ⟨b, off + 4, none⟩ = some c4 ∧ w'.cell? ⟨b, off + 5, none⟩ = some c5 ∧ w'.cell? ⟨b, off + 6, none⟩ = some d0 ∧ w'.cell? ⟨b, off + 6 + 1, none⟩ = some d1 ∧ w'.cell? ⟨b, off + 6 + 2, none⟩ = some d2 ∧ w'.cell? ⟨b, off + 6 + 3, none⟩ = some d3 ∧ w'.cell? ⟨b, off + 6 + 4, none⟩ = some d4 ∧ w'.cell? ⟨b, off + 6 + 5, none⟩ = some d5 ∧ w'.cell? ⟨b, off + 12, none⟩ = some e0 ∧ w'.cell? ⟨b, off + 12 + 1, none⟩ = some e1 ∧ w'.cell? ⟨b, off + 12 + 2, none⟩ = some e2 ∧ w'.cell? ⟨b, off + 12 + 3, none⟩ = some e3 ∧ w'.cell? ⟨b, off + 12 + 4, none⟩ = some e4 ∧ w'.cell? ⟨b, off + 12 + 5, none⟩ = some e5)
        (first | with_reducible exact HSX.out _ hb3 | with_reducible exact HSX.out _ hb2 | with_reducible exact HSX.out _ hb1 | with_reducible exact HSX.out _ (Below.refl _ _).drew)
        (first | (go_at_call 10; have hbq := hb2; clear hbq; refine (HN3.out _ (HBW.out.trans ((Em.held1 (by assumption)).mono HBW.out.size))).mono ?_; rintro e w3 ⟨rfl, hb'⟩; have hb3 : Below W.heap.size W w3 := hb2.trans (hb'.mono hb2.size); clear hb') | (go_at_call 10; have hbq := hb1; clear hbq; refine (HN2.out _ (HBW.out.trans ((Em.held1 (by assumption)).mono HBW.out.size))).mono ?_; rintro e w2 ⟨rfl, hb'⟩; have hb2 : Below W.heap.size W w2 := hb1.trans (hb'.mono hb1.size); clear hb') | (go_at_call 10; refine (HN1.out _ (HBW.out.trans ((Em.held1 (by assumption)).mono HBW.out.size))).mono ?_; rintro e w1 ⟨rfl, hb'⟩; have hb1 : Below W.heap.size W w1 := (Below.refl _ _).drew.trans hb'; clear hb'))
      go_wp2
      go_ret
      exact ⟨congrArg (fun z => Ending.returned (Value.string z)) HR.out.symm, HBW.out.trans (hb3.mono HBW.out.size)⟩
    rw [decide_eq_false h1] at q_if
    have HX3 : Hid (¬ op = Em5.oIf) := h1
    clear h1
    by_cases h1 : op = Em5.oMatch
    · have hl2 : l.length = 3 := by rw [h1, show Em5.kidsN Em5.oMatch = 3 from by decide] at hkn; omega
      obtain ⟨x, y, z, rfl⟩ : ∃ x y z, l = [x, y, z] := by
        match l, hl2 with
        | [x, y, z], _ => exact ⟨x, y, z, rfl⟩
      rw [decide_eq_true h1] at q_match
      have HO : Hid (op = Em5.oMatch) := h1
      clear hl2 hkn h1 q_try
      obtain ⟨b, off, rfl, hb, hat⟩ := hk (by simp)
      obtain ⟨c0, c1, c2, c3, c4, c5, ck0, ck1, ck2, ck3, ck4, ck5, cn⟩ := Em5.kidsAt_get _ off 0 x hat rfl
      simp only [Nat.zero_mul, Nat.add_zero, Nat.one_mul, Nat.reduceMul] at ck0 ck1 ck2 ck3 ck4 ck5
      have HN1 : Hid (∀ w', Below w.heap.size w w' → Calls Tryd.prog 10 #[.agg #[c0, c1, c2, c3, c4, c5]] w' fun e w2 => e = .returned (.string (Em.str (Em7.text x))) ∧ Below w'.heap.size w' w2) := fun w' h => HI.out x (by simp) _ w' (Em5.isNd_below h x _ cn)
      have hl1 : (Em7.text x).length ≤ 300000 := HTL.out x (by simp)
      obtain ⟨d0, d1, d2, d3, d4, d5, dk0, dk1, dk2, dk3, dk4, dk5, dn⟩ := Em5.kidsAt_get _ off 1 y hat rfl
      simp only [Nat.zero_mul, Nat.add_zero, Nat.one_mul, Nat.reduceMul] at dk0 dk1 dk2 dk3 dk4 dk5
      have HN2 : Hid (∀ w', Below w.heap.size w w' → Calls Tryd.prog 10 #[.agg #[d0, d1, d2, d3, d4, d5]] w' fun e w2 => e = .returned (.string (Em.str (Em7.text y))) ∧ Below w'.heap.size w' w2) := fun w' h => HI.out y (by simp) _ w' (Em5.isNd_below h y _ dn)
      have hl2 : (Em7.text y).length ≤ 300000 := HTL.out y (by simp)
      obtain ⟨e0, e1, e2, e3, e4, e5, ek0, ek1, ek2, ek3, ek4, ek5, en⟩ := Em5.kidsAt_get _ off 2 z hat rfl
      simp only [Nat.zero_mul, Nat.add_zero, Nat.one_mul, Nat.reduceMul] at ek0 ek1 ek2 ek3 ek4 ek5
      have HN3 : Hid (∀ w', Below w.heap.size w w' → Calls Tryd.prog 10 #[.agg #[e0, e1, e2, e3, e4, e5]] w' fun e w2 => e = .returned (.string (Em.str (Em7.text z))) ∧ Below w'.heap.size w' w2) := fun w' h => HI.out z (by simp) _ w' (Em5.isNd_below h z _ en)
      have hl3 : (Em7.text z).length ≤ 300000 := HTL.out z (by simp)
      clear hat HI HTL cn dn en
      obtain ⟨W, hW⟩ : ∃ W, W = w.alloc (.cells #[.string (Em.str op), .string (Em.str nm), .string (Em.str ar), .int .i64 n, .int .i64 p, .slice (some ⟨b, off, none⟩) 3 cap] 24) := ⟨_, rfl⟩
      have hbW : Below w.heap.size w W := by rw [hW]; exact (Below.refl _ _).alloc (Nat.le_refl _) _
      have HSX : Hid (∀ w', Below W.heap.size W w' → Below W.heap.size W w' ∧ w'.cell? ⟨w.heap.size, 1, none⟩ = some (.string (Em.str nm)) ∧ w'.cell? ⟨w.heap.size, 2, none⟩ = some (.string (Em.str ar)) ∧ w'.cell? ⟨w.heap.size, 5, none⟩ = some (.slice (some ⟨b, off, none⟩) 3 cap) ∧ w'.cell? ⟨b, off, none⟩ = some c0 ∧ w'.cell? ⟨b, off + 1, none⟩ = some c1 ∧ w'.cell? ⟨b, off + 2, none⟩ = some c2 ∧ w'.cell? ⟨b, off + 3, none⟩ = some c3 ∧ w'.cell? ⟨b, off + 4, none⟩ = some c4 ∧ w'.cell? ⟨b, off + 5, none⟩ = some c5 ∧ w'.cell? ⟨b, off + 6, none⟩ = some d0 ∧ w'.cell? ⟨b, off + 6 + 1, none⟩ = some d1 ∧ w'.cell? ⟨b, off + 6 + 2, none⟩ = some d2 ∧ w'.cell? ⟨b, off + 6 + 3, none⟩ = some d3 ∧ w'.cell? ⟨b, off + 6 + 4, none⟩ = some d4 ∧ w'.cell? ⟨b, off + 6 + 5, none⟩ = some d5 ∧ w'.cell? ⟨b, off + 12, none⟩ = some e0 ∧ w'.cell? ⟨b, off + 12 + 1, none⟩ = some e1 ∧ w'.cell? ⟨b, off + 12 + 2, none⟩ = some e2 ∧ w'.cell? ⟨b, off + 12 + 3, none⟩ = some e3 ∧ w'.cell? ⟨b, off + 12 + 4, none⟩ = some e4 ∧ w'.cell? ⟨b, off + 12 + 5, none⟩ = some e5) := fun w' h => by
        have key : ∀ g o, g < W.heap.size → w'.cell? ⟨g, o, none⟩ = W.cell? ⟨g, o, none⟩ := fun g o hg => h.cell (p := ⟨g, o, none⟩) hg
        have key2 : ∀ o, W.cell? ⟨b, o, none⟩ = w.cell? ⟨b, o, none⟩ := fun o => hbW.cell (p := ⟨b, o, none⟩) hb
        have hbr : b < W.heap.size := Nat.lt_of_lt_of_le hb hbW.size
        have hwz : w.heap.size < W.heap.size := by rw [hW]; simp
        refine ⟨h, ?_, ?_, ?_, ?_, ?_, ?_, ?_, ?_, ?_, ?_, ?_, ?_, ?_, ?_, ?_, ?_, ?_, ?_, ?_, ?_, ?_⟩
        · rw [key _ _ hwz, hW]; simp
        · rw [key _ _ hwz, hW]; simp
        · rw [key _ _ hwz, hW]; simp
        · rw [key _ _ hbr, key2]; exact ck0
        · rw [key _ _ hbr, key2]; exact ck1
        · rw [key _ _ hbr, key2]; exact ck2
        · rw [key _ _ hbr, key2]; exact ck3
        · rw [key _ _ hbr, key2]; exact ck4
        · rw [key _ _ hbr, key2]; exact ck5
        · rw [key _ _ hbr, key2]; exact dk0
        · rw [key _ _ hbr, key2]; exact dk1
        · rw [key _ _ hbr, key2]; exact dk2
        · rw [key _ _ hbr, key2]; exact dk3
        · rw [key _ _ hbr, key2]; exact dk4
        · rw [key _ _ hbr, key2]; exact dk5
        · rw [key _ _ hbr, key2]; exact ek0
        · rw [key _ _ hbr, key2]; exact ek1
        · rw [key _ _ hbr, key2]; exact ek2
        · rw [key _ _ hbr, key2]; exact ek3
        · rw [key _ _ hbr, key2]; exact ek4
        · rw [key _ _ hbr, key2]; exact ek5
      have HBW : Hid (Below w.heap.size w W) := hbW
      have hz2 : ¬ 9223372036854775807 < 6 + (Em.str (Em7.text x)).size := by simp only [str_size7]; omega
      have hz3 : ¬ 9223372036854775807 < 6 + (Em.str (Em7.text x)).size + 12 := by simp only [str_size7]; omega
      have hz4 : ¬ 9223372036854775807 < 6 + (Em.str (Em7.text x)).size + 12 + (Em.str (Em7.text y)).size := by simp only [str_size7]; omega
      have hz5 : ¬ 9223372036854775807 < 6 + (Em.str (Em7.text x)).size + 12 + (Em.str (Em7.text y)).size + 3 := by simp only [str_size7]; omega
      have hz6 : ¬ 9223372036854775807 < 6 + (Em.str (Em7.text x)).size + 12 + (Em.str (Em7.text y)).size + 3 + (Em.str nm).size := by simp only [str_size7]; omega
      have hz7 : ¬ 9223372036854775807 < 6 + (Em.str (Em7.text x)).size + 12 + (Em.str (Em7.text y)).size + 3 + (Em.str nm).size + 4 := by simp only [str_size7]; omega
      have hz8 : ¬ 9223372036854775807 < 6 + (Em.str (Em7.text x)).size + 12 + (Em.str (Em7.text y)).size + 3 + (Em.str nm).size + 4 + (Em.str ar).size := by simp only [str_size7]; omega
      have hz9 : ¬ 9223372036854775807 < 6 + (Em.str (Em7.text x)).size + 12 + (Em.str (Em7.text y)).size + 3 + (Em.str nm).size + 4 + (Em.str ar).size + 4 := by simp only [str_size7]; omega
      have hz10 : ¬ 9223372036854775807 < 6 + (Em.str (Em7.text x)).size + 12 + (Em.str (Em7.text y)).size + 3 + (Em.str nm).size + 4 + (Em.str ar).size + 4 + (Em.str (Em7.text z)).size := by simp only [str_size7]; omega
      have HR : Hid (Em.str (Em7.innerB op nm ar (Em7.texts [x, y, z])) = (⟨#[109, 97, 116, 99, 104, 32]⟩ : ByteArray) ++ Em.str (Em7.text x) ++ (⟨#[32, 119, 105, 116, 104, 32, 91, 93, 32, 45, 62, 32]⟩ : ByteArray) ++ Em.str (Em7.text y) ++ (⟨#[32, 124, 32]⟩ : ByteArray) ++ Em.str nm ++ (⟨#[32, 58, 58, 32]⟩ : ByteArray) ++ Em.str ar ++ (⟨#[32, 45, 62, 32]⟩ : ByteArray) ++ Em.str (Em7.text z)) := by
        rw [Hid, Em7.innerB, if_neg (fun h => h HSG.out), if_neg HX0.out, if_neg HX1.out, if_neg HX2.out, if_neg HX3.out, if_pos HO.out, Em7.texts_get [x, y, z] 0 x rfl, Em7.texts_get [x, y, z] 1 y rfl, Em7.texts_get [x, y, z] 2 z rfl, ← str_app7, ← str_app7, ← str_app7, ← str_app7, ← str_app7, ← str_app7, ← str_app7, ← str_app7, ← str_app7]
        rfl
      clear ck0 ck1 ck2 ck3 ck4 ck5 dk0 dk1 dk2 dk3 dk4 dk5 ek0 ek1 ek2 ek3 ek4 ek5 hb hbW
      go_enter Tryd.func20, Tryd.ntmps20
      go_wp2_with fail
      refine (ssign_any op _ HT1.out).mono ?_
      rintro e w0 ⟨rfl, rfl⟩
      rw [HSG.out]
      go_wp2_with fail
      rw [← hW]
      clear hW
      go_region_held (fun w' => Below W.heap.size W w' ∧ w'.cell? ⟨w.heap.size, 1, none⟩ = some (.string (Em.str nm)) ∧ w'.cell? ⟨w.heap.size, 2, none⟩ = some (.string (Em.str ar)) ∧ w'.cell? ⟨w.heap.size, 5, none⟩ = some (.slice (some ⟨b, off, none⟩) 3 cap) ∧ w'.cell? ⟨b, off, none⟩ = some c0 ∧ w'.cell? ⟨b, off + 1, none⟩ = some c1 ∧ w'.cell? ⟨b, off + 2, none⟩ = some c2 ∧ w'.cell? ⟨b, off + 3, none⟩ = some c3 ∧ w'.cell? ⟨b, off + 4, none⟩ = some c4 ∧ w'.cell? ⟨b, off + 5, none⟩ = some c5 ∧ w'.cell? ⟨b, off + 6, none⟩ = some d0 ∧ w'.cell? ⟨b, off + 6 + 1, none⟩ = some d1 ∧ w'.cell? ⟨b, off + 6 + 2, none⟩ = some d2 ∧ w'.cell? ⟨b, off + 6 + 3, none⟩ = some d3 ∧ w'.cell? ⟨b, off + 6 + 4, none⟩ = some d4 ∧ w'.cell? ⟨b, off + 6 + 5, none⟩ = some d5 ∧ w'.cell? ⟨b, off + 12, none⟩ = some e0 ∧ w'.cell? ⟨b, off + 12 + 1, none⟩ = some e1 ∧ w'.cell? ⟨b, off + 12 + 2, none⟩ = some e2 ∧ w'.cell? ⟨b, off + 12 + 3, none⟩ = some e3 ∧ w'.cell? ⟨b, off + 12 + 4, none⟩ = some e4 ∧ w'.cell? ⟨b, off + 12 + 5, none⟩ = some e5)
        (first | with_reducible exact HSX.out _ hb3 | with_reducible exact HSX.out _ hb2 | with_reducible exact HSX.out _ hb1 | with_reducible exact HSX.out _ (Below.refl _ _).drew)
        (first | (go_at_call 10; have hbq := hb2; clear hbq; refine (HN3.out _ (HBW.out.trans ((Em.held1 (by assumption)).mono HBW.out.size))).mono ?_; rintro e w3 ⟨rfl, hb'⟩; have hb3 : Below W.heap.size W w3 := hb2.trans (hb'.mono hb2.size); clear hb') | (go_at_call 10; have hbq := hb1; clear hbq; refine (HN2.out _ (HBW.out.trans ((Em.held1 (by assumption)).mono HBW.out.size))).mono ?_; rintro e w2 ⟨rfl, hb'⟩; have hb2 : Below W.heap.size W w2 := hb1.trans (hb'.mono hb1.size); clear hb') | (go_at_call 10; refine (HN1.out _ (HBW.out.trans ((Em.held1 (by assumption)).mono HBW.out.size))).mono ?_; rintro e w1 ⟨rfl, hb'⟩; have hb1 : Below W.heap.size W w1 := (Below.refl _ _).drew.trans hb'; clear hb'))
      go_wp2
      go_ret
      exact ⟨congrArg (fun z => Ending.returned (Value.string z)) HR.out.symm, HBW.out.trans (hb3.mono HBW.out.size)⟩
    rw [decide_eq_false h1] at q_match
    have HX4 : Hid (¬ op = Em5.oMatch) := h1
    clear h1
    by_cases h1 : op = Em5.oTry
    · have hl2 : l.length = 2 := by rw [h1, show Em5.kidsN Em5.oTry = 2 from by decide] at hkn; omega
      obtain ⟨x, y, rfl⟩ : ∃ x y, l = [x, y] := by
        match l, hl2 with
        | [x, y], _ => exact ⟨x, y, rfl⟩
      rw [decide_eq_true h1] at q_try
      have HO : Hid (op = Em5.oTry) := h1
      clear hl2 hkn h1 
      obtain ⟨b, off, rfl, hb, hat⟩ := hk (by simp)
      obtain ⟨c0, c1, c2, c3, c4, c5, ck0, ck1, ck2, ck3, ck4, ck5, cn⟩ := Em5.kidsAt_get _ off 0 x hat rfl
      simp only [Nat.zero_mul, Nat.add_zero, Nat.one_mul, Nat.reduceMul] at ck0 ck1 ck2 ck3 ck4 ck5
      have HN1 : Hid (∀ w', Below w.heap.size w w' → Calls Tryd.prog 10 #[.agg #[c0, c1, c2, c3, c4, c5]] w' fun e w2 => e = .returned (.string (Em.str (Em7.text x))) ∧ Below w'.heap.size w' w2) := fun w' h => HI.out x (by simp) _ w' (Em5.isNd_below h x _ cn)
      have hl1 : (Em7.text x).length ≤ 300000 := HTL.out x (by simp)
      obtain ⟨d0, d1, d2, d3, d4, d5, dk0, dk1, dk2, dk3, dk4, dk5, dn⟩ := Em5.kidsAt_get _ off 1 y hat rfl
      simp only [Nat.zero_mul, Nat.add_zero, Nat.one_mul, Nat.reduceMul] at dk0 dk1 dk2 dk3 dk4 dk5
      have HN2 : Hid (∀ w', Below w.heap.size w w' → Calls Tryd.prog 10 #[.agg #[d0, d1, d2, d3, d4, d5]] w' fun e w2 => e = .returned (.string (Em.str (Em7.text y))) ∧ Below w'.heap.size w' w2) := fun w' h => HI.out y (by simp) _ w' (Em5.isNd_below h y _ dn)
      have hl2 : (Em7.text y).length ≤ 300000 := HTL.out y (by simp)
      clear hat HI HTL cn dn
      obtain ⟨W, hW⟩ : ∃ W, W = w.alloc (.cells #[.string (Em.str op), .string (Em.str nm), .string (Em.str ar), .int .i64 n, .int .i64 p, .slice (some ⟨b, off, none⟩) 2 cap] 24) := ⟨_, rfl⟩
      have hbW : Below w.heap.size w W := by rw [hW]; exact (Below.refl _ _).alloc (Nat.le_refl _) _
      have HSX : Hid (∀ w', Below W.heap.size W w' → Below W.heap.size W w' ∧ w'.cell? ⟨w.heap.size, 1, none⟩ = some (.string (Em.str nm)) ∧ w'.cell? ⟨w.heap.size, 5, none⟩ = some (.slice (some ⟨b, off, none⟩) 2 cap) ∧ w'.cell? ⟨b, off, none⟩ = some c0 ∧ w'.cell? ⟨b, off + 1, none⟩ = some c1 ∧ w'.cell? ⟨b, off + 2, none⟩ = some c2 ∧ w'.cell? ⟨b, off + 3, none⟩ = some c3 ∧ w'.cell? ⟨b, off + 4, none⟩ = some c4 ∧ w'.cell? ⟨b, off + 5, none⟩ = some c5 ∧ w'.cell? ⟨b, off + 6, none⟩ = some d0 ∧ w'.cell? ⟨b, off + 6 + 1, none⟩ = some d1 ∧ w'.cell? ⟨b, off + 6 + 2, none⟩ = some d2 ∧ w'.cell? ⟨b, off + 6 + 3, none⟩ = some d3 ∧ w'.cell? ⟨b, off + 6 + 4, none⟩ = some d4 ∧ w'.cell? ⟨b, off + 6 + 5, none⟩ = some d5) := fun w' h => by
        have key : ∀ g o, g < W.heap.size → w'.cell? ⟨g, o, none⟩ = W.cell? ⟨g, o, none⟩ := fun g o hg => h.cell (p := ⟨g, o, none⟩) hg
        have key2 : ∀ o, W.cell? ⟨b, o, none⟩ = w.cell? ⟨b, o, none⟩ := fun o => hbW.cell (p := ⟨b, o, none⟩) hb
        have hbr : b < W.heap.size := Nat.lt_of_lt_of_le hb hbW.size
        have hwz : w.heap.size < W.heap.size := by rw [hW]; simp
        refine ⟨h, ?_, ?_, ?_, ?_, ?_, ?_, ?_, ?_, ?_, ?_, ?_, ?_, ?_, ?_⟩
        · rw [key _ _ hwz, hW]; simp
        · rw [key _ _ hwz, hW]; simp
        · rw [key _ _ hbr, key2]; exact ck0
        · rw [key _ _ hbr, key2]; exact ck1
        · rw [key _ _ hbr, key2]; exact ck2
        · rw [key _ _ hbr, key2]; exact ck3
        · rw [key _ _ hbr, key2]; exact ck4
        · rw [key _ _ hbr, key2]; exact ck5
        · rw [key _ _ hbr, key2]; exact dk0
        · rw [key _ _ hbr, key2]; exact dk1
        · rw [key _ _ hbr, key2]; exact dk2
        · rw [key _ _ hbr, key2]; exact dk3
        · rw [key _ _ hbr, key2]; exact dk4
        · rw [key _ _ hbr, key2]; exact dk5
      have HBW : Hid (Below w.heap.size w W) := hbW
      have hz2 : ¬ 9223372036854775807 < 4 + (Em.str (Em7.text x)).size := by simp only [str_size7]; omega
      have hz3 : ¬ 9223372036854775807 < 4 + (Em.str (Em7.text x)).size + 6 := by simp only [str_size7]; omega
      have hz4 : ¬ 9223372036854775807 < 4 + (Em.str (Em7.text x)).size + 6 + (Em.str nm).size := by simp only [str_size7]; omega
      have hz5 : ¬ 9223372036854775807 < 4 + (Em.str (Em7.text x)).size + 6 + (Em.str nm).size + 4 := by simp only [str_size7]; omega
      have hz6 : ¬ 9223372036854775807 < 4 + (Em.str (Em7.text x)).size + 6 + (Em.str nm).size + 4 + (Em.str (Em7.text y)).size := by simp only [str_size7]; omega
      have HR : Hid (Em.str (Em7.innerB op nm ar (Em7.texts [x, y])) = (⟨#[116, 114, 121, 32]⟩ : ByteArray) ++ Em.str (Em7.text x) ++ (⟨#[32, 119, 105, 116, 104, 32]⟩ : ByteArray) ++ Em.str nm ++ (⟨#[32, 45, 62, 32]⟩ : ByteArray) ++ Em.str (Em7.text y)) := by
        rw [Hid, Em7.innerB, if_neg (fun h => h HSG.out), if_neg HX0.out, if_neg HX1.out, if_neg HX2.out, if_neg HX3.out, if_neg HX4.out, if_pos HO.out, Em7.texts_get [x, y] 0 x rfl, Em7.texts_get [x, y] 1 y rfl, ← str_app7, ← str_app7, ← str_app7, ← str_app7, ← str_app7]
        rfl
      clear ck0 ck1 ck2 ck3 ck4 ck5 dk0 dk1 dk2 dk3 dk4 dk5 hb hbW
      go_enter Tryd.func20, Tryd.ntmps20
      go_wp2_with fail
      refine (ssign_any op _ HT1.out).mono ?_
      rintro e w0 ⟨rfl, rfl⟩
      rw [HSG.out]
      go_wp2_with fail
      rw [← hW]
      clear hW
      go_region_held (fun w' => Below W.heap.size W w' ∧ w'.cell? ⟨w.heap.size, 1, none⟩ = some (.string (Em.str nm)) ∧ w'.cell? ⟨w.heap.size, 5, none⟩ = some (.slice (some ⟨b, off, none⟩) 2 cap) ∧ w'.cell? ⟨b, off, none⟩ = some c0 ∧ w'.cell? ⟨b, off + 1, none⟩ = some c1 ∧ w'.cell? ⟨b, off + 2, none⟩ = some c2 ∧ w'.cell? ⟨b, off + 3, none⟩ = some c3 ∧ w'.cell? ⟨b, off + 4, none⟩ = some c4 ∧ w'.cell? ⟨b, off + 5, none⟩ = some c5 ∧ w'.cell? ⟨b, off + 6, none⟩ = some d0 ∧ w'.cell? ⟨b, off + 6 + 1, none⟩ = some d1 ∧ w'.cell? ⟨b, off + 6 + 2, none⟩ = some d2 ∧ w'.cell? ⟨b, off + 6 + 3, none⟩ = some d3 ∧ w'.cell? ⟨b, off + 6 + 4, none⟩ = some d4 ∧ w'.cell? ⟨b, off + 6 + 5, none⟩ = some d5)
        (first | with_reducible exact HSX.out _ hb2 | with_reducible exact HSX.out _ hb1 | with_reducible exact HSX.out _ (Below.refl _ _).drew)
        (first | (go_at_call 10; have hbq := hb1; clear hbq; refine (HN2.out _ (HBW.out.trans ((Em.held1 (by assumption)).mono HBW.out.size))).mono ?_; rintro e w2 ⟨rfl, hb'⟩; have hb2 : Below W.heap.size W w2 := hb1.trans (hb'.mono hb1.size); clear hb') | (go_at_call 10; refine (HN1.out _ (HBW.out.trans ((Em.held1 (by assumption)).mono HBW.out.size))).mono ?_; rintro e w1 ⟨rfl, hb'⟩; have hb1 : Below W.heap.size W w1 := (Below.refl _ _).drew.trans hb'; clear hb'))
      go_wp2
      go_ret
      exact ⟨congrArg (fun z => Ending.returned (Value.string z)) HR.out.symm, HBW.out.trans (hb2.mono HBW.out.size)⟩
    rw [decide_eq_false h1] at q_try
    have HX5 : Hid (¬ op = Em5.oTry) := h1
    clear h1
    have HR : Hid (Em7.innerB op nm ar (Em7.texts l) = op ++ (Em7.texts l).flatMap (fun t => 32 :: t)) := by
      rw [Hid, Em7.innerB, if_neg (fun h => h HSG.out), if_neg HX0.out, if_neg HX1.out, if_neg HX2.out, if_neg HX3.out, if_neg HX4.out, if_neg HX5.out]
    have hl3 : l.length ≤ 3 := by have := (Em7.kids_five (op := op) (by omega)).2; omega
    have HK : Hid (0 < l.length → ∃ b off, a = some ⟨b, off, none⟩ ∧ b < w.heap.size ∧ Em5.KidsAt w b off l) := hk
    clear hk HX0 HX1 HX2 HX3 HX4 HX5 hkn
    obtain ⟨W, hW⟩ : ∃ W, W = w.alloc (.cells #[.string (Em.str op), .string (Em.str nm), .string (Em.str ar), .int .i64 n, .int .i64 p, .slice a l.length cap] 24) := ⟨_, rfl⟩
    have hbW : Below w.heap.size w W := by rw [hW]; exact (Below.refl _ _).alloc (Nat.le_refl _) _
    have hwz : w.heap.size < W.heap.size := by rw [hW]; simp
    have cW : W.cell? ⟨w.heap.size, 5, none⟩ = some (.slice a l.length cap) := by rw [hW]; simp
    go_enter Tryd.func20, Tryd.ntmps20
    go_wp2_with fail
    refine (ssign_any op _ HT1.out).mono ?_
    rintro e w0 ⟨rfl, rfl⟩
    rw [HSG.out]
    go_wp2_with fail
    rw [← hW]
    clear hW
    go_loopw [4, 5] (fun u i wr => ∃ (k : Nat) (L : List Int), u = .string (Em.str L) ∧ i = .int .i64 k ∧ k ≤ l.length ∧ Below W.heap.size W wr ∧ L.length ≤ 5 + 300001 * k ∧ Hid (L = op ++ (Em7.texts (l.take k)).flatMap (fun t => 32 :: t))) (fun _ i _ => l.length - (intOf i).toNat)
    case atStart => exact ⟨0, op, rfl, rfl, Nat.zero_le _, Below.refl _ _, by omega, by simp [Hid, Em7.texts]⟩
    case round =>
      obtain ⟨k, L, rfl, rfl, hk, hbel, hLl, HD⟩ := hrel
      have cr : wr.cell? ⟨w.heap.size, 5, none⟩ = some (.slice a l.length cap) := by rw [hbel.cell (p := ⟨w.heap.size, 5, none⟩) hwz]; exact cW
      by_cases hlt : k < l.length
      · obtain ⟨b, off, rfl, hb, hat⟩ := HK.out (by omega)
        obtain ⟨x, hx⟩ : ∃ x, l[k]? = some x := ⟨_, List.getElem?_eq_getElem hlt⟩
        obtain ⟨c0, c1, c2, c3, c4, c5, ck0, ck1, ck2, ck3, ck4, ck5, cn⟩ := Em5.kidsAt_get _ off k x hat hx
        have hbw : Below w.heap.size w wr := hbW.trans (hbel.mono hbW.size)
        have key : ∀ o, wr.cell? ⟨b, o, none⟩ = w.cell? ⟨b, o, none⟩ := fun o => hbw.cell (p := ⟨b, o, none⟩) hb
        rw [← key] at ck0 ck1 ck2 ck3 ck4 ck5
        have HN : Hid (Em5.IsNd wr x (.agg #[c0, c1, c2, c3, c4, c5])) := Em5.isNd_below hbw x _ cn
        have hxl := HTL.out x (List.mem_of_getElem? hx)
        have HL : Hid (L ++ [32] ++ Em7.text x = op ++ (Em7.texts (l.take (k + 1))).flatMap (fun t => 32 :: t)) := by
          rw [Hid, HD.out, Em7.texts_map, Em7.texts_map, List.take_succ_eq_append_getElem hlt, List.map_append, List.flatMap_append]
          have e : l[k] = x := (List.getElem?_eq_some_iff.1 hx).2
          rw [e]
          simp
        have HX : Hid (x ∈ l) := List.mem_of_getElem? hx
        have hk0 : (0 : Int) ≤ (k : Int) := by omega
        have hz1 : ¬ 9223372036854775807 < (Em.str L).size + 1 := by simp only [str_size7]; omega
        have hz2 : ¬ 9223372036854775807 < (Em.str L).size + 1 + (Em.str (Em7.text x)).size := by simp only [str_size7]; omega
        clear cn hat hx key HD
        go_wp2_with fail
        refine (HI.out x HX.out _ _ HN.out).mono ?_
        rintro e w1 ⟨rfl, hb1⟩
        have hb1' : Below W.heap.size W w1 := hbel.trans (hb1.mono hbel.size)
        clear hb1 hbel cr ck0 ck1 ck2 ck3 ck4 ck5 hbw
        go_wp2_with fail
        go_roundw
        case rel => exact ⟨k + 1, L ++ [32] ++ Em7.text x, by rw [← str_app7, ← str_app7]; rfl, by go_num, by omega, hb1', by simp only [List.length_append, List.length_cons, List.length_nil]; omega, HL⟩
        case measure => simp [intOf]; omega
      · have HE : Hid (L = Em7.innerB op nm ar (Em7.texts l)) := by rw [Hid, HR.out, HD.out, List.take_of_length_le (by omega)]
        go_wp2_with fail
        go_ret
        exact ⟨by rw [← HE.out]; rfl, hbW.trans (hbel.mono hbW.size)⟩
  · have hk2 := Em7.sign_two hsg
    have hl2 : l.length = 2 := by omega
    obtain ⟨x, y, rfl⟩ : ∃ x y, l = [x, y] := by
      match l, hl2 with
      | [x, y], _ => exact ⟨x, y, rfl⟩
    have hsl := Em7.sign_len op
    have hsb : ((Em.str (Em7.signOf op)).toList == []) = false := Em7.sign_ne hsg
    have hsb' : ((Em.str (Em7.signOf op)).toList != []) = true := by rw [bne, hsb]; rfl
    clear hk2 hl2 hkn hq
    obtain ⟨b, off, rfl, hb, hat⟩ := hk (by simp)
    obtain ⟨c0, c1, c2, c3, c4, c5, ck0, ck1, ck2, ck3, ck4, ck5, cn⟩ := Em5.kidsAt_get _ off 0 x hat rfl
    simp only [Nat.zero_mul, Nat.add_zero, Nat.one_mul, Nat.reduceMul] at ck0 ck1 ck2 ck3 ck4 ck5
    have HN1 : Hid (∀ w', Below w.heap.size w w' → Calls Tryd.prog 10 #[.agg #[c0, c1, c2, c3, c4, c5]] w' fun e w2 => e = .returned (.string (Em.str (Em7.text x))) ∧ Below w'.heap.size w' w2) := fun w' h => HI.out x (by simp) _ w' (Em5.isNd_below h x _ cn)
    have hl1 : (Em7.text x).length ≤ 300000 := HTL.out x (by simp)
    obtain ⟨d0, d1, d2, d3, d4, d5, dk0, dk1, dk2, dk3, dk4, dk5, dn⟩ := Em5.kidsAt_get _ off 1 y hat rfl
    simp only [Nat.zero_mul, Nat.add_zero, Nat.one_mul, Nat.reduceMul] at dk0 dk1 dk2 dk3 dk4 dk5
    have HN2 : Hid (∀ w', Below w.heap.size w w' → Calls Tryd.prog 10 #[.agg #[d0, d1, d2, d3, d4, d5]] w' fun e w2 => e = .returned (.string (Em.str (Em7.text y))) ∧ Below w'.heap.size w' w2) := fun w' h => HI.out y (by simp) _ w' (Em5.isNd_below h y _ dn)
    have hl2 : (Em7.text y).length ≤ 300000 := HTL.out y (by simp)
    clear hat HI HTL cn dn
    obtain ⟨W, hW⟩ : ∃ W, W = w.alloc (.cells #[.string (Em.str op), .string (Em.str nm), .string (Em.str ar), .int .i64 n, .int .i64 p, .slice (some ⟨b, off, none⟩) 2 cap] 24) := ⟨_, rfl⟩
    have hbW : Below w.heap.size w W := by rw [hW]; exact (Below.refl _ _).alloc (Nat.le_refl _) _
    have HSX : Hid (∀ w', Below W.heap.size W w' → Below W.heap.size W w' ∧ w'.cell? ⟨w.heap.size, 5, none⟩ = some (.slice (some ⟨b, off, none⟩) 2 cap) ∧ w'.cell? ⟨b, off, none⟩ = some c0 ∧ w'.cell? ⟨b, off + 1, none⟩ = some c1 ∧ w'.cell? ⟨b, off + 2, none⟩ = some c2 ∧ w'.cell? ⟨b, off + 3, none⟩ = some c3 ∧ w'.cell? ⟨b, off + 4, none⟩ = some c4 ∧ w'.cell? ⟨b, off + 5, none⟩ = some c5 ∧ w'.cell? ⟨b, off + 6, none⟩ = some d0 ∧ w'.cell? ⟨b, off + 6 + 1, none⟩ = some d1 ∧ w'.cell? ⟨b, off + 6 + 2, none⟩ = some d2 ∧ w'.cell? ⟨b, off + 6 + 3, none⟩ = some d3 ∧ w'.cell? ⟨b, off + 6 + 4, none⟩ = some d4 ∧ w'.cell? ⟨b, off + 6 + 5, none⟩ = some d5) := fun w' h => by
      have key : ∀ g o, g < W.heap.size → w'.cell? ⟨g, o, none⟩ = W.cell? ⟨g, o, none⟩ := fun g o hg => h.cell (p := ⟨g, o, none⟩) hg
      have key2 : ∀ o, W.cell? ⟨b, o, none⟩ = w.cell? ⟨b, o, none⟩ := fun o => hbW.cell (p := ⟨b, o, none⟩) hb
      have hbr : b < W.heap.size := Nat.lt_of_lt_of_le hb hbW.size
      have hwz : w.heap.size < W.heap.size := by rw [hW]; simp
      refine ⟨h, ?_, ?_, ?_, ?_, ?_, ?_, ?_, ?_, ?_, ?_, ?_, ?_, ?_⟩
      · rw [key _ _ hwz, hW]; simp
      · rw [key _ _ hbr, key2]; exact ck0
      · rw [key _ _ hbr, key2]; exact ck1
      · rw [key _ _ hbr, key2]; exact ck2
      · rw [key _ _ hbr, key2]; exact ck3
      · rw [key _ _ hbr, key2]; exact ck4
      · rw [key _ _ hbr, key2]; exact ck5
      · rw [key _ _ hbr, key2]; exact dk0
      · rw [key _ _ hbr, key2]; exact dk1
      · rw [key _ _ hbr, key2]; exact dk2
      · rw [key _ _ hbr, key2]; exact dk3
      · rw [key _ _ hbr, key2]; exact dk4
      · rw [key _ _ hbr, key2]; exact dk5
    have HBW : Hid (Below w.heap.size w W) := hbW
    have hz2 : ¬ 9223372036854775807 < (Em.str (Em7.text x)).size + (Em.str (Em7.signOf op)).size := by simp only [str_size7]; omega
    have hz3 : ¬ 9223372036854775807 < (Em.str (Em7.text x)).size + (Em.str (Em7.signOf op)).size + (Em.str (Em7.text y)).size := by simp only [str_size7]; omega
    have HR : Hid (Em.str (Em7.innerB op nm ar (Em7.texts [x, y])) = Em.str (Em7.text x) ++ Em.str (Em7.signOf op) ++ Em.str (Em7.text y)) := by
      rw [Hid, Em7.innerB, if_pos hsg, Em7.texts_get [x, y] 0 x rfl, Em7.texts_get [x, y] 1 y rfl, ← str_app7, ← str_app7]
    clear hsg ck0 ck1 ck2 ck3 ck4 ck5 dk0 dk1 dk2 dk3 dk4 dk5 hb hbW
    go_enter Tryd.func20, Tryd.ntmps20
    go_wp2_with fail
    refine (ssign_any op _ HT1.out).mono ?_
    rintro e w0 ⟨rfl, rfl⟩
    go_wp2_with fail
    rw [← hW]
    clear hW
    go_region_held (fun w' => Below W.heap.size W w' ∧ w'.cell? ⟨w.heap.size, 5, none⟩ = some (.slice (some ⟨b, off, none⟩) 2 cap) ∧ w'.cell? ⟨b, off, none⟩ = some c0 ∧ w'.cell? ⟨b, off + 1, none⟩ = some c1 ∧ w'.cell? ⟨b, off + 2, none⟩ = some c2 ∧ w'.cell? ⟨b, off + 3, none⟩ = some c3 ∧ w'.cell? ⟨b, off + 4, none⟩ = some c4 ∧ w'.cell? ⟨b, off + 5, none⟩ = some c5 ∧ w'.cell? ⟨b, off + 6, none⟩ = some d0 ∧ w'.cell? ⟨b, off + 6 + 1, none⟩ = some d1 ∧ w'.cell? ⟨b, off + 6 + 2, none⟩ = some d2 ∧ w'.cell? ⟨b, off + 6 + 3, none⟩ = some d3 ∧ w'.cell? ⟨b, off + 6 + 4, none⟩ = some d4 ∧ w'.cell? ⟨b, off + 6 + 5, none⟩ = some d5)
      (first | with_reducible exact HSX.out _ hb2 | with_reducible exact HSX.out _ hb1 | with_reducible exact HSX.out _ (Below.refl _ _).drew)
      (first | (go_at_call 10; have hbq := hb1; clear hbq; refine (HN2.out _ (HBW.out.trans ((Em.held1 (by assumption)).mono HBW.out.size))).mono ?_; rintro e w2 ⟨rfl, hb'⟩; have hb2 : Below W.heap.size W w2 := hb1.trans (hb'.mono hb1.size); clear hb') | (go_at_call 10; refine (HN1.out _ (HBW.out.trans ((Em.held1 (by assumption)).mono HBW.out.size))).mono ?_; rintro e w1 ⟨rfl, hb'⟩; have hb1 : Below W.heap.size W w1 := (Below.refl _ _).drew.trans hb'; clear hb'))
    go_wp2
    go_ret
    exact ⟨congrArg (fun z => Ending.returned (Value.string z)) HR.out.symm, HBW.out.trans (hb2.mono HBW.out.size)⟩
end Go.Proofs.YtoekhejpompjlaaDoor

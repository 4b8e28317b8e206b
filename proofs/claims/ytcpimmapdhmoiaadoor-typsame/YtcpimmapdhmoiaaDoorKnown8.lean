/- What the law's own 'long', 'ints' and 'known' answer; types made of others. -/
import Derived.Test.YtcpimmapdhmoiaaDoorTypA
import Derived.Test.YtcpimmapdhmoiaaDoorTypD
import Derived.Test.YtcpimmapdhmoiaaDoorTypN
import Derived.Test.YtcpimmapdhmoiaaDoorTypC
import Derived.Deep.QuietTactic
import Derived.BigQuiet
namespace Go.Proofs.YtcpimmapdhmoiaaDoor
open Go.RowKit Go.Em8
set_option linter.unusedSimpArgs false
set_option linter.unusedVariables false

/-- Three cells of a block. -/
structure Tri (w : World) (g : Nat) (c0 c1 c2 : Value) : Prop where
  c0 : w.cell? ⟨g, 0, none⟩ = some c0
  c1 : w.cell? ⟨g, 1, none⟩ = some c1
  c2 : w.cell? ⟨g, 2, none⟩ = some c2
theorem Tri.made (w : World) (c0 c1 c2 : Value) (t : TypeId) : Tri (w.alloc (.cells #[c0, c1, c2] t)) w.heap.size c0 c1 c2 := ⟨by simp, by simp, by simp⟩
theorem Tri.below {w w' : World} {g : Nat} {c0 c1 c2 : Value} (h : Tri w g c0 c1 c2) (hb : Below w.heap.size w w') : Tri w' g c0 c1 c2 := by
  have hlt : g < w.heap.size := Em.cell_lt h.c0
  have key : ∀ o, w'.cell? ⟨g, o, none⟩ = w.cell? ⟨g, o, none⟩ := fun o => hb.cell (p := ⟨g, o, none⟩) hlt
  exact ⟨by rw [key]; exact h.c0, by rw [key]; exact h.c1, by rw [key]; exact h.c2⟩

theorem isTy_leaf (w : World) {op : List Int} {n : Int} (ho : Em5.Txt op) (hn : Em5.I64 n) : IsTy w (.mk op n []) (.agg #[.string (Em.str op), .int .i64 n, .slice none 0 0]) := by
  unfold IsTy
  exact ⟨none, 0, rfl, ho, hn, by simp, by simp, by simp⟩
theorem isTys_one {w : World} {x : Ty} {c0 c1 c2 : Value} (hx : IsTy w x (.agg #[c0, c1, c2])) (t : TypeId) : IsTys (w.alloc (.cells #[c0, c1, c2] t)) (.slice (some ⟨w.heap.size, 0, none⟩) 1 1) [x] := by
  have hb : Below w.heap.size w (w.alloc (.cells #[c0, c1, c2] t)) := (Below.refl _ _).alloc (Nat.le_refl _) _
  refine ⟨_, 1, rfl, by simp, by simp, fun _ => ⟨w.heap.size, 0, rfl, by simp, ?_⟩⟩
  unfold TysAt TysAt
  exact ⟨⟨c0, c1, c2, by simp, by simp, by simp, isTy_below hb _ _ hx⟩, trivial⟩
theorem isTys_two {w : World} {x y : Ty} {c0 c1 c2 d0 d1 d2 : Value} (hx : IsTy w x (.agg #[c0, c1, c2])) (hy : IsTy w y (.agg #[d0, d1, d2])) (t : TypeId) : IsTys (w.alloc (.cells #[c0, c1, c2, d0, d1, d2] t)) (.slice (some ⟨w.heap.size, 0, none⟩) 2 2) [x, y] := by
  have hb : Below w.heap.size w (w.alloc (.cells #[c0, c1, c2, d0, d1, d2] t)) := (Below.refl _ _).alloc (Nat.le_refl _) _
  refine ⟨_, 2, rfl, by simp, by simp, fun _ => ⟨w.heap.size, 0, rfl, by simp, ?_⟩⟩
  unfold TysAt TysAt TysAt
  exact ⟨⟨c0, c1, c2, by simp, by simp, by simp, isTy_below hb _ _ hx⟩, ⟨d0, d1, d2, by simp, by simp, by simp, isTy_below hb _ _ hy⟩, trivial⟩
theorem isTys_three {w : World} {x y z : Ty} {c0 c1 c2 d0 d1 d2 e0 e1 e2 : Value} (hx : IsTy w x (.agg #[c0, c1, c2])) (hy : IsTy w y (.agg #[d0, d1, d2])) (hz : IsTy w z (.agg #[e0, e1, e2])) (t : TypeId) : IsTys (w.alloc (.cells #[c0, c1, c2, d0, d1, d2, e0, e1, e2] t)) (.slice (some ⟨w.heap.size, 0, none⟩) 3 3) [x, y, z] := by
  have hb : Below w.heap.size w (w.alloc (.cells #[c0, c1, c2, d0, d1, d2, e0, e1, e2] t)) := (Below.refl _ _).alloc (Nat.le_refl _) _
  refine ⟨_, 3, rfl, by simp, by simp, fun _ => ⟨w.heap.size, 0, rfl, by simp, ?_⟩⟩
  unfold TysAt TysAt TysAt TysAt
  exact ⟨⟨c0, c1, c2, by simp, by simp, by simp, isTy_below hb _ _ hx⟩, ⟨d0, d1, d2, by simp, by simp, by simp, isTy_below hb _ _ hy⟩, ⟨e0, e1, e2, by simp, by simp, by simp, isTy_below hb _ _ hz⟩, trivial⟩

set_option maxRecDepth 100000 in
set_option maxHeartbeats 1000000 in
theorem rtTb_any (b : ByteArray) (a : Option Addr) (n cap : Nat) (w : World) :
    Calls Tryd.prog 24 #[.string b, .slice a n cap] w fun e w' => e = .returned (.agg #[.string b, .int .i64 0, .slice a n cap]) ∧ Below w.heap.size w w' := by
  go_enter Tryd.func24, Tryd.ntmps24
  go_wp2
  refine bodyPost_ret (v := .agg #[.string b, .int .i64 0, .slice a n cap]) (by simp [results, Tryd.results24, go_sem]) rfl ⟨rfl, (Below.refl _ _).alloc (Nat.le_refl _) _⟩

set_option maxRecDepth 100000 in
set_option maxHeartbeats 1000000 in
theorem ylong_any (T : Ty) (v : Value) (w : World) (hv : IsTy w T v) :
    Calls Tryd.prog 8 #[v] w fun e w' => e = .returned (.bool (decide (300 < T.size))) ∧ Below w.heap.size w w' := by
  have HV : Hid (∀ w', Below w.heap.size w w' → IsTy w' T v) := fun w' h => isTy_below h _ _ hv
  obtain ⟨op, n, a, k, cap, rfl⟩ := isTyP_form (isTy_isP _ _ hv)
  obtain ⟨W, hW⟩ : ∃ W, W = w.alloc (.cells #[.string op, .int .i64 n, .slice a k cap] 24) := ⟨_, rfl⟩
  have hbW : Below w.heap.size w W := by rw [hW]; exact (Below.refl _ _).alloc (Nat.le_refl _) _
  have h3 : Tri W w.heap.size (.string op) (.int .i64 n) (.slice a k cap) := by rw [hW]; exact Tri.made _ _ _ _ _
  obtain ⟨k0, k1, k2⟩ := h3
  have HWE : Hid (w.alloc (.cells #[.string op, .int .i64 n, .slice a k cap] 24) = W) := hW.symm
  obtain ⟨q, hq⟩ : ∃ q, q = decide (300 < T.size) := ⟨_, rfl⟩
  rw [← hq]
  have HQ : Hid (decide ((300 : Int) < ((min T.size 301 : Nat) : Int)) = q) := by
    rw [Hid, hq, decide_eq_decide]; omega
  clear hv hq hW
  go_enter Tryd.func8, Tryd.ntmps8
  go_upto_region 1 with fail
  rw [HWE.out]
  go_wp2_with fail
  refine (rtsize_any T _ _ 301 (HV.out _ hbW) (by omega) (by omega)).mono ?_
  rintro e w1 ⟨rfl, hb1⟩
  have HB1 : Hid (Below w.heap.size w w1) := hbW.trans (hb1.mono hbW.size)
  generalize min T.size 301 = z at HQ
  clear hb1 k0 k1 k2 hbW
  have hz := HQ.out
  go_wp2
  go_ret
  exact ⟨rfl, HB1.out⟩

set_option maxRecDepth 100000 in
set_option maxHeartbeats 2000000 in
/-- Two rows that hold the same numbers. -/
theorem yints_any (L : List Int) (u v : Value) (w : World) (hu : IsInts w u L) (hv : IsInts w v L) :
    Calls Tryd.prog 12 #[u, v] w fun e w' => e = .returned (.bool true) ∧ Below w.heap.size w w' := by
  have hlen := hu.len
  by_cases hp : 0 < L.length
  · obtain ⟨b, off, cap, rfl, -, -, -, hc⟩ := hu.plain hp
    obtain ⟨b', off', cap', rfl, -, -, -, hc'⟩ := hv.plain hp
    have HC : Hid (∀ j t, L[j]? = some t → w.cell? ⟨b, off + j, none⟩ = some (.int .i64 t)) := hc
    have HC' : Hid (∀ j t, L[j]? = some t → w.cell? ⟨b', off' + j, none⟩ = some (.int .i64 t)) := hc'
    clear hc hc' hu hv
    go_enter Tryd.func12, Tryd.ntmps12
    go_wp2
    go_loopw [5] (fun i wr => ∃ k q : Nat, k ≤ L.length ∧ i = .int .i64 k ∧ wr = w.drewN q) (fun i _ => L.length - (intOf i).toNat)
    case atStart => exact ⟨0, 0, Nat.zero_le _, rfl, rfl⟩
    case round =>
      obtain ⟨k, q, hk, rfl, rfl⟩ := hrel
      by_cases hlt : k < L.length
      · obtain ⟨t, ht⟩ : ∃ t, L[k]? = some t := ⟨_, List.getElem?_eq_getElem hlt⟩
        have m0 := HC.out k t ht
        have m1 := HC'.out k t ht
        have hk0 : (0 : Int) ≤ (k : Int) := by omega
        have hkl : (k : Int) < (L.length : Int) := by omega
        have hqq : (t == t) = true := by simp
        have hqn : (t != t) = false := by simp
        clear ht
        go_wp2_with fail
        go_quiet (fail)
        go_wp2
        go_roundw
        case rel => exact ⟨k + 1, _, by omega, by go_num, by first | rfl | (rw [← World.drewN_add])⟩
        case measure => simp [intOf]; omega
      · go_wp2
        go_ret
        exact ⟨rfl, Em.below_drewN (Below.refl _ _) q⟩
  · have hl0 : L = [] := List.length_eq_zero_iff.1 (by omega)
    subst hl0
    obtain ⟨a, cap, rfl⟩ := hu.empty
    obtain ⟨a', cap', rfl⟩ := hv.empty
    clear hu hv
    go_enter Tryd.func12, Tryd.ntmps12
    go_wp2
    refine wp_loop_rounds 1 ?_
    rw [rounds_succ]
    go_wp2
    go_ret
    exact ⟨rfl, Below.refl _ _⟩

def k8T : Ty := .mk tList 0 [.mk tPair 0 [.mk tInt 0 [], .mk tVar 3 []]]
def k8N : Ty := .mk tList 0 [.mk tPair 0 [.mk tInt 0 [], .mk tVar 0 []]]
theorem k8_norm : tnorm k8T = k8N := (tsame_iff _ _).1 (by decide +kernel)
theorem k8_is : isTy k8T = true := by decide +kernel
theorem k8_each : teach k8T = true ∧ teach k8N = true := by decide +kernel
theorem k8_size : k8T.size ≤ 1000000 ∧ k8N.size ≤ 1000000 := by decide +kernel
theorem k8_sent : tsent k8T = false := by decide +kernel
def k8Out : List Int := [40, 105, 110, 116, 32, 42, 32, 39, 48, 41, 32, 108, 105, 115, 116]
theorem k8_show : tshow k8N = k8Out := by
  simp [k8N, k8Out, tshow_eq, tshows, tdigs_lt, tInt, tBool, tUnit, tString, tCell, tList, tRef, tPair, tFun, tVar]

set_option maxRecDepth 100000 in
set_option maxHeartbeats 4000000 in
theorem known8_any (w : World) (hp : IsPow w) : Calls Tryd.prog 11 #[] w fun e w' => e = .returned (.bool true) ∧ Below w.heap.size w w' := by
  have HP : Hid (∀ w', Below w.heap.size w w' → IsPow w') := fun w' h => hp.below h
  have hq : ((Em.str k8Out).toList == [40, 105, 110, 116, 32, 42, 32, 39, 48, 41, 32, 108, 105, 115, 116]) = true := (Em5.str_eq (by decide) _).trans (by decide)
  clear hp
  go_enter Tryd.func11, Tryd.ntmps11
  go_wp2_with fail
  refine (rtTb_any _ none 0 0 _).mono ?_
  rintro e w1 ⟨rfl, hb1⟩
  go_wp2_with fail
  refine (rtVar_any 3 _).mono ?_
  rintro e w2 ⟨rfl, hb2⟩
  have bw2 : Below w.heap.size w w2 := hb1.trans (hb2.mono hb1.size)
  obtain ⟨X2, hX2⟩ : ∃ X, X = w2.alloc (.cells #[.string ⟨#[105, 110, 116]⟩, .int .i64 0, .slice none 0 0, .string (Em.str tVar), .int .i64 3, .slice none 0 0] 24) := ⟨_, rfl⟩
  have d2 : IsTys X2 (.slice (some ⟨w2.heap.size, 0, none⟩) 2 2) [.mk tInt 0 [], .mk tVar 3 []] := by
    rw [hX2]; exact isTys_two (isTy_leaf w2 (op := tInt) (n := 0) ⟨by decide, by decide⟩ (by unfold Em5.I64; decide)) (isTy_leaf w2 (op := tVar) (n := 3) ⟨by decide, by decide⟩ (by unfold Em5.I64; decide)) _
  have bX2 : Below w.heap.size w X2 := by rw [hX2]; exact bw2.alloc bw2.size _
  have HX2 : Hid (w2.alloc (.cells #[.string ⟨#[105, 110, 116]⟩, .int .i64 0, .slice none 0 0, .string (Em.str tVar), .int .i64 3, .slice none 0 0] 24) = X2) := hX2.symm
  have D2 : Hid (IsTys X2 (.slice (some ⟨w2.heap.size, 0, none⟩) 2 2) [.mk tInt 0 [], .mk tVar 3 []] ∧ Below w.heap.size w X2) := ⟨d2, bX2⟩
  clear hb1 hb2 bw2 hX2 d2 bX2
  go_wp2_with fail
  rw [HX2.out]
  clear HX2
  refine (rtTb_any _ (some ⟨w2.heap.size, 0, none⟩) 2 2 _).mono ?_
  rintro e w3 ⟨rfl, hb3⟩
  have d3 : IsTy w3 (.mk tPair 0 [.mk tInt 0 [], .mk tVar 3 []]) (.agg #[.string ⟨#[112, 97, 105, 114]⟩, .int .i64 0, .slice (some ⟨w2.heap.size, 0, none⟩) 2 2]) := IsTys.mk (D2.out.1.below hb3) (op := tPair) ⟨by decide, by decide⟩ (by unfold Em5.I64; decide)
  have b3 : Below w.heap.size w w3 := D2.out.2.trans (hb3.mono D2.out.2.size)
  obtain ⟨X3, hX3⟩ : ∃ X, X = w3.alloc (.cells #[.string ⟨#[112, 97, 105, 114]⟩, .int .i64 0, .slice (some ⟨w2.heap.size, 0, none⟩) 2 2] 24) := ⟨_, rfl⟩
  have D3 : Hid (IsTys X3 (.slice (some ⟨w3.heap.size, 0, none⟩) 1 1) [.mk tPair 0 [.mk tInt 0 [], .mk tVar 3 []]] ∧ Below w.heap.size w X3) := by
    rw [Hid, hX3]; exact ⟨isTys_one d3 _, b3.alloc b3.size _⟩
  have HX3 : Hid (w3.alloc (.cells #[.string ⟨#[112, 97, 105, 114]⟩, .int .i64 0, .slice (some ⟨w2.heap.size, 0, none⟩) 2 2] 24) = X3) := hX3.symm
  clear D2 hb3 d3 b3 hX3
  go_wp2_with fail
  rw [HX3.out]
  clear HX3
  refine (rtTb_any _ (some ⟨w3.heap.size, 0, none⟩) 1 1 _).mono ?_
  rintro e w4 ⟨rfl, hb4⟩
  have d4 : IsTy w4 k8T (.agg #[.string ⟨#[108, 105, 115, 116]⟩, .int .i64 0, .slice (some ⟨w3.heap.size, 0, none⟩) 1 1]) := IsTys.mk (D3.out.1.below hb4) (op := tList) ⟨by decide, by decide⟩ (by unfold Em5.I64; decide)
  have b4 : Below w.heap.size w w4 := D3.out.2.trans (hb4.mono D3.out.2.size)
  obtain ⟨X4, hX4⟩ : ∃ X, X = w4.alloc (.cells #[.string ⟨#[108, 105, 115, 116]⟩, .int .i64 0, .slice (some ⟨w3.heap.size, 0, none⟩) 1 1] 24) := ⟨_, rfl⟩
  have hb44 : Below w4.heap.size w4 X4 := by rw [hX4]; exact (Below.refl _ _).alloc (Nat.le_refl _) _
  have hT4 : Tri X4 w4.heap.size (.string ⟨#[108, 105, 115, 116]⟩) (.int .i64 0) (.slice (some ⟨w3.heap.size, 0, none⟩) 1 1) := by rw [hX4]; exact Tri.made _ _ _ _ _
  have DT : Hid (∀ w', Below X4.heap.size X4 w' → IsTy w' k8T (.agg #[.string ⟨#[108, 105, 115, 116]⟩, .int .i64 0, .slice (some ⟨w3.heap.size, 0, none⟩) 1 1])) := fun w' h => isTy_below h _ _ (isTy_below hb44 _ _ d4)
  have H4 : Hid (∀ w', Below X4.heap.size X4 w' → Tri w' w4.heap.size (.string ⟨#[108, 105, 115, 116]⟩) (.int .i64 0) (.slice (some ⟨w3.heap.size, 0, none⟩) 1 1)) := fun w' h => hT4.below h
  have BX : Hid (Below w.heap.size w X4) := b4.trans (hb44.mono b4.size)
  have HX4 : Hid (w4.alloc (.cells #[.string ⟨#[108, 105, 115, 116]⟩, .int .i64 0, .slice (some ⟨w3.heap.size, 0, none⟩) 1 1] 24) = X4) := hX4.symm
  obtain ⟨k0, k1, k2⟩ := hT4
  clear hb4 d4 b4 hX4 hb44 D3
  go_upto_region 2 with fail
  rw [HX4.out]
  clear HX4
  go_wp2_with fail
  refine (yIs_any k8T _ _ (DT.out _ (Below.refl _ _))).mono ?_
  rintro e w5 ⟨rfl, hb5⟩
  rw [k8_is]
  clear k0 k1 k2
  obtain ⟨k0, k1, k2⟩ := H4.out _ hb5
  go_wp2_with fail
  refine (yNorm_any k8T _ _ (DT.out _ hb5) k8_each.1 k8_size.1).mono ?_
  rintro e w6 ⟨u6, rfl, hu6, hb6⟩
  rw [k8_norm] at hu6
  obtain ⟨z0, z1, za, zk, zc, rfl⟩ := isTyP_form hu6
  have b6 := hb5.trans (hb6.mono hb5.size)
  clear hb5 hb6 k0 k1 k2
  go_wp2_with fail
  refine (yShow_any k8N _ _ (isTyP_is _ _ hu6) k8_each.2 k8_size.2 (HP.out _ (BX.out.trans (b6.mono BX.out.size)))).mono ?_
  rintro e w7 ⟨rfl, hb7⟩
  rw [k8_show]
  have b7 := b6.trans (hb7.mono b6.size)
  clear hb7 b6 hu6
  obtain ⟨k0, k1, k2⟩ := H4.out _ b7
  go_wp2_with fail
  refine (ySent_any k8T _ _ (DT.out _ b7)).mono ?_
  rintro e w8 ⟨rfl, hb8⟩
  rw [k8_sent]
  have b8 := b7.trans (hb8.mono b7.size)
  have HB8 : Hid (Below w.heap.size w w8) := BX.out.trans (b8.mono BX.out.size)
  clear k0 k1 k2 hb8 b7 b8
  go_wp2
  go_ret
  exact ⟨rfl, HB8.out⟩
end Go.Proofs.YtcpimmapdhmoiaaDoor

/- FrameTurned: a frame with one byte turned is not the whole of one. No condition. -/
import Derived.Test.YtecoopclaogoiaaRows
import Derived.Test.YtecoopclaogoiaaKnown3
import Derived.Test.YtecoopclaogoiaaFrame
namespace Go.Proofs.Ytecoopclaogoiaa
open Go.ChangeShapes Go.WideShapes Go.ChangeAt Go.RowKit
set_option linter.unusedVariables false

theorem mask65535 (x : Int) (h1 : -9223372036854775808 ≤ x) (h2 : x ≤ 9223372036854775807) : ∃ m : Nat, bits .and .i64 x 65535 = m ∧ m ≤ 65535 := by
  have key : (BitVec.ofInt 64 x &&& BitVec.ofInt 64 65535).toNat ≤ 65535 := by
    rw [BitVec.toNat_and]
    have : (BitVec.ofInt 64 65535).toNat = 65535 := by decide
    rw [this]
    exact Nat.and_le_right
  refine ⟨(BitVec.ofInt 64 x &&& BitVec.ofInt 64 65535).toNat, ?_, key⟩
  show IntKind.i64.wrap ((BitVec.ofInt 64 x &&& BitVec.ofInt 64 65535).toNat : Int) = _
  rw [IntKind.wrap_i64]
  omega
theorem xor_turn {c d : Int} (c0 : 0 ≤ c) (c1 : c ≤ 255) (d0 : 0 ≤ d) (d1 : d ≤ 255) (hd : d ≠ 0) : ∃ e, bits .xor .u8 c d = e ∧ 0 ≤ e ∧ e ≤ 255 ∧ e ≠ c := by
  refine ⟨_, rfl, ?_⟩
  rw [u8_xor _ _ c0 (by omega) d0 (by omega)]
  have h := Nat.xor_lt_two_pow (n := 8) (x := c.toNat) (y := d.toNat) (by omega) (by omega)
  refine ⟨by omega, by omega, fun e => ?_⟩
  have e2 : c.toNat ^^^ d.toNat = c.toNat := by omega
  have e3 := Em2.nat_xor_left (a := d.toNat) (b := 0) (c := c.toNat) (by simpa using e2)
  omega

set_option maxRecDepth 100000 in
set_option maxHeartbeats 1000000 in
theorem walk_frameTurned (w : World) (x y z t : Value) (hx : ∃ n, x = .int .u8 n ∧ (Lit.int .u8 n).wf = true) (hy : ∃ L, Em.IsBytes w y L) (hz : ∃ n, z = .int .i64 n ∧ (Lit.int .i64 n).wf = true) (ht : ∃ n, t = .int .u8 n ∧ (Lit.int .u8 n).wf = true) :
    Calls Try.prog 5 #[x, y, z, t] w fun e w' => e = .returned (.bool true) ∧ Below w.heap.size w w' := by
  obtain ⟨k, rfl, wk⟩ := hx
  obtain ⟨hk0, hk1⟩ := bounds_u8 wk
  obtain ⟨n, rfl, wn⟩ := hz
  obtain ⟨hn0, hn1⟩ := bounds_i64 wn
  obtain ⟨d, rfl, wd⟩ := ht
  obtain ⟨hd0, hd1⟩ := bounds_u8 wd
  clear wk wn wd
  obtain ⟨B, hy⟩ := hy
  have hlen := hy.len
  have hbd := hy.bd
  have HY : Hid (∀ w', Below w.heap.size w w' → Em.IsBytes w' y B) := fun w' h => hy.below h
  obtain ⟨a, cap, rfl, -⟩ := hy
  by_cases h400 : 400 < B.length
  · go_enter Try.func5, Try.ntmps5
    go_wp2_with fail
    go_ret
    exact ⟨rfl, Below.refl _ _⟩
  by_cases hd : d = 0
  · subst hd
    go_enter Try.func5, Try.ntmps5
    go_wp2_with fail
    go_ret
    exact ⟨rfl, Below.refl _ _⟩
  have hd9 : (d == 0) = false := by simpa using hd
  have hfl := Em3.frm_len k B
  have hpl := Em1.put_len B.length
  have hfb := Em3.frm_bytes hk0 hk1 hbd (by omega)
  obtain ⟨m, hm, hm1⟩ := mask65535 n hn0 hn1
  obtain ⟨F, hF⟩ : ∃ F, F = Em3.frm k B := ⟨_, rfl⟩
  rw [← hF] at hfl hfb
  obtain ⟨i, hid⟩ : ∃ i : Nat, i = m % F.length := ⟨_, rfl⟩
  have hi : i < F.length := by rw [hid]; exact Nat.mod_lt _ (by omega)
  have him : (m : Int) % (F.length : Int) = i := by rw [hid]; simp
  obtain ⟨c, hcd⟩ : ∃ c, c = F[i]?.getD 0 := ⟨_, rfl⟩
  have hb := Em.getD_bd hfb i
  rw [← hcd] at hb
  obtain ⟨q, hq, hq0, hq1, hqc⟩ := xor_turn hb.1 hb.2 hd0 hd1 (by omega)
  have HT : Hid (∀ k' B' n', Em3.fget (F.set i q) = some (k', B', n') → n' ≠ F.length) := by
    intro k' B' n' h
    rw [hF] at h hi hcd ⊢
    exact Em3.fget_turned hk0 hk1 hbd (by omega) hi hq0 hq1 (by rw [← hcd]; exact hqc) h
  have HB : Hid (∀ x ∈ F, 0 ≤ x ∧ x ≤ 255) := hfb
  have HCD : Hid (c = F[i]?.getD 0) := hcd
  have HFE : Hid (F = Em3.frm k B) := hF
  have hbk := hk0
  have hf1 : 1 ≤ F.length := by omega
  have hf2 : F.length ≤ 1000 := by omega
  clear hid hcd hqc hF hfb hfl hpl
  go_enter Try.func5, Try.ntmps5
  go_wp2_with fail
  refine (rfput_any k _ B _ hk0 hk1 (HY.out _ (Below.refl _ _)) (by omega)).mono ?_
  rintro e w2 ⟨u2, rfl, hown2, bel2⟩
  rw [← HFE.out] at hown2
  obtain ⟨g, gc, hu, hg1, hg2⟩ := Em.own_shape hown2 (by omega)
  subst hu
  have hcl := own_cell hown2 hi HCD.out
  have hfr := hown2.frozenAt i
  have hset : Em.IsBytes (w2.setCell ⟨g, i, none⟩ (.int .u8 q)) (.slice (some ⟨g, 0, none⟩) F.length gc) (F.set i q) := own_set hown2 HB.out hq0 hq1
  have bel3 : Below w.heap.size w (w2.setCell ⟨g, i, none⟩ (.int .u8 q)) := bel2.setCell hg1 _
  clear hown2 bel2 hbd HY
  go_wp2_with fail
  obtain ⟨w3, hw3⟩ : ∃ w3, w3 = w2.setCell ⟨g, i, none⟩ (.int .u8 q) := ⟨_, rfl⟩
  rw [← hw3] at hset bel3 ⊢
  clear hw3 hcl hfr hg2
  refine (fget_any _ _ _ hset).mono ?_
  rintro e w4 ⟨hgot, hb4⟩
  have bel4 : Below w.heap.size w w4 := bel3.trans (hb4.mono bel3.size)
  clear hset hb4 bel3
  cases hf : Em3.fget (F.set i q) with
  | none =>
    rw [hf] at hgot
    clear hf
    simp only [FGot] at hgot
    subst hgot
    go_wp2_with fail
    refine (known3_any _).mono ?_
    rintro e w5 ⟨rfl, hb5⟩
    have bel5 : Below w.heap.size w w5 := bel4.trans (hb5.mono bel4.size)
    go_wp2_with fail
    go_ret
    exact ⟨rfl, bel5⟩
  | some p =>
    obtain ⟨k', B', n'⟩ := p
    rw [hf] at hgot
    have hne := HT.out k' B' n' hf
    have hne' : ((n' : Int) == (F.length : Int)) = false := by rw [beq_eq_false_iff_ne]; omega
    have hne2 : ((n' : Int) != (F.length : Int)) = true := by rw [bne, hne']; rfl
    clear hf
    simp only [FGot] at hgot
    obtain ⟨v4, rfl, -⟩ := hgot
    go_wp2_with fail
    refine (known3_any _).mono ?_
    rintro e w5 ⟨rfl, hb5⟩
    have bel5 : Below w.heap.size w w5 := bel4.trans (hb5.mono bel4.size)
    go_wp2_with fail
    go_ret
    exact ⟨rfl, bel5⟩

theorem frameTurned_own : ownKnob Try.prog.godebug = none := by kernel_rfl
theorem frameTurned_laidOut : laidOutB Try.prog = true := by kernel_rfl
set_option maxRecDepth 100000 in
theorem frameTurned_lifted (os : Os) (started : os.Started) (H : Type) (enc : TypeId × Value → H) :
    ReturnsInHanded {} Try.checked os 5 .any (Rows.frameTurnedSpec.pre6 enc Try.prog Try.f5 Rows.frameTurnedRow.domain false) (Rows.frameTurnedSpec.post enc Try.prog Try.f5 false true false false) := by
  refine returnsInHanded_of_change (C := Try.checked) frameTurned_own started (by kernel_rfl) Try.func5
    (ChangeSpec.witness6 (enc := enc) (C := Try.checked) false ⟨#[], #[.int .u8 0, .slice none 0 0, .int .i64 0, .int .u8 0], []⟩ 8 (by kernel_rfl) (by kernel_rfl) (by kernel_rfl) (by kernel_rfl)) ?_
  intro W base args ds gs before hval0 hW hcnd _
  have hval : ∀ (j : Nat) t v, Try.f5.params[j]? = some t → args[j]? = some v → Value.okWide Try.prog W .any base t v := hval0
  have hW' := hW
  obtain ⟨p, q, hA0, hV, rfl, hfz, hnd⟩ := hW
  have hA : DataW.TrodAll enc Try.prog W 0 (fun _ => true) true Try.f5.params.toList args.toList ds p := hA0
  rw [Try.params5] at hA hval
  obtain ⟨v0, vs0, d0, ds0, p0, q0, hargs, rfl, rfl, h0, r0⟩ := trodAll_cons hA
  obtain ⟨v1, vs1, d1, ds1, p1, q1, rfl, rfl, rfl, h1, r1⟩ := trodAll_cons r0
  obtain ⟨v2, vs2, d2, ds2, p2, q2, rfl, rfl, rfl, h2, r2⟩ := trodAll_cons r1
  obtain ⟨v3, vs3, d3, ds3, p3, q3, rfl, rfl, rfl, h3, r3⟩ := trodAll_cons r2
  obtain ⟨rfl, rfl, rfl⟩ := trodAll_nil r3
  obtain rfl : args = #[v0, v1, v2, v3] := by cases args; simp_all
  obtain ⟨rfl, rfl⟩ := trodVars_none hV
  have lt0 : ∀ x ∈ p0, x.block < W.heap.size := by obtain ⟨m, hm⟩ := h0; exact DataW.trod_lt m _ _ _ hm
  have o0 := Em.open_int Try.underlying5 (hval 0 5 v0 rfl rfl) h0
  have lt1 : ∀ x ∈ p1, x.block < W.heap.size := by obtain ⟨m, hm⟩ := h1; exact DataW.trod_lt m _ _ _ hm
  have o1 := Em.open_bytes (e := 5) Try.underlying22 Try.underlying5 (by kernel_rfl) (hval 1 22 v1 rfl rfl) h1
  have lt2 : ∀ x ∈ p2, x.block < W.heap.size := by obtain ⟨m, hm⟩ := h2; exact DataW.trod_lt m _ _ _ hm
  have o2 := Em.open_int Try.underlying3 (hval 2 3 v2 rfl rfl) h2
  have lt3 : ∀ x ∈ p3, x.block < W.heap.size := by obtain ⟨m, hm⟩ := h3; exact DataW.trod_lt m _ _ _ hm
  have o3 := Em.open_int Try.underlying5 (hval 3 5 v3 rfl rfl) h3
  clear hA0 hval0
  refine (walk_frameTurned W v0 v1 v2 v3 o0 o1 o2 o3).mono fun e W' ⟨he, bel⟩ => ?_
  subst he
  exact ⟨_, rfl, _, _, _, [], _, [], hW', trodAll_mk1 (shut_bool Try.underlying4 _), (trodAll_cons_mk (Below.trod frameTurned_laidOut (by kernel_rfl) (of_decide_eq_true (by kernel_rfl)) h0 bel lt0) (trodAll_cons_mk (Below.trod frameTurned_laidOut (by kernel_rfl) (of_decide_eq_true (by kernel_rfl)) h1 bel lt1) (trodAll_cons_mk (Below.trod frameTurned_laidOut (by kernel_rfl) (of_decide_eq_true (by kernel_rfl)) h2 bel lt2) (trodAll_cons_mk (Below.trod frameTurned_laidOut (by kernel_rfl) (of_decide_eq_true (by kernel_rfl)) h3 bel lt3) trodAll_mk0)))), rfl, bel.frame _, fun h => by cases h⟩
theorem frameTurned_holds : Rows.FrameTurnedSaid :=
  OpenClaim.holds_of_wide 5 Try.f5 rfl rfl rfl rfl rfl rfl rfl ⟨rfl, rfl, rfl, rfl, rfl⟩ rfl rfl rfl rfl rfl (by kernel_rfl) Try.func5 (by kernel_rfl)
    (of_decide_eq_true (by kernel_rfl)) (by unfold Func.isWrapper; first | (rw [if_pos (by decide +kernel)]; kernel_rfl) | (rw [if_neg (by decide +kernel)]; exact ⟨rfl, rfl⟩))
    (fun os started H enc _ => frameTurned_lifted os started H enc)
#print axioms frameTurned_holds
end Go.Proofs.Ytecoopclaogoiaa

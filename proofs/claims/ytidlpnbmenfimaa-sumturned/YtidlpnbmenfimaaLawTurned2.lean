/- SumTurned: one byte turned turns the sum and the mark. No condition. -/
import Derived.Test.YtidlpnbmenfimaaKnown2
import Derived.Test.YtidlpnbmenfimaaFrame
import Derived.Laws.AppendOwnNone
import Derived.Laws.OwnMore
namespace Go.Proofs.Ytidlpnbmenfimaa
open Go.ChangeShapes Go.WideShapes Go.ChangeAt Go.RowKit
set_option linter.unusedVariables false

theorem flatt1 (L : List Int) : List.flatten [L] = L := by simp
theorem infoByte2 : (Try.prog.info? 5).map (fun i => (i.zero, i.size, i.bytes)) = some (some (.int .u8 0), 1, 1) := by kernel_rfl
theorem mask65535 (x : Int) (h1 : -9223372036854775808 ≤ x) (h2 : x ≤ 9223372036854775807) : ∃ m : Nat, bits .and .i64 x 65535 = m ∧ m ≤ 65535 := by
  have key : (BitVec.ofInt 64 x &&& BitVec.ofInt 64 65535).toNat ≤ 65535 := by
    rw [BitVec.toNat_and]
    have : (BitVec.ofInt 64 65535).toNat = 65535 := by decide
    rw [this]
    exact Nat.and_le_right
  refine ⟨(BitVec.ofInt 64 x &&& BitVec.ofInt 64 65535).toNat, ?_, key⟩
  show IntKind.i64.wrap ((BitVec.ofInt 64 x &&& BitVec.ofInt 64 65535).toNat : Int) = _
  rw [IntKind.wrap_i64]
  omega
theorem xor_turn {c d : Int} (c0 : 0 ≤ c) (c1 : c ≤ 255) (d0 : 0 ≤ d) (d1 : d ≤ 255) (hd : d ≠ 0) : ∃ e, bits .xor .u8 c d = e ∧ 0 ≤ e ∧ e ≤ 255 ∧ e ≠ c := by
  refine ⟨_, rfl, ?_⟩
  rw [u8_xor _ _ c0 (by omega) d0 (by omega)]
  have h := Nat.xor_lt_two_pow (n := 8) (x := c.toNat) (y := d.toNat) (by omega) (by omega)
  refine ⟨by omega, by omega, fun e => ?_⟩
  have e2 : c.toNat ^^^ d.toNat = c.toNat := by omega
  have e3 := Em2.nat_xor_left (a := d.toNat) (b := 0) (c := c.toNat) (by simpa using e2)
  omega

/-- A byte of one's own. -/
theorem own_cell {w : World} {B g cap k : Nat} {L : List Int} {c : Int} (h : w.ownsRow B 5 1 (.slice (some ⟨g, 0, none⟩) L.length cap) L.length (L.map (Value.int .u8))) (hk : k < L.length) (hc : c = L[k]?.getD 0) :
    w.cell? ⟨g, k, none⟩ = some (.int .u8 c) := by
  rw [h.cellAt k (by omega), hc]
  simp [hk]
/-- A store into bytes of one's own. -/
theorem own_set {w : World} {B g cap k : Nat} {L : List Int} {c : Int} (h : w.ownsRow B 5 1 (.slice (some ⟨g, 0, none⟩) L.length cap) L.length (L.map (Value.int .u8))) (hL : ∀ x ∈ L, 0 ≤ x ∧ x ≤ 255) (c0 : 0 ≤ c) (c1 : c ≤ 255) :
    Em.IsBytes (w.setCell ⟨g, k, none⟩ (.int .u8 c)) (.slice (some ⟨g, 0, none⟩) L.length cap) (L.set k c) := by
  have h1 := (h.stored k (.int .u8 c)).1
  rw [← List.map_set] at h1
  refine Em.IsBytes.own (base := B) (e := 5) (fun x hx => ?_) (by simpa using h1)
  rcases List.mem_or_eq_of_mem_set hx with hx | rfl
  · exact hL x hx
  · exact ⟨c0, c1⟩

set_option maxRecDepth 100000 in
set_option maxHeartbeats 1000000 in
theorem walk_sumTurned (w : World) (y z t : Value) (hy : ∃ L, Em.IsBytes w y L) (hz : ∃ n, z = .int .i64 n ∧ (Lit.int .i64 n).wf = true) (ht : ∃ n, t = .int .u8 n ∧ (Lit.int .u8 n).wf = true) :
    Calls Try.prog 5 #[y, z, t] w fun e w' => e = .returned (.bool true) ∧ Below w.heap.size w w' := by
  obtain ⟨L, hy⟩ := hy
  obtain ⟨n, rfl, wn⟩ := hz
  obtain ⟨hn0, hn1⟩ := bounds_i64 wn
  obtain ⟨d, rfl, wd⟩ := ht
  obtain ⟨hd0, hd1⟩ := bounds_u8 wd
  clear wn wd
  have hlen := hy.len
  have HY : Hid (∀ w', Below w.heap.size w w' → Em.IsBytes w' y L) := fun w' h => hy.below h
  obtain ⟨i0, hi, hz0, hz1, hz2⟩ := info_parts infoByte2
  by_cases h1 : L.length < 1
  · obtain ⟨a, cap, rfl, -⟩ := id hy
    clear hy HY hi
    go_enter Try.func5, Try.ntmps5
    go_wp2_with fail
    go_ret
    exact ⟨rfl, Below.refl _ _⟩
  by_cases h50 : 2000 < L.length
  · obtain ⟨a, cap, rfl, -⟩ := id hy
    clear hy HY hi
    go_enter Try.func5, Try.ntmps5
    go_wp2_with fail
    go_ret
    exact ⟨rfl, Below.refl _ _⟩
  by_cases hd : d = 0
  · subst hd
    obtain ⟨a, cap, rfl, -⟩ := id hy
    clear hy HY hi
    go_enter Try.func5, Try.ntmps5
    go_wp2_with fail
    go_ret
    exact ⟨rfl, Below.refl _ _⟩
  obtain ⟨b, off, cap, rfl, hcap1, hcap2, -⟩ := hy.plain (by omega)
  have hd9 : (d == 0) = false := by simpa using hd
  have hbd := hy.bd
  obtain ⟨m, hm, hm1⟩ := mask65535 n hn0 hn1
  obtain ⟨k, hkd⟩ : ∃ k : Nat, k = m % L.length := ⟨_, rfl⟩
  have hk : k < L.length := by rw [hkd]; exact Nat.mod_lt _ (by omega)
  have hkm : (m : Int) % (L.length : Int) = k := by rw [hkd]; simp
  obtain ⟨c, hcd⟩ : ∃ c, c = L[k]?.getD 0 := ⟨_, rfl⟩
  have hb := Em.getD_bd hbd k
  rw [← hcd] at hb
  obtain ⟨x, hx, hx0, hx1, hxc⟩ := xor_turn hb.1 hb.2 hd0 hd1 (by omega)
  have HA : Hid ((Em2.adler (L.set k x) == Em2.adler L) = false) := by
    rw [Hid, beq_eq_false_iff_ne]; exact Em2.adler_turn hk hbd hx0 hx1 (by rw [← hcd]; exact hxc)
  have HM : Hid ((Em2.mark (L.set k x) == Em2.mark L) = false) := by
    rw [Hid, beq_eq_false_iff_ne]; exact Em2.mark_turn hk hbd hx0 hx1 (by rw [← hcd]; exact hxc)
  have HB : Hid (∀ x ∈ L, 0 ≤ x ∧ x ≤ 255) := hbd
  have HCD : Hid (c = L[k]?.getD 0) := hcd
  have o1 : (w.alloc (.cells #[] 5)).ownsRow w.heap.size 5 1 (.slice (some ⟨w.heap.size, 0, none⟩) 0 0) 0 [] := World.ownsRow_made w #[] 0 (Nat.le_refl _) (by simp [maxLen]) rfl
  have bel1 : Below w.heap.size w (w.alloc (.cells #[] 5)) := (Below.refl _ _).alloc (Nat.le_refl _) _
  have n1 := (hy.below bel1).news
  clear hkd hcd hbd hxc hy
  go_enter Try.func5, Try.ntmps5
  go_wp2_with (at_builtin; refine wpList_append_own _ rfl _ _ 22 rfl w.heap.size 5 i0 (.int .u8 0) 1 1 Try.underlying22 hi hz0 hz1 hz2 rfl (by decide) _ _ _ rfl o1 ⟨b, off, none⟩ L.length cap (L.map (Value.int .u8)) rfl (by simp) n1 (Em.oneCells L) (by unfold maxLen; omega) (by omega) (by simp) ?_; intro v2 w2 hown2 hgrow2 _; simp only [Nat.zero_add, List.nil_append] at hown2; have bel2 : Below w.heap.size w w2 := bel1.grown hgrow2 (by simp) (fun k hk => (o1.lt k hk).1); clear o1 n1 hgrow2; obtain ⟨g, gc, hu, hg1, hg2⟩ := Em.own_shape hown2 (by omega); subst hu; have hcl := own_cell hown2 hk HCD.out; have hfr := hown2.frozenAt k)
  have hset : Em.IsBytes (w2.setCell ⟨g, k, none⟩ (.int .u8 x)) (.slice (some ⟨g, 0, none⟩) L.length gc) (L.set k x) := own_set hown2 HB.out hx0 hx1
  have bel3 : Below w.heap.size w (w2.setCell ⟨g, k, none⟩ (.int .u8 x)) := bel2.setCell hg1 _
  obtain ⟨w3, hw3⟩ : ∃ w3, w3 = w2.setCell ⟨g, k, none⟩ (.int .u8 x) := ⟨_, rfl⟩
  have hsz : w2.heap.size = w3.heap.size := by rw [hw3]; simp
  rw [← hw3] at hset bel3 ⊢
  rw [hsz]
  have HS : Hid (∀ w', Below w3.heap.size w3 w' → Em.IsBytes w' (.slice (some ⟨g, 0, none⟩) L.length gc) (L.set k x)) := fun w' h => hset.below h
  clear hset hw3 hcl hfr hown2 bel2 hsz hg2
  have hb1 : Below w3.heap.size w3 (w3.alloc (.cells #[.slice (some ⟨g, 0, none⟩) L.length gc] 22)) := (Below.refl _ _).alloc (Nat.le_refl _) _
  have hb2 := hb1.alloc hb1.size (.cells #[.slice (some ⟨b, off, none⟩) L.length cap] 22)
  have hb3 := hb2.alloc hb2.size (.cells #[.slice (some ⟨g, 0, none⟩) L.length gc] 22)
  have hb4 := hb3.alloc hb3.size (.cells #[.slice (some ⟨b, off, none⟩) L.length cap] 22)
  refine (adler_any _ _ _ (Em.rows_one _ 22 (by simp) (HS.out _ (Below.refl _ _)))).mono ?_
  rintro e w1 ⟨rfl, rfl⟩
  rw [flatt1]
  go_wp2_with fail
  refine (adler_any _ _ _ (Em.rows_one _ 22 (by simp) (HY.out _ (bel3.trans (hb1.mono bel3.size))))).mono ?_
  rintro e w1 ⟨rfl, rfl⟩
  rw [flatt1]
  have hA := HA.out
  have hA' : (Em2.adler (L.set k x) != Em2.adler L) = true := by rw [bne, hA]; rfl
  go_wp2_with fail
  refine (mark_any _ _ _ (Em.rows_one _ 22 (by simp) (HS.out _ hb2))).mono ?_
  rintro e w1 ⟨rfl, rfl⟩
  rw [flatt1]
  go_wp2_with fail
  refine (mark_any _ _ _ (Em.rows_one _ 22 (by simp) (HY.out _ (bel3.trans (hb3.mono bel3.size))))).mono ?_
  rintro e w1 ⟨rfl, rfl⟩
  rw [flatt1]
  have hM := HM.out
  have hM' : (Em2.mark (L.set k x) != Em2.mark L) = true := by rw [bne, hM]; rfl
  go_wp2_with fail
  refine (known2_any _).mono ?_
  rintro e w6 ⟨rfl, hb7⟩
  have bel6 : Below w.heap.size w w6 := (bel3.trans (hb4.mono bel3.size)).trans (hb7.mono (bel3.trans (hb4.mono bel3.size)).size)
  clear hb7 hb1 hb2 hb3 hb4
  go_wp2_with fail
  go_ret
  exact ⟨rfl, bel6⟩

theorem sumTurned_own : ownKnob Try.prog.godebug = none := by kernel_rfl
theorem sumTurned_laidOut : laidOutB Try.prog = true := by kernel_rfl
set_option maxRecDepth 100000 in
theorem sumTurned_lifted (os : Os) (started : os.Started) (H : Type) (enc : TypeId × Value → H) :
    ReturnsInHanded {} Try.checked os 5 .any (Rows.sumTurnedSpec.pre6 enc Try.prog Try.f5 Rows.sumTurnedRow.domain false) (Rows.sumTurnedSpec.post enc Try.prog Try.f5 false true false false) := by
  refine returnsInHanded_of_change (C := Try.checked) sumTurned_own started (by kernel_rfl) Try.func5
    (ChangeSpec.witness6 (enc := enc) (C := Try.checked) false ⟨#[], #[.slice none 0 0, .int .i64 0, .int .u8 0], []⟩ 8 (by kernel_rfl) (by kernel_rfl) (by kernel_rfl) (by kernel_rfl)) ?_
  intro W base args ds gs before hval0 hW hcnd _
  have hval : ∀ (j : Nat) t v, Try.f5.params[j]? = some t → args[j]? = some v → Value.okWide Try.prog W .any base t v := hval0
  have hW' := hW
  obtain ⟨p, q, hA0, hV, rfl, hfz, hnd⟩ := hW
  have hA : DataW.TrodAll enc Try.prog W 0 (fun _ => true) true Try.f5.params.toList args.toList ds p := hA0
  rw [Try.params5] at hA hval
  obtain ⟨v0, vs0, d0, ds0, p0, q0, hargs, rfl, rfl, h0, r0⟩ := trodAll_cons hA
  obtain ⟨v1, vs1, d1, ds1, p1, q1, rfl, rfl, rfl, h1, r1⟩ := trodAll_cons r0
  obtain ⟨v2, vs2, d2, ds2, p2, q2, rfl, rfl, rfl, h2, r2⟩ := trodAll_cons r1
  obtain ⟨rfl, rfl, rfl⟩ := trodAll_nil r2
  obtain rfl : args = #[v0, v1, v2] := by cases args; simp_all
  obtain ⟨rfl, rfl⟩ := trodVars_none hV
  have lt0 : ∀ x ∈ p0, x.block < W.heap.size := by obtain ⟨m, hm⟩ := h0; exact DataW.trod_lt m _ _ _ hm
  have o0 := Em.open_bytes (e := 5) Try.underlying22 Try.underlying5 (by kernel_rfl) (hval 0 22 v0 rfl rfl) h0
  have lt1 : ∀ x ∈ p1, x.block < W.heap.size := by obtain ⟨m, hm⟩ := h1; exact DataW.trod_lt m _ _ _ hm
  have o1 := Em.open_int Try.underlying3 (hval 1 3 v1 rfl rfl) h1
  have lt2 : ∀ x ∈ p2, x.block < W.heap.size := by obtain ⟨m, hm⟩ := h2; exact DataW.trod_lt m _ _ _ hm
  have o2 := Em.open_int Try.underlying5 (hval 2 5 v2 rfl rfl) h2
  clear hA0 hval0
  refine (walk_sumTurned W v0 v1 v2 o0 o1 o2).mono fun e W' ⟨he, bel⟩ => ?_
  subst he
  exact ⟨_, rfl, _, _, _, [], _, [], hW', trodAll_mk1 (shut_bool Try.underlying4 _), (trodAll_cons_mk (Below.trod sumTurned_laidOut (by kernel_rfl) (of_decide_eq_true (by kernel_rfl)) h0 bel lt0) (trodAll_cons_mk (Below.trod sumTurned_laidOut (by kernel_rfl) (of_decide_eq_true (by kernel_rfl)) h1 bel lt1) (trodAll_cons_mk (Below.trod sumTurned_laidOut (by kernel_rfl) (of_decide_eq_true (by kernel_rfl)) h2 bel lt2) trodAll_mk0))), rfl, bel.frame _, fun h => by cases h⟩
theorem sumTurned_holds : Rows.SumTurnedSaid :=
  OpenClaim.holds_of_wide 5 Try.f5 rfl rfl rfl rfl rfl rfl rfl ⟨rfl, rfl, rfl, rfl, rfl⟩ rfl rfl rfl rfl rfl (by kernel_rfl) Try.func5 (by kernel_rfl)
    (of_decide_eq_true (by kernel_rfl)) (by unfold Func.isWrapper; first | (rw [if_pos (by decide +kernel)]; kernel_rfl) | (rw [if_neg (by decide +kernel)]; exact ⟨rfl, rfl⟩))
    (fun os started H enc _ => sumTurned_lifted os started H enc)
#print axioms sumTurned_holds
end Go.Proofs.Ytidlpnbmenfimaa

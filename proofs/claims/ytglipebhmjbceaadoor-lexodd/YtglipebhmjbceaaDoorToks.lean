/- What the document's own Same of tokens answers. -/
import Derived.Test.YtglipebhmjbceaaDoorToks0
namespace Go.Proofs.YtglipebhmjbceaaDoor
open Go.RowKit
set_option linter.unusedSimpArgs false

theorem tok_ext {s t : Em4.Tok} (h1 : s.kind = t.kind) (h2 : s.text = t.text) (h3 : s.num = t.num) (h4 : s.pos = t.pos) : s = t := by
  cases s; cases t; simp_all

set_option maxRecDepth 100000 in
set_option maxHeartbeats 2000000 in
theorem rsame_any (u v : Value) (l m : List Em4.Tok) (w : World) (hu : IsToks w u l) (hv : IsToks w v m) :
    Calls Tryd.prog 10 #[u, v] w fun e w' => e = .returned (.bool (decide (l = m))) ∧ Below w.heap.size w w' := by
  obtain ⟨a, ca, rfl, a1, a2, a3, HA⟩ := hu
  obtain ⟨b, cb, rfl, b1, b2, b3, HB⟩ := hv
  unfold maxLen at a2 b2
  have HA3 : Hid (∀ t ∈ l, ∀ x ∈ t.text, 0 ≤ x ∧ x ≤ 255) := a3
  have HB3 : Hid (∀ t ∈ m, ∀ x ∈ t.text, 0 ≤ x ∧ x ≤ 255) := b3
  clear a3 b3
  by_cases hl : l.length = m.length
  · have hl' : ((l.length : Int) != (m.length : Int)) = false := by rw [hl]; simp
    have hlI : ((l.length : Int) == (m.length : Int)) = true := by rw [hl]; simp
    by_cases hp : 0 < l.length
    · obtain ⟨ba, oa, rfl, hca⟩ := HA hp
      obtain ⟨bb, ob, rfl, hcb⟩ := HB (by omega)
      have HCA : Hid (∀ j t, l[j]? = some t → w.cell? ⟨ba, oa + j * 4, none⟩ = some (.int .i64 t.kind) ∧ w.cell? ⟨ba, oa + j * 4 + 1, none⟩ = some (.string (Em.str t.text)) ∧ w.cell? ⟨ba, oa + j * 4 + 2, none⟩ = some (.int .i64 t.num) ∧ w.cell? ⟨ba, oa + j * 4 + 3, none⟩ = some (.int .i64 t.pos)) := hca
      have HCB : Hid (∀ j t, m[j]? = some t → w.cell? ⟨bb, ob + j * 4, none⟩ = some (.int .i64 t.kind) ∧ w.cell? ⟨bb, ob + j * 4 + 1, none⟩ = some (.string (Em.str t.text)) ∧ w.cell? ⟨bb, ob + j * 4 + 2, none⟩ = some (.int .i64 t.num) ∧ w.cell? ⟨bb, ob + j * 4 + 3, none⟩ = some (.int .i64 t.pos)) := hcb
      clear hca hcb HA HB
      have HL : Hid (l.length = m.length) := hl
      clear hl
      go_enter Tryd.func10, Tryd.ntmps10
      go_wp2
      go_loopw [5] (fun i wr => ∃ k q : Nat, k ≤ l.length ∧ i = .int .i64 k ∧ wr = w.drewN q ∧ Hid (∀ j, j < k → l[j]? = m[j]?)) (fun i _ => l.length - (intOf i).toNat)
      case atStart => exact ⟨0, 0, Nat.zero_le _, rfl, rfl, fun j h => by omega⟩
      case round =>
        obtain ⟨k, q, hk, rfl, rfl, HD⟩ := hrel
        by_cases hlt : k < l.length
        · obtain ⟨s, hs⟩ : ∃ s, l[k]? = some s := ⟨_, List.getElem?_eq_getElem hlt⟩
          obtain ⟨t, ht⟩ : ∃ t, m[k]? = some t := ⟨_, List.getElem?_eq_getElem (by have := HL.out; omega)⟩
          obtain ⟨c1, c2, c3, c4⟩ := HCA.out k s hs
          obtain ⟨d1, d2, d3, d4⟩ := HCB.out k t ht
          have hkm : (k : Int) < (m.length : Int) := by have := HL.out; omega
          have hkl : (k : Int) < (l.length : Int) := by omega
          have hk0 : (0 : Int) ≤ (k : Int) := by omega
          have hbs : ∀ x ∈ s.text, 0 ≤ x ∧ x ≤ 255 := HA3.out s (List.mem_of_getElem? hs)
          have hbt : ∀ x ∈ t.text, 0 ≤ x ∧ x ≤ 255 := HB3.out t (List.mem_of_getElem? ht)
          have hq2 := (Em.isStr_str hbs).beq (Em.isStr_str hbt)
          have HNE : s ≠ t → Hid (decide (l = m) = false) := fun hne => decide_eq_false (fun e => by rw [e, ht] at hs; exact hne (by simpa using hs.symm))
          have HEQ : Hid (s = t → ∀ j, j < k + 1 → l[j]? = m[j]?) := fun e j hj => by
            by_cases hjk : j = k
            · subst hjk; rw [hs, ht, e]
            · exact HD.out j (by omega)
          clear hbs hbt hs ht
          by_cases e1 : s.kind = t.kind
          · have q1 : (s.kind == t.kind) = true := by rw [beq_iff_eq]; exact e1
            by_cases e2 : s.text = t.text
            · have q2 : ((Em.str s.text).toList == (Em.str t.text).toList) = true := by rw [hq2]; exact decide_eq_true e2
              by_cases e3 : s.num = t.num
              · have q3 : (s.num == t.num) = true := by rw [beq_iff_eq]; exact e3
                by_cases e4 : s.pos = t.pos
                · have q4 : ((s.pos : Int) == (t.pos : Int)) = true := by rw [beq_iff_eq, e4]
                  have HT := HEQ.out (tok_ext e1 e2 e3 e4)
                  have HT' : Hid (∀ j, j < k + 1 → l[j]? = m[j]?) := HT
                  clear HT HEQ HNE e1 e2 e3 e4 hq2
                  go_wp2_with fail
                  go_quiet (fail)
                  go_wp2
                  go_roundw
                  case rel => exact ⟨k + 1, q + nq, by omega, by go_num, rfl, HT'⟩
                  case measure => simp [intOf]; omega
                · have q4 : ((s.pos : Int) == (t.pos : Int)) = false := by rw [beq_eq_false_iff_ne]; omega
                  have HF := HNE (fun e => e4 (by rw [e]))
                  clear HEQ HNE e1 e2 e3 e4 hq2
                  go_wp2_with fail
                  go_quiet (fail)
                  go_wp2
                  go_ret
                  exact ⟨by rw [HF.out]; rfl, Em.below_drewN (Em.below_drewN (Below.refl _ _) q) nq⟩
              · have q3 : (s.num == t.num) = false := by rw [beq_eq_false_iff_ne]; exact e3
                have HF := HNE (fun e => e3 (by rw [e]))
                clear HEQ HNE e1 e2 e3 hq2
                go_wp2_with fail
                go_quiet (fail)
                go_wp2
                go_ret
                exact ⟨by rw [HF.out]; rfl, Em.below_drewN (Em.below_drewN (Below.refl _ _) q) nq⟩
            · have q2 : ((Em.str s.text).toList == (Em.str t.text).toList) = false := by rw [hq2]; exact decide_eq_false e2
              have HF := HNE (fun e => e2 (by rw [e]))
              clear HEQ HNE e1 e2 hq2
              go_wp2_with fail
              go_quiet (fail)
              go_wp2
              go_ret
              exact ⟨by rw [HF.out]; rfl, Em.below_drewN (Em.below_drewN (Below.refl _ _) q) nq⟩
          · have q1 : (s.kind == t.kind) = false := by rw [beq_eq_false_iff_ne]; exact e1
            have HF := HNE (fun e => e1 (by rw [e]))
            clear HEQ HNE e1 hq2
            go_wp2_with fail
            go_quiet (fail)
            go_wp2
            go_ret
            exact ⟨by rw [HF.out]; rfl, Em.below_drewN (Em.below_drewN (Below.refl _ _) q) nq⟩
        · have HF : Hid (decide (l = m) = true) := by
            refine decide_eq_true (List.ext_getElem? fun j => ?_)
            by_cases hj : j < l.length
            · exact HD.out j (by omega)
            · rw [List.getElem?_eq_none (by omega), List.getElem?_eq_none (by have := HL.out; omega)]
          go_wp2
          go_ret
          exact ⟨by rw [HF.out]; rfl, Em.below_drewN (Below.refl _ _) q⟩
    · have hl0 : l = [] := List.length_eq_zero_iff.1 (by omega)
      have hm0 : m = [] := List.length_eq_zero_iff.1 (by omega)
      subst hl0
      subst hm0
      clear HA HB hl' hlI
      go_enter Tryd.func10, Tryd.ntmps10
      go_wp2
      refine wp_loop_rounds 1 ?_
      rw [rounds_succ]
      go_wp2
      go_ret
      exact ⟨rfl, Below.refl _ _⟩
  · have hl' : ((l.length : Int) != (m.length : Int)) = true := by rw [bne_iff_ne]; omega
    have hlI : ((l.length : Int) == (m.length : Int)) = false := by rw [beq_eq_false_iff_ne]; omega
    have HF : Hid (decide (l = m) = false) := decide_eq_false (fun e => hl (by rw [e]))
    clear HA HB hl
    go_enter Tryd.func10, Tryd.ntmps10
    go_wp2
    go_ret
    exact ⟨by rw [HF.out]; rfl, Below.refl _ _⟩
end Go.Proofs.YtglipebhmjbceaaDoor

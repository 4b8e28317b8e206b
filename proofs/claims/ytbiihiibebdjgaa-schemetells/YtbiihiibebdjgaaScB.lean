/- A list without those among others: without, over slices.DeleteFunc, whose predicate is a BinarySearch (package scheme). -/
import Derived.Test.YtbiihiibebdjgaaScA
import Derived.WalkKit
import Derived.WalkSpells
import Derived.WalkLawsBesides
namespace Go.Proofs.Ytbiihiibebdjgaa
open Go.RowKit Go.Shelf Go.Sort
set_option linter.unusedSimpArgs false
set_option linter.unusedVariables false

set_option maxRecDepth 100000 in
set_option maxHeartbeats 1000000 in
/-- The predicate. -/
theorem spred_any (W : World) (bx : Nat) (u : Value) (R : List Int) (x : Int) (hbox : W.cell? ⟨bx, 0, none⟩ = some u) (hu : IsInts W u R) (hs : R.Pairwise (· ≤ ·)) (hR : R.length ≤ 1000000) :
    FnGives Try.prog 34 #[.pointer (some ⟨bx, 0, none⟩)] #[.int .i64 x] (.bool (decide (x ∈ R))) W := by
  have HU : Hid (IsInts W u R ∧ R.Pairwise (· ≤ ·)) := ⟨hu, hs⟩
  obtain ⟨a, cap, rfl, -⟩ := hu
  have HR : Hid (R.length ≤ 1000000) := hR
  clear hs hR
  unfold FnGives
  show Calls Try.prog 34 #[.int .i64 x, .pointer (some ⟨bx, 0, none⟩)] W _
  go_enter Try.func34, Try.ntmps34
  go_wp2_with fail
  refine (isearch_any _ R x W HU.out.1 HU.out.2 HR.out).mono ?_
  rintro e w' ⟨⟨k, rfl⟩, q, rfl⟩
  go_wp2
  go_ret
  exact ⟨rfl, q, rfl⟩

set_option maxRecDepth 100000 in
set_option maxHeartbeats 1000000 in
theorem sdel_nil (lb : Array Value) (w : World) : Calls Try.prog 33 #[.slice none 0 0, .func (.func 34) #[] lb] w fun e w' => e = .returned (.slice none 0 0) ∧ w' = w := by
  go_enter Try.func33, Try.ntmps33
  go_wp2_with fail
  refine (AnyE.slices_IndexFunc_empty { Try.delf with } none 0 _ w).mono ?_
  rintro e w' ⟨rfl, rfl⟩
  go_wp2
  go_ret
  exact ⟨rfl, rfl⟩

/-- 'without' of a row of one's own: what is not among others that do not fall. -/
theorem swithout_any (B : Nat) (v u : Value) (l R : List Int) (w : World) (h : OwnInts w B v l) (hB : B ≤ w.heap.size) (hl : l.length ≤ 1000000) (hu : IsInts w u R) (hs : R.Pairwise (· ≤ ·)) (hR : R.length ≤ 1000000) (hne : ∀ b, u.ownBlock = some b → v.ownBlock ≠ some b) :
    Calls Try.prog 20 #[v, u] w fun e w' => ∃ v', e = .returned v' ∧ OwnInts w' B v' (l.filter fun x => decide (x ∉ R)) ∧ Below B w w' := by
  have HO : Hid (OwnInts w B v l ∧ B ≤ w.heap.size ∧ l.length ≤ 1000000) := ⟨h, hB, hl⟩
  have HU : Hid (IsInts w u R ∧ R.Pairwise (· ≤ ·) ∧ R.length ≤ 1000000 ∧ ∀ b, u.ownBlock = some b → v.ownBlock ≠ some b) := ⟨hu, hs, hR, hne⟩
  obtain ⟨a, cap, rfl, -⟩ := hu
  obtain ⟨W, hW⟩ : ∃ W, W = w.alloc (.cells #[.slice a R.length cap] 29) := ⟨_, rfl⟩
  have hbW : Below w.heap.size w W := by rw [hW]; exact (Below.refl _ _).alloc (Nat.le_refl _) _
  have hbox : W.cell? ⟨w.heap.size, 0, none⟩ = some (.slice a R.length cap) := by rw [hW]; simp
  have hz : W.heap.size = w.heap.size + 1 := by rw [hW]; simp
  have HWE : Hid (w.alloc (.cells #[.slice a R.length cap] 29) = W) := hW.symm
  have HW : Hid (Below w.heap.size w W ∧ W.cell? ⟨w.heap.size, 0, none⟩ = some (.slice a R.length cap) ∧ W.heap.size = w.heap.size + 1) := ⟨hbW, hbox, hz⟩
  have hdel : Calls Try.prog 33 #[v, .func (.func 34) #[] #[.pointer (some ⟨w.heap.size, 0, none⟩)]] W fun e w' => ∃ v', e = .returned v' ∧ OwnInts w' B v' (l.filter fun x => decide (x ∉ R)) ∧ Below B w w' := by
    have h' : OwnInts W B v l := HO.out.1.below hbW
    rcases h'.cases with ⟨rfl, rfl⟩ | ⟨g, vcap, cur, rfl, h1, h2, h3, h4, h5, h6⟩
    · refine (sdel_nil _ W).mono ?_
      rintro e w' ⟨rfl, rfl⟩
      exact ⟨_, rfl, by simpa using h', hbW.mono HO.out.2.1⟩
    · have hgw : g < w.heap.size := (World.ownsRow.lt (show w.ownsRow B 3 1 _ _ _ from HO.out.1) g rfl).2
      have hneg : ∀ b, (Value.slice a R.length cap).ownBlock = some b → some g ≠ some b := fun b e e2 => HU.out.2.2.2 b e e2
      have hU1 : IsInts W (.slice a R.length cap) R := HU.out.1.below hbW
      refine (AnyE.slices_DeleteFunc Try.delf (Value.int .i64) (fun _ => rfl) (fun x => decide (x ∈ R)) 34 #[.pointer (some ⟨w.heap.size, 0, none⟩)] (enters_of Try.func34 (by kernel_rfl) rfl) 0 Try.zeroValue3 g 0 vcap l.toArray W ?_ ?_ (holds_of_block_i h5 h6) (by have := HO.out.2.2; simp; omega) (by simpa using h3)).mono ?_
      · intro X x hb
        exact spred_any X w.heap.size _ R x ((hb.cell (p := ⟨w.heap.size, 0, none⟩) (by simp only; omega)).trans hbox) (hU1.below hb) HU.out.2.1 HU.out.2.2.1
      · intro n os dk x hsz
        have hg := grownBy_sorted_i (w := W) (g := g) (n := n) (os := os) dk
        refine spred_any _ w.heap.size _ R x ?_ (hU1.grown hg hneg) HU.out.2.1 HU.out.2.2.1
        exact hg.cell hbox (by simp; omega)
      · rintro e w' ⟨rfl, q, rfl⟩
        have hfl : (l.filter fun x => !decide (x ∈ R)).length ≤ l.length := List.length_filter_le _ _
        have hp := h'.put q #[] ((l.filter fun x => !decide (x ∈ R)) ++ List.replicate (l.length - (l.filter fun x => !decide (x ∈ R)).length) 0) (l.filter fun x => !decide (x ∈ R)) (by simp; omega) (by simp)
        rw [Sort.grow_empty] at hp
        have ef : (l.filter fun x => decide (x ∉ R)) = l.filter fun x => !decide (x ∈ R) := by congr 1; funext x; simp
        rw [ef]
        exact ⟨_, rfl, hp.1, (hbW.mono HO.out.2.1).trans hp.2⟩
  clear h hB hl hs hR hne hbW hbox hz hW
  go_enter Try.func20, Try.ntmps20
  go_upto_region 1 with fail
  rw [HWE.out]
  clear HWE
  go_wp2_with fail
  refine hdel.mono ?_
  clear hdel
  rintro e w' ⟨v', rfl, h1, h2⟩
  have H1 : Hid (OwnInts w' B v' (l.filter fun x => decide (x ∉ R)) ∧ Below B w w') := ⟨h1, h2⟩
  clear h1 h2
  go_wp2
  go_ret
  exact ⟨v', rfl, H1.out⟩
end Go.Proofs.Ytbiihiibebdjgaa

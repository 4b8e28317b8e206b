/- ParseOrder's last texts. -/
import Derived.Test.YtgojjknbingfpaaDoorKnG
import Derived.Test.YtgojjknbingfpaaDoorRShC
import Derived.Test.YtgojjknbingfpaaDoorOrder6c
import Derived.Test.YtgojjknbingfpaaDoorRTreeM1
import Derived.Deep.RegionHeld
namespace Go.Proofs.YtgojjknbingfpaaDoor
open Go.RowKit Go.Em5 Go.Em6
set_option linter.unusedVariables false
set_option linter.unusedSimpArgs false

set_option maxRecDepth 100000 in
set_option maxHeartbeats 4000000 in
theorem ord10 (w : World) (hg : IsSigns w) : Calls Tryd.prog 5 #[.int .i64 10] w fun e w' => e = .returned (.bool true) ∧ Below w.heap.size w w' := by
  have HG : Hid (IsSigns w) := hg
  clear hg
  have HB0 : Hid (Below w.heap.size w ((w.alloc (.cells #[.string ⟨#[49, 32, 43, 32, 50, 32, 42, 32, 51]⟩, .string ⟨#[49, 32, 45, 32, 50, 32, 45, 32, 51]⟩, .string ⟨#[49, 32, 58, 58, 32, 50, 32, 58, 58, 32, 91, 93]⟩, .string ⟨#[102, 32, 120, 32, 43, 32, 103, 32, 121]⟩, .string ⟨#[33, 114, 32, 43, 32, 49]⟩, .string ⟨#[97, 32, 58, 61, 32, 49, 32, 43, 32, 50, 59, 32, 98]⟩, .string ⟨#[102, 115, 116, 32, 102, 32, 120]⟩, .string ⟨#[120, 32, 61, 32, 49, 32, 58, 58, 32, 91, 93]⟩, .string ⟨#[108, 101, 116, 32, 120, 32, 61, 32, 49, 32, 105, 110, 32, 120, 59, 32, 50]⟩, .string ⟨#[105, 102, 32, 97, 32, 116, 104, 101, 110, 32, 98, 32, 101, 108, 115, 101, 32, 99, 59, 32, 100]⟩, .string ⟨#[45, 32, 49]⟩, .string ⟨#[102, 117, 110, 32, 120, 32, 45, 62, 32, 120, 32, 121]⟩, .string ⟨#[97, 32, 59, 32, 98, 32, 59, 32, 99]⟩, .string ⟨#[49, 32, 60, 32, 50, 32, 60, 32, 51]⟩] 9)).alloc (.cells #[.string ⟨#[40, 49, 32, 43, 32, 40, 50, 32, 42, 32, 51, 41, 41]⟩, .string ⟨#[40, 40, 49, 32, 45, 32, 50, 41, 32, 45, 32, 51, 41]⟩, .string ⟨#[40, 49, 32, 58, 58, 32, 40, 50, 32, 58, 58, 32, 91, 93, 41, 41]⟩, .string ⟨#[40, 40, 102, 32, 120, 41, 32, 43, 32, 40, 103, 32, 121, 41, 41]⟩, .string ⟨#[40, 33, 114, 32, 43, 32, 49, 41]⟩, .string ⟨#[40, 40, 97, 32, 58, 61, 32, 40, 49, 32, 43, 32, 50, 41, 41, 59, 32, 98, 41]⟩, .string ⟨#[]⟩, .string ⟨#[40, 120, 32, 61, 32, 40, 49, 32, 58, 58, 32, 91, 93, 41, 41]⟩, .string ⟨#[40, 108, 101, 116, 32, 120, 32, 61, 32, 49, 32, 105, 110, 32, 40, 120, 59, 32, 50, 41, 41]⟩, .string ⟨#[40, 105, 102, 32, 97, 32, 116, 104, 101, 110, 32, 98, 32, 101, 108, 115, 101, 32, 40, 99, 59, 32, 100, 41, 41]⟩, .string ⟨#[]⟩, .string ⟨#[40, 102, 117, 110, 32, 120, 32, 45, 62, 32, 40, 120, 32, 121, 41, 41]⟩, .string ⟨#[40, 97, 59, 32, 40, 98, 59, 32, 99, 41, 41]⟩, .string ⟨#[]⟩] 9))) := ((Below.refl _ _).alloc (Nat.le_refl _) _).alloc (by simp) _
  obtain ⟨W0, hW0⟩ : ∃ W0, W0 = (w.alloc (.cells #[.string ⟨#[49, 32, 43, 32, 50, 32, 42, 32, 51]⟩, .string ⟨#[49, 32, 45, 32, 50, 32, 45, 32, 51]⟩, .string ⟨#[49, 32, 58, 58, 32, 50, 32, 58, 58, 32, 91, 93]⟩, .string ⟨#[102, 32, 120, 32, 43, 32, 103, 32, 121]⟩, .string ⟨#[33, 114, 32, 43, 32, 49]⟩, .string ⟨#[97, 32, 58, 61, 32, 49, 32, 43, 32, 50, 59, 32, 98]⟩, .string ⟨#[102, 115, 116, 32, 102, 32, 120]⟩, .string ⟨#[120, 32, 61, 32, 49, 32, 58, 58, 32, 91, 93]⟩, .string ⟨#[108, 101, 116, 32, 120, 32, 61, 32, 49, 32, 105, 110, 32, 120, 59, 32, 50]⟩, .string ⟨#[105, 102, 32, 97, 32, 116, 104, 101, 110, 32, 98, 32, 101, 108, 115, 101, 32, 99, 59, 32, 100]⟩, .string ⟨#[45, 32, 49]⟩, .string ⟨#[102, 117, 110, 32, 120, 32, 45, 62, 32, 120, 32, 121]⟩, .string ⟨#[97, 32, 59, 32, 98, 32, 59, 32, 99]⟩, .string ⟨#[49, 32, 60, 32, 50, 32, 60, 32, 51]⟩] 9)).alloc (.cells #[.string ⟨#[40, 49, 32, 43, 32, 40, 50, 32, 42, 32, 51, 41, 41]⟩, .string ⟨#[40, 40, 49, 32, 45, 32, 50, 41, 32, 45, 32, 51, 41]⟩, .string ⟨#[40, 49, 32, 58, 58, 32, 40, 50, 32, 58, 58, 32, 91, 93, 41, 41]⟩, .string ⟨#[40, 40, 102, 32, 120, 41, 32, 43, 32, 40, 103, 32, 121, 41, 41]⟩, .string ⟨#[40, 33, 114, 32, 43, 32, 49, 41]⟩, .string ⟨#[40, 40, 97, 32, 58, 61, 32, 40, 49, 32, 43, 32, 50, 41, 41, 59, 32, 98, 41]⟩, .string ⟨#[]⟩, .string ⟨#[40, 120, 32, 61, 32, 40, 49, 32, 58, 58, 32, 91, 93, 41, 41]⟩, .string ⟨#[40, 108, 101, 116, 32, 120, 32, 61, 32, 49, 32, 105, 110, 32, 40, 120, 59, 32, 50, 41, 41]⟩, .string ⟨#[40, 105, 102, 32, 97, 32, 116, 104, 101, 110, 32, 98, 32, 101, 108, 115, 101, 32, 40, 99, 59, 32, 100, 41, 41]⟩, .string ⟨#[]⟩, .string ⟨#[40, 102, 117, 110, 32, 120, 32, 45, 62, 32, 40, 120, 32, 121, 41, 41]⟩, .string ⟨#[40, 97, 59, 32, 40, 98, 59, 32, 99, 41, 41]⟩, .string ⟨#[]⟩] 9) := ⟨_, rfl⟩
  have HW0 : Hid ((w.alloc (.cells #[.string ⟨#[49, 32, 43, 32, 50, 32, 42, 32, 51]⟩, .string ⟨#[49, 32, 45, 32, 50, 32, 45, 32, 51]⟩, .string ⟨#[49, 32, 58, 58, 32, 50, 32, 58, 58, 32, 91, 93]⟩, .string ⟨#[102, 32, 120, 32, 43, 32, 103, 32, 121]⟩, .string ⟨#[33, 114, 32, 43, 32, 49]⟩, .string ⟨#[97, 32, 58, 61, 32, 49, 32, 43, 32, 50, 59, 32, 98]⟩, .string ⟨#[102, 115, 116, 32, 102, 32, 120]⟩, .string ⟨#[120, 32, 61, 32, 49, 32, 58, 58, 32, 91, 93]⟩, .string ⟨#[108, 101, 116, 32, 120, 32, 61, 32, 49, 32, 105, 110, 32, 120, 59, 32, 50]⟩, .string ⟨#[105, 102, 32, 97, 32, 116, 104, 101, 110, 32, 98, 32, 101, 108, 115, 101, 32, 99, 59, 32, 100]⟩, .string ⟨#[45, 32, 49]⟩, .string ⟨#[102, 117, 110, 32, 120, 32, 45, 62, 32, 120, 32, 121]⟩, .string ⟨#[97, 32, 59, 32, 98, 32, 59, 32, 99]⟩, .string ⟨#[49, 32, 60, 32, 50, 32, 60, 32, 51]⟩] 9)).alloc (.cells #[.string ⟨#[40, 49, 32, 43, 32, 40, 50, 32, 42, 32, 51, 41, 41]⟩, .string ⟨#[40, 40, 49, 32, 45, 32, 50, 41, 32, 45, 32, 51, 41]⟩, .string ⟨#[40, 49, 32, 58, 58, 32, 40, 50, 32, 58, 58, 32, 91, 93, 41, 41]⟩, .string ⟨#[40, 40, 102, 32, 120, 41, 32, 43, 32, 40, 103, 32, 121, 41, 41]⟩, .string ⟨#[40, 33, 114, 32, 43, 32, 49, 41]⟩, .string ⟨#[40, 40, 97, 32, 58, 61, 32, 40, 49, 32, 43, 32, 50, 41, 41, 59, 32, 98, 41]⟩, .string ⟨#[]⟩, .string ⟨#[40, 120, 32, 61, 32, 40, 49, 32, 58, 58, 32, 91, 93, 41, 41]⟩, .string ⟨#[40, 108, 101, 116, 32, 120, 32, 61, 32, 49, 32, 105, 110, 32, 40, 120, 59, 32, 50, 41, 41]⟩, .string ⟨#[40, 105, 102, 32, 97, 32, 116, 104, 101, 110, 32, 98, 32, 101, 108, 115, 101, 32, 40, 99, 59, 32, 100, 41, 41]⟩, .string ⟨#[]⟩, .string ⟨#[40, 102, 117, 110, 32, 120, 32, 45, 62, 32, 40, 120, 32, 121, 41, 41]⟩, .string ⟨#[40, 97, 59, 32, 40, 98, 59, 32, 99, 41, 41]⟩, .string ⟨#[]⟩] 9) = W0) := hW0.symm
  have HB : Hid (Below w.heap.size w W0) := by rw [hW0]; exact HB0.out
  have HZ : Hid (W0.heap.size = w.heap.size + 2) := by rw [Hid, hW0]; simp
  have HC : Hid (∀ i x, (#[.string ⟨#[40, 49, 32, 43, 32, 40, 50, 32, 42, 32, 51, 41, 41]⟩, .string ⟨#[40, 40, 49, 32, 45, 32, 50, 41, 32, 45, 32, 51, 41]⟩, .string ⟨#[40, 49, 32, 58, 58, 32, 40, 50, 32, 58, 58, 32, 91, 93, 41, 41]⟩, .string ⟨#[40, 40, 102, 32, 120, 41, 32, 43, 32, 40, 103, 32, 121, 41, 41]⟩, .string ⟨#[40, 33, 114, 32, 43, 32, 49, 41]⟩, .string ⟨#[40, 40, 97, 32, 58, 61, 32, 40, 49, 32, 43, 32, 50, 41, 41, 59, 32, 98, 41]⟩, .string ⟨#[]⟩, .string ⟨#[40, 120, 32, 61, 32, 40, 49, 32, 58, 58, 32, 91, 93, 41, 41]⟩, .string ⟨#[40, 108, 101, 116, 32, 120, 32, 61, 32, 49, 32, 105, 110, 32, 40, 120, 59, 32, 50, 41, 41]⟩, .string ⟨#[40, 105, 102, 32, 97, 32, 116, 104, 101, 110, 32, 98, 32, 101, 108, 115, 101, 32, 40, 99, 59, 32, 100, 41, 41]⟩, .string ⟨#[]⟩, .string ⟨#[40, 102, 117, 110, 32, 120, 32, 45, 62, 32, 40, 120, 32, 121, 41, 41]⟩, .string ⟨#[40, 97, 59, 32, 40, 98, 59, 32, 99, 41, 41]⟩, .string ⟨#[]⟩] : Array Value)[i]? = some x → W0.cell? ⟨w.heap.size + 1, i, none⟩ = some x) := fun i x hx => by rw [hW0]; simp; simpa using hx
  clear hW0 HB0
  obtain ⟨a, hp⟩ := of_chkE (L := [45, 32, 49]) (by decide +kernel)
  have HP : Hid (Em6.parse [45, 32, 49] = .error (2, a)) := hp
  clear hp
  go_enter Tryd.func5, Tryd.ntmps5
  go_wp2_with fail
  rw [HW0.out]
  clear HW0
  refine (qparse_any ⟨#[45, 32, 49]⟩ [45, 32, 49] _ ⟨rfl, by decide⟩ (by decide) (HG.out.below HB.out HG.out.lt)).mono ?_
  rintro e w1 ⟨hgot, hb1⟩
  rw [HP.out] at hgot
  simp only [Parsed] at hgot
  subst hgot
  unfold noNd
  have bel1 := HB.out.trans (hb1.mono HB.out.size)
  have bel2 := bel1.alloc bel1.size (.cells #[.string ⟨#[]⟩, .string ⟨#[]⟩, .string ⟨#[]⟩, .int .i64 0, .int .i64 0, .slice none 0 0] 24)
  have kw : w1.cell? ⟨w.heap.size + 1, 10, none⟩ = some (.string ⟨#[]⟩) := by
    rw [hb1.cell (p := ⟨w.heap.size + 1, 10, none⟩) (by rw [HZ.out]; simp)]
    exact HC.out 10 _ rfl
  have hl1 : w.heap.size + 1 < w1.heap.size := by have := hb1.size; rw [HZ.out] at this; omega
  clear hb1 bel1
  go_wp2_with fail
  refine (known6_any _ (HG.out.below bel2 HG.out.lt)).mono ?_
  rintro e w4 ⟨rfl, hb4⟩
  have bel5 := bel2.trans (hb4.mono bel2.size)
  go_wp2_with fail
  go_ret
  exact ⟨rfl, bel5⟩
set_option maxRecDepth 100000 in
set_option maxHeartbeats 4000000 in
theorem ord11 (w : World) (hg : IsSigns w) : Calls Tryd.prog 5 #[.int .i64 11] w fun e w' => e = .returned (.bool true) ∧ Below w.heap.size w w' := by
  have HG : Hid (IsSigns w) := hg
  clear hg
  have HB0 : Hid (Below w.heap.size w ((w.alloc (.cells #[.string ⟨#[49, 32, 43, 32, 50, 32, 42, 32, 51]⟩, .string ⟨#[49, 32, 45, 32, 50, 32, 45, 32, 51]⟩, .string ⟨#[49, 32, 58, 58, 32, 50, 32, 58, 58, 32, 91, 93]⟩, .string ⟨#[102, 32, 120, 32, 43, 32, 103, 32, 121]⟩, .string ⟨#[33, 114, 32, 43, 32, 49]⟩, .string ⟨#[97, 32, 58, 61, 32, 49, 32, 43, 32, 50, 59, 32, 98]⟩, .string ⟨#[102, 115, 116, 32, 102, 32, 120]⟩, .string ⟨#[120, 32, 61, 32, 49, 32, 58, 58, 32, 91, 93]⟩, .string ⟨#[108, 101, 116, 32, 120, 32, 61, 32, 49, 32, 105, 110, 32, 120, 59, 32, 50]⟩, .string ⟨#[105, 102, 32, 97, 32, 116, 104, 101, 110, 32, 98, 32, 101, 108, 115, 101, 32, 99, 59, 32, 100]⟩, .string ⟨#[45, 32, 49]⟩, .string ⟨#[102, 117, 110, 32, 120, 32, 45, 62, 32, 120, 32, 121]⟩, .string ⟨#[97, 32, 59, 32, 98, 32, 59, 32, 99]⟩, .string ⟨#[49, 32, 60, 32, 50, 32, 60, 32, 51]⟩] 9)).alloc (.cells #[.string ⟨#[40, 49, 32, 43, 32, 40, 50, 32, 42, 32, 51, 41, 41]⟩, .string ⟨#[40, 40, 49, 32, 45, 32, 50, 41, 32, 45, 32, 51, 41]⟩, .string ⟨#[40, 49, 32, 58, 58, 32, 40, 50, 32, 58, 58, 32, 91, 93, 41, 41]⟩, .string ⟨#[40, 40, 102, 32, 120, 41, 32, 43, 32, 40, 103, 32, 121, 41, 41]⟩, .string ⟨#[40, 33, 114, 32, 43, 32, 49, 41]⟩, .string ⟨#[40, 40, 97, 32, 58, 61, 32, 40, 49, 32, 43, 32, 50, 41, 41, 59, 32, 98, 41]⟩, .string ⟨#[]⟩, .string ⟨#[40, 120, 32, 61, 32, 40, 49, 32, 58, 58, 32, 91, 93, 41, 41]⟩, .string ⟨#[40, 108, 101, 116, 32, 120, 32, 61, 32, 49, 32, 105, 110, 32, 40, 120, 59, 32, 50, 41, 41]⟩, .string ⟨#[40, 105, 102, 32, 97, 32, 116, 104, 101, 110, 32, 98, 32, 101, 108, 115, 101, 32, 40, 99, 59, 32, 100, 41, 41]⟩, .string ⟨#[]⟩, .string ⟨#[40, 102, 117, 110, 32, 120, 32, 45, 62, 32, 40, 120, 32, 121, 41, 41]⟩, .string ⟨#[40, 97, 59, 32, 40, 98, 59, 32, 99, 41, 41]⟩, .string ⟨#[]⟩] 9))) := ((Below.refl _ _).alloc (Nat.le_refl _) _).alloc (by simp) _
  obtain ⟨W0, hW0⟩ : ∃ W0, W0 = (w.alloc (.cells #[.string ⟨#[49, 32, 43, 32, 50, 32, 42, 32, 51]⟩, .string ⟨#[49, 32, 45, 32, 50, 32, 45, 32, 51]⟩, .string ⟨#[49, 32, 58, 58, 32, 50, 32, 58, 58, 32, 91, 93]⟩, .string ⟨#[102, 32, 120, 32, 43, 32, 103, 32, 121]⟩, .string ⟨#[33, 114, 32, 43, 32, 49]⟩, .string ⟨#[97, 32, 58, 61, 32, 49, 32, 43, 32, 50, 59, 32, 98]⟩, .string ⟨#[102, 115, 116, 32, 102, 32, 120]⟩, .string ⟨#[120, 32, 61, 32, 49, 32, 58, 58, 32, 91, 93]⟩, .string ⟨#[108, 101, 116, 32, 120, 32, 61, 32, 49, 32, 105, 110, 32, 120, 59, 32, 50]⟩, .string ⟨#[105, 102, 32, 97, 32, 116, 104, 101, 110, 32, 98, 32, 101, 108, 115, 101, 32, 99, 59, 32, 100]⟩, .string ⟨#[45, 32, 49]⟩, .string ⟨#[102, 117, 110, 32, 120, 32, 45, 62, 32, 120, 32, 121]⟩, .string ⟨#[97, 32, 59, 32, 98, 32, 59, 32, 99]⟩, .string ⟨#[49, 32, 60, 32, 50, 32, 60, 32, 51]⟩] 9)).alloc (.cells #[.string ⟨#[40, 49, 32, 43, 32, 40, 50, 32, 42, 32, 51, 41, 41]⟩, .string ⟨#[40, 40, 49, 32, 45, 32, 50, 41, 32, 45, 32, 51, 41]⟩, .string ⟨#[40, 49, 32, 58, 58, 32, 40, 50, 32, 58, 58, 32, 91, 93, 41, 41]⟩, .string ⟨#[40, 40, 102, 32, 120, 41, 32, 43, 32, 40, 103, 32, 121, 41, 41]⟩, .string ⟨#[40, 33, 114, 32, 43, 32, 49, 41]⟩, .string ⟨#[40, 40, 97, 32, 58, 61, 32, 40, 49, 32, 43, 32, 50, 41, 41, 59, 32, 98, 41]⟩, .string ⟨#[]⟩, .string ⟨#[40, 120, 32, 61, 32, 40, 49, 32, 58, 58, 32, 91, 93, 41, 41]⟩, .string ⟨#[40, 108, 101, 116, 32, 120, 32, 61, 32, 49, 32, 105, 110, 32, 40, 120, 59, 32, 50, 41, 41]⟩, .string ⟨#[40, 105, 102, 32, 97, 32, 116, 104, 101, 110, 32, 98, 32, 101, 108, 115, 101, 32, 40, 99, 59, 32, 100, 41, 41]⟩, .string ⟨#[]⟩, .string ⟨#[40, 102, 117, 110, 32, 120, 32, 45, 62, 32, 40, 120, 32, 121, 41, 41]⟩, .string ⟨#[40, 97, 59, 32, 40, 98, 59, 32, 99, 41, 41]⟩, .string ⟨#[]⟩] 9) := ⟨_, rfl⟩
  have HW0 : Hid ((w.alloc (.cells #[.string ⟨#[49, 32, 43, 32, 50, 32, 42, 32, 51]⟩, .string ⟨#[49, 32, 45, 32, 50, 32, 45, 32, 51]⟩, .string ⟨#[49, 32, 58, 58, 32, 50, 32, 58, 58, 32, 91, 93]⟩, .string ⟨#[102, 32, 120, 32, 43, 32, 103, 32, 121]⟩, .string ⟨#[33, 114, 32, 43, 32, 49]⟩, .string ⟨#[97, 32, 58, 61, 32, 49, 32, 43, 32, 50, 59, 32, 98]⟩, .string ⟨#[102, 115, 116, 32, 102, 32, 120]⟩, .string ⟨#[120, 32, 61, 32, 49, 32, 58, 58, 32, 91, 93]⟩, .string ⟨#[108, 101, 116, 32, 120, 32, 61, 32, 49, 32, 105, 110, 32, 120, 59, 32, 50]⟩, .string ⟨#[105, 102, 32, 97, 32, 116, 104, 101, 110, 32, 98, 32, 101, 108, 115, 101, 32, 99, 59, 32, 100]⟩, .string ⟨#[45, 32, 49]⟩, .string ⟨#[102, 117, 110, 32, 120, 32, 45, 62, 32, 120, 32, 121]⟩, .string ⟨#[97, 32, 59, 32, 98, 32, 59, 32, 99]⟩, .string ⟨#[49, 32, 60, 32, 50, 32, 60, 32, 51]⟩] 9)).alloc (.cells #[.string ⟨#[40, 49, 32, 43, 32, 40, 50, 32, 42, 32, 51, 41, 41]⟩, .string ⟨#[40, 40, 49, 32, 45, 32, 50, 41, 32, 45, 32, 51, 41]⟩, .string ⟨#[40, 49, 32, 58, 58, 32, 40, 50, 32, 58, 58, 32, 91, 93, 41, 41]⟩, .string ⟨#[40, 40, 102, 32, 120, 41, 32, 43, 32, 40, 103, 32, 121, 41, 41]⟩, .string ⟨#[40, 33, 114, 32, 43, 32, 49, 41]⟩, .string ⟨#[40, 40, 97, 32, 58, 61, 32, 40, 49, 32, 43, 32, 50, 41, 41, 59, 32, 98, 41]⟩, .string ⟨#[]⟩, .string ⟨#[40, 120, 32, 61, 32, 40, 49, 32, 58, 58, 32, 91, 93, 41, 41]⟩, .string ⟨#[40, 108, 101, 116, 32, 120, 32, 61, 32, 49, 32, 105, 110, 32, 40, 120, 59, 32, 50, 41, 41]⟩, .string ⟨#[40, 105, 102, 32, 97, 32, 116, 104, 101, 110, 32, 98, 32, 101, 108, 115, 101, 32, 40, 99, 59, 32, 100, 41, 41]⟩, .string ⟨#[]⟩, .string ⟨#[40, 102, 117, 110, 32, 120, 32, 45, 62, 32, 40, 120, 32, 121, 41, 41]⟩, .string ⟨#[40, 97, 59, 32, 40, 98, 59, 32, 99, 41, 41]⟩, .string ⟨#[]⟩] 9) = W0) := hW0.symm
  have HB : Hid (Below w.heap.size w W0) := by rw [hW0]; exact HB0.out
  have HZ : Hid (W0.heap.size = w.heap.size + 2) := by rw [Hid, hW0]; simp
  have HC : Hid (∀ i x, (#[.string ⟨#[40, 49, 32, 43, 32, 40, 50, 32, 42, 32, 51, 41, 41]⟩, .string ⟨#[40, 40, 49, 32, 45, 32, 50, 41, 32, 45, 32, 51, 41]⟩, .string ⟨#[40, 49, 32, 58, 58, 32, 40, 50, 32, 58, 58, 32, 91, 93, 41, 41]⟩, .string ⟨#[40, 40, 102, 32, 120, 41, 32, 43, 32, 40, 103, 32, 121, 41, 41]⟩, .string ⟨#[40, 33, 114, 32, 43, 32, 49, 41]⟩, .string ⟨#[40, 40, 97, 32, 58, 61, 32, 40, 49, 32, 43, 32, 50, 41, 41, 59, 32, 98, 41]⟩, .string ⟨#[]⟩, .string ⟨#[40, 120, 32, 61, 32, 40, 49, 32, 58, 58, 32, 91, 93, 41, 41]⟩, .string ⟨#[40, 108, 101, 116, 32, 120, 32, 61, 32, 49, 32, 105, 110, 32, 40, 120, 59, 32, 50, 41, 41]⟩, .string ⟨#[40, 105, 102, 32, 97, 32, 116, 104, 101, 110, 32, 98, 32, 101, 108, 115, 101, 32, 40, 99, 59, 32, 100, 41, 41]⟩, .string ⟨#[]⟩, .string ⟨#[40, 102, 117, 110, 32, 120, 32, 45, 62, 32, 40, 120, 32, 121, 41, 41]⟩, .string ⟨#[40, 97, 59, 32, 40, 98, 59, 32, 99, 41, 41]⟩, .string ⟨#[]⟩] : Array Value)[i]? = some x → W0.cell? ⟨w.heap.size + 1, i, none⟩ = some x) := fun i x hx => by rw [hW0]; simp; simpa using hx
  clear hW0 HB0
  obtain ⟨m, hp, hi, ht⟩ := of_chk (L := [102, 117, 110, 32, 120, 32, 45, 62, 32, 120, 32, 121]) (W := [40, 102, 117, 110, 32, 120, 32, 45, 62, 32, 40, 120, 32, 121, 41, 41]) (by decide +kernel)
  have HP : Hid (Em6.parse [102, 117, 110, 32, 120, 32, 45, 62, 32, 120, 32, 121] = .ok m) := hp
  have HI : Hid (isNd m = true) := hi
  have hq : ((Em.str (Em7.text m)).toList == [40, 102, 117, 110, 32, 120, 32, 45, 62, 32, 40, 120, 32, 121, 41, 41]) = true := by rw [ht]; exact (Em5.str_eq (by decide) _).trans (by decide)
  clear hp hi ht
  go_enter Tryd.func5, Tryd.ntmps5
  go_wp2_with fail
  rw [HW0.out]
  clear HW0
  refine (qparse_any ⟨#[102, 117, 110, 32, 120, 32, 45, 62, 32, 120, 32, 121]⟩ [102, 117, 110, 32, 120, 32, 45, 62, 32, 120, 32, 121] _ ⟨rfl, by decide⟩ (by decide) (HG.out.below HB.out HG.out.lt)).mono ?_
  rintro e w1 ⟨hgot, hb1⟩
  rw [HP.out] at hgot
  obtain ⟨v1, rfl, hn1⟩ := hgot
  obtain ⟨x0, x1, x2, xm, xp, xa, xl, xc, rfl⟩ := ndb_shape hn1
  have bel1 := HB.out.trans (hb1.mono HB.out.size)
  have z1 := Six.made w1 (.string x0) (.string x1) (.string x2) (.int .i64 xm) (.int .i64 xp) (.slice xa xl xc) 24
  have bel2 := bel1.alloc bel1.size (.cells #[.string x0, .string x1, .string x2, .int .i64 xm, .int .i64 xp, .slice xa xl xc] 24)
  have d1 := isNd_below ((Below.refl w1.heap.size w1).alloc (Nat.le_refl _) (.cells #[.string x0, .string x1, .string x2, .int .i64 xm, .int .i64 xp, .slice xa xl xc] 24)) _ _ (isNdP_is _ _ hn1)
  have kw : w1.cell? ⟨w.heap.size + 1, 11, none⟩ = some (.string ⟨#[40, 102, 117, 110, 32, 120, 32, 45, 62, 32, 40, 120, 32, 121, 41, 41]⟩) := by
    rw [hb1.cell (p := ⟨w.heap.size + 1, 11, none⟩) (by rw [HZ.out]; simp)]
    exact HC.out 11 _ rfl
  have hl1 : w.heap.size + 1 < w1.heap.size := by have := hb1.size; rw [HZ.out] at this; omega
  have kx : (w1.alloc (.cells #[.string x0, .string x1, .string x2, .int .i64 xm, .int .i64 xp, .slice xa xl xc] 24)).cell? ⟨w.heap.size + 1, 11, none⟩ = some (.string ⟨#[40, 102, 117, 110, 32, 120, 32, 45, 62, 32, 40, 120, 32, 121, 41, 41]⟩) := by rw [World.cell?_alloc_lt _ _ _ hl1]; exact kw
  obtain ⟨X, hX⟩ : ∃ X, X = w1.alloc (.cells #[.string x0, .string x1, .string x2, .int .i64 xm, .int .i64 xp, .slice xa xl xc] 24) := ⟨_, rfl⟩
  have hXz : w.heap.size + 1 < X.heap.size := by rw [hX]; simp; omega
  rw [← hX] at z1 bel2 d1 kx
  have HXE : Hid (w1.alloc (.cells #[.string x0, .string x1, .string x2, .int .i64 xm, .int .i64 xp, .slice xa xl xc] 24) = X) := hX.symm
  have HBX : Hid (Below w.heap.size w X) := bel2
  have HD : Hid (∀ w', Below X.heap.size X w' → IsNd w' m (.agg #[.string x0, .string x1, .string x2, .int .i64 xm, .int .i64 xp, .slice xa xl xc])) := fun w' h => isNd_below h _ _ d1
  have HSG : Hid (∀ w', Below X.heap.size X w' → IsSigns w') := fun w' h => HG.out.below (HBX.out.trans (h.mono HBX.out.size)) HG.out.lt
  have HS : Hid (∀ w', Below X.heap.size X w' → w'.cell? ⟨w1.heap.size, 0, none⟩ = some (.string x0) ∧ w'.cell? ⟨w1.heap.size, 1, none⟩ = some (.string x1) ∧ w'.cell? ⟨w1.heap.size, 2, none⟩ = some (.string x2) ∧ w'.cell? ⟨w1.heap.size, 3, none⟩ = some (.int .i64 xm) ∧ w'.cell? ⟨w1.heap.size, 4, none⟩ = some (.int .i64 xp) ∧ w'.cell? ⟨w1.heap.size, 5, none⟩ = some (.slice xa xl xc) ∧ w'.cell? ⟨w.heap.size + 1, 11, none⟩ = some (.string ⟨#[40, 102, 117, 110, 32, 120, 32, 45, 62, 32, 40, 120, 32, 121, 41, 41]⟩)) := fun w' h => by
    obtain ⟨e0, e1, e2, e3, e4, e5, -⟩ := z1.below h
    exact ⟨e0, e1, e2, e3, e4, e5, by rw [h.cell (p := ⟨w.heap.size + 1, 11, none⟩) hXz]; exact kx⟩
  have b0 : Below X.heap.size X X.drew := (Below.refl _ _).drew
  have kxw := kx
  clear hb1 bel1 hn1 bel2 d1 z1 hX kx
  go_wp2_with fail
  rw [HXE.out]
  go_region_held (fun w' => w'.cell? ⟨w1.heap.size, 0, none⟩ = some (.string x0) ∧ w'.cell? ⟨w1.heap.size, 1, none⟩ = some (.string x1) ∧ w'.cell? ⟨w1.heap.size, 2, none⟩ = some (.string x2) ∧ w'.cell? ⟨w1.heap.size, 3, none⟩ = some (.int .i64 xm) ∧ w'.cell? ⟨w1.heap.size, 4, none⟩ = some (.int .i64 xp) ∧ w'.cell? ⟨w1.heap.size, 5, none⟩ = some (.slice xa xl xc) ∧ w'.cell? ⟨w.heap.size + 1, 11, none⟩ = some (.string ⟨#[40, 102, 117, 110, 32, 120, 32, 45, 62, 32, 40, 120, 32, 121, 41, 41]⟩))
    (with_reducible (first | exact HS.out _ b4 | exact HS.out _ b3 | exact HS.out _ b2 | exact HS.out _ b0))
    (first | (go_at_call 12; refine (rIs_any m _ _ (HD.out _ b0)).mono ?_; rintro e w2 ⟨rfl, hb2⟩; rw [HI.out]; have b2 := b0.trans (hb2.mono b0.size); clear hb2) | (go_at_call 13; refine (stext_any m _ _ (HD.out _ b2) (isNd_each HI.out).1 (isNd_each HI.out).2).mono ?_; rintro e w3 ⟨rfl, hb3⟩; have b3 := b2.trans (hb3.mono b2.size); clear hb3) | (go_at_call 10; refine (known6_any _ (HSG.out _ b3)).mono ?_; rintro e w4 ⟨rfl, hb4⟩; have b4 := b3.trans (hb4.mono b3.size); clear hb4))
  all_goals
    go_wp2_with fail
    go_ret
    exact ⟨rfl, HBX.out.trans (b4.mono HBX.out.size)⟩
set_option maxRecDepth 100000 in
set_option maxHeartbeats 4000000 in
theorem ord12 (w : World) (hg : IsSigns w) : Calls Tryd.prog 5 #[.int .i64 12] w fun e w' => e = .returned (.bool true) ∧ Below w.heap.size w w' := by
  have HG : Hid (IsSigns w) := hg
  clear hg
  have HB0 : Hid (Below w.heap.size w ((w.alloc (.cells #[.string ⟨#[49, 32, 43, 32, 50, 32, 42, 32, 51]⟩, .string ⟨#[49, 32, 45, 32, 50, 32, 45, 32, 51]⟩, .string ⟨#[49, 32, 58, 58, 32, 50, 32, 58, 58, 32, 91, 93]⟩, .string ⟨#[102, 32, 120, 32, 43, 32, 103, 32, 121]⟩, .string ⟨#[33, 114, 32, 43, 32, 49]⟩, .string ⟨#[97, 32, 58, 61, 32, 49, 32, 43, 32, 50, 59, 32, 98]⟩, .string ⟨#[102, 115, 116, 32, 102, 32, 120]⟩, .string ⟨#[120, 32, 61, 32, 49, 32, 58, 58, 32, 91, 93]⟩, .string ⟨#[108, 101, 116, 32, 120, 32, 61, 32, 49, 32, 105, 110, 32, 120, 59, 32, 50]⟩, .string ⟨#[105, 102, 32, 97, 32, 116, 104, 101, 110, 32, 98, 32, 101, 108, 115, 101, 32, 99, 59, 32, 100]⟩, .string ⟨#[45, 32, 49]⟩, .string ⟨#[102, 117, 110, 32, 120, 32, 45, 62, 32, 120, 32, 121]⟩, .string ⟨#[97, 32, 59, 32, 98, 32, 59, 32, 99]⟩, .string ⟨#[49, 32, 60, 32, 50, 32, 60, 32, 51]⟩] 9)).alloc (.cells #[.string ⟨#[40, 49, 32, 43, 32, 40, 50, 32, 42, 32, 51, 41, 41]⟩, .string ⟨#[40, 40, 49, 32, 45, 32, 50, 41, 32, 45, 32, 51, 41]⟩, .string ⟨#[40, 49, 32, 58, 58, 32, 40, 50, 32, 58, 58, 32, 91, 93, 41, 41]⟩, .string ⟨#[40, 40, 102, 32, 120, 41, 32, 43, 32, 40, 103, 32, 121, 41, 41]⟩, .string ⟨#[40, 33, 114, 32, 43, 32, 49, 41]⟩, .string ⟨#[40, 40, 97, 32, 58, 61, 32, 40, 49, 32, 43, 32, 50, 41, 41, 59, 32, 98, 41]⟩, .string ⟨#[]⟩, .string ⟨#[40, 120, 32, 61, 32, 40, 49, 32, 58, 58, 32, 91, 93, 41, 41]⟩, .string ⟨#[40, 108, 101, 116, 32, 120, 32, 61, 32, 49, 32, 105, 110, 32, 40, 120, 59, 32, 50, 41, 41]⟩, .string ⟨#[40, 105, 102, 32, 97, 32, 116, 104, 101, 110, 32, 98, 32, 101, 108, 115, 101, 32, 40, 99, 59, 32, 100, 41, 41]⟩, .string ⟨#[]⟩, .string ⟨#[40, 102, 117, 110, 32, 120, 32, 45, 62, 32, 40, 120, 32, 121, 41, 41]⟩, .string ⟨#[40, 97, 59, 32, 40, 98, 59, 32, 99, 41, 41]⟩, .string ⟨#[]⟩] 9))) := ((Below.refl _ _).alloc (Nat.le_refl _) _).alloc (by simp) _
  obtain ⟨W0, hW0⟩ : ∃ W0, W0 = (w.alloc (.cells #[.string ⟨#[49, 32, 43, 32, 50, 32, 42, 32, 51]⟩, .string ⟨#[49, 32, 45, 32, 50, 32, 45, 32, 51]⟩, .string ⟨#[49, 32, 58, 58, 32, 50, 32, 58, 58, 32, 91, 93]⟩, .string ⟨#[102, 32, 120, 32, 43, 32, 103, 32, 121]⟩, .string ⟨#[33, 114, 32, 43, 32, 49]⟩, .string ⟨#[97, 32, 58, 61, 32, 49, 32, 43, 32, 50, 59, 32, 98]⟩, .string ⟨#[102, 115, 116, 32, 102, 32, 120]⟩, .string ⟨#[120, 32, 61, 32, 49, 32, 58, 58, 32, 91, 93]⟩, .string ⟨#[108, 101, 116, 32, 120, 32, 61, 32, 49, 32, 105, 110, 32, 120, 59, 32, 50]⟩, .string ⟨#[105, 102, 32, 97, 32, 116, 104, 101, 110, 32, 98, 32, 101, 108, 115, 101, 32, 99, 59, 32, 100]⟩, .string ⟨#[45, 32, 49]⟩, .string ⟨#[102, 117, 110, 32, 120, 32, 45, 62, 32, 120, 32, 121]⟩, .string ⟨#[97, 32, 59, 32, 98, 32, 59, 32, 99]⟩, .string ⟨#[49, 32, 60, 32, 50, 32, 60, 32, 51]⟩] 9)).alloc (.cells #[.string ⟨#[40, 49, 32, 43, 32, 40, 50, 32, 42, 32, 51, 41, 41]⟩, .string ⟨#[40, 40, 49, 32, 45, 32, 50, 41, 32, 45, 32, 51, 41]⟩, .string ⟨#[40, 49, 32, 58, 58, 32, 40, 50, 32, 58, 58, 32, 91, 93, 41, 41]⟩, .string ⟨#[40, 40, 102, 32, 120, 41, 32, 43, 32, 40, 103, 32, 121, 41, 41]⟩, .string ⟨#[40, 33, 114, 32, 43, 32, 49, 41]⟩, .string ⟨#[40, 40, 97, 32, 58, 61, 32, 40, 49, 32, 43, 32, 50, 41, 41, 59, 32, 98, 41]⟩, .string ⟨#[]⟩, .string ⟨#[40, 120, 32, 61, 32, 40, 49, 32, 58, 58, 32, 91, 93, 41, 41]⟩, .string ⟨#[40, 108, 101, 116, 32, 120, 32, 61, 32, 49, 32, 105, 110, 32, 40, 120, 59, 32, 50, 41, 41]⟩, .string ⟨#[40, 105, 102, 32, 97, 32, 116, 104, 101, 110, 32, 98, 32, 101, 108, 115, 101, 32, 40, 99, 59, 32, 100, 41, 41]⟩, .string ⟨#[]⟩, .string ⟨#[40, 102, 117, 110, 32, 120, 32, 45, 62, 32, 40, 120, 32, 121, 41, 41]⟩, .string ⟨#[40, 97, 59, 32, 40, 98, 59, 32, 99, 41, 41]⟩, .string ⟨#[]⟩] 9) := ⟨_, rfl⟩
  have HW0 : Hid ((w.alloc (.cells #[.string ⟨#[49, 32, 43, 32, 50, 32, 42, 32, 51]⟩, .string ⟨#[49, 32, 45, 32, 50, 32, 45, 32, 51]⟩, .string ⟨#[49, 32, 58, 58, 32, 50, 32, 58, 58, 32, 91, 93]⟩, .string ⟨#[102, 32, 120, 32, 43, 32, 103, 32, 121]⟩, .string ⟨#[33, 114, 32, 43, 32, 49]⟩, .string ⟨#[97, 32, 58, 61, 32, 49, 32, 43, 32, 50, 59, 32, 98]⟩, .string ⟨#[102, 115, 116, 32, 102, 32, 120]⟩, .string ⟨#[120, 32, 61, 32, 49, 32, 58, 58, 32, 91, 93]⟩, .string ⟨#[108, 101, 116, 32, 120, 32, 61, 32, 49, 32, 105, 110, 32, 120, 59, 32, 50]⟩, .string ⟨#[105, 102, 32, 97, 32, 116, 104, 101, 110, 32, 98, 32, 101, 108, 115, 101, 32, 99, 59, 32, 100]⟩, .string ⟨#[45, 32, 49]⟩, .string ⟨#[102, 117, 110, 32, 120, 32, 45, 62, 32, 120, 32, 121]⟩, .string ⟨#[97, 32, 59, 32, 98, 32, 59, 32, 99]⟩, .string ⟨#[49, 32, 60, 32, 50, 32, 60, 32, 51]⟩] 9)).alloc (.cells #[.string ⟨#[40, 49, 32, 43, 32, 40, 50, 32, 42, 32, 51, 41, 41]⟩, .string ⟨#[40, 40, 49, 32, 45, 32, 50, 41, 32, 45, 32, 51, 41]⟩, .string ⟨#[40, 49, 32, 58, 58, 32, 40, 50, 32, 58, 58, 32, 91, 93, 41, 41]⟩, .string ⟨#[40, 40, 102, 32, 120, 41, 32, 43, 32, 40, 103, 32, 121, 41, 41]⟩, .string ⟨#[40, 33, 114, 32, 43, 32, 49, 41]⟩, .string ⟨#[40, 40, 97, 32, 58, 61, 32, 40, 49, 32, 43, 32, 50, 41, 41, 59, 32, 98, 41]⟩, .string ⟨#[]⟩, .string ⟨#[40, 120, 32, 61, 32, 40, 49, 32, 58, 58, 32, 91, 93, 41, 41]⟩, .string ⟨#[40, 108, 101, 116, 32, 120, 32, 61, 32, 49, 32, 105, 110, 32, 40, 120, 59, 32, 50, 41, 41]⟩, .string ⟨#[40, 105, 102, 32, 97, 32, 116, 104, 101, 110, 32, 98, 32, 101, 108, 115, 101, 32, 40, 99, 59, 32, 100, 41, 41]⟩, .string ⟨#[]⟩, .string ⟨#[40, 102, 117, 110, 32, 120, 32, 45, 62, 32, 40, 120, 32, 121, 41, 41]⟩, .string ⟨#[40, 97, 59, 32, 40, 98, 59, 32, 99, 41, 41]⟩, .string ⟨#[]⟩] 9) = W0) := hW0.symm
  have HB : Hid (Below w.heap.size w W0) := by rw [hW0]; exact HB0.out
  have HZ : Hid (W0.heap.size = w.heap.size + 2) := by rw [Hid, hW0]; simp
  have HC : Hid (∀ i x, (#[.string ⟨#[40, 49, 32, 43, 32, 40, 50, 32, 42, 32, 51, 41, 41]⟩, .string ⟨#[40, 40, 49, 32, 45, 32, 50, 41, 32, 45, 32, 51, 41]⟩, .string ⟨#[40, 49, 32, 58, 58, 32, 40, 50, 32, 58, 58, 32, 91, 93, 41, 41]⟩, .string ⟨#[40, 40, 102, 32, 120, 41, 32, 43, 32, 40, 103, 32, 121, 41, 41]⟩, .string ⟨#[40, 33, 114, 32, 43, 32, 49, 41]⟩, .string ⟨#[40, 40, 97, 32, 58, 61, 32, 40, 49, 32, 43, 32, 50, 41, 41, 59, 32, 98, 41]⟩, .string ⟨#[]⟩, .string ⟨#[40, 120, 32, 61, 32, 40, 49, 32, 58, 58, 32, 91, 93, 41, 41]⟩, .string ⟨#[40, 108, 101, 116, 32, 120, 32, 61, 32, 49, 32, 105, 110, 32, 40, 120, 59, 32, 50, 41, 41]⟩, .string ⟨#[40, 105, 102, 32, 97, 32, 116, 104, 101, 110, 32, 98, 32, 101, 108, 115, 101, 32, 40, 99, 59, 32, 100, 41, 41]⟩, .string ⟨#[]⟩, .string ⟨#[40, 102, 117, 110, 32, 120, 32, 45, 62, 32, 40, 120, 32, 121, 41, 41]⟩, .string ⟨#[40, 97, 59, 32, 40, 98, 59, 32, 99, 41, 41]⟩, .string ⟨#[]⟩] : Array Value)[i]? = some x → W0.cell? ⟨w.heap.size + 1, i, none⟩ = some x) := fun i x hx => by rw [hW0]; simp; simpa using hx
  clear hW0 HB0
  obtain ⟨m, hp, hi, ht⟩ := of_chk (L := [97, 32, 59, 32, 98, 32, 59, 32, 99]) (W := [40, 97, 59, 32, 40, 98, 59, 32, 99, 41, 41]) (by decide +kernel)
  have HP : Hid (Em6.parse [97, 32, 59, 32, 98, 32, 59, 32, 99] = .ok m) := hp
  have HI : Hid (isNd m = true) := hi
  have hq : ((Em.str (Em7.text m)).toList == [40, 97, 59, 32, 40, 98, 59, 32, 99, 41, 41]) = true := by rw [ht]; exact (Em5.str_eq (by decide) _).trans (by decide)
  clear hp hi ht
  go_enter Tryd.func5, Tryd.ntmps5
  go_wp2_with fail
  rw [HW0.out]
  clear HW0
  refine (qparse_any ⟨#[97, 32, 59, 32, 98, 32, 59, 32, 99]⟩ [97, 32, 59, 32, 98, 32, 59, 32, 99] _ ⟨rfl, by decide⟩ (by decide) (HG.out.below HB.out HG.out.lt)).mono ?_
  rintro e w1 ⟨hgot, hb1⟩
  rw [HP.out] at hgot
  obtain ⟨v1, rfl, hn1⟩ := hgot
  obtain ⟨x0, x1, x2, xm, xp, xa, xl, xc, rfl⟩ := ndb_shape hn1
  have bel1 := HB.out.trans (hb1.mono HB.out.size)
  have z1 := Six.made w1 (.string x0) (.string x1) (.string x2) (.int .i64 xm) (.int .i64 xp) (.slice xa xl xc) 24
  have bel2 := bel1.alloc bel1.size (.cells #[.string x0, .string x1, .string x2, .int .i64 xm, .int .i64 xp, .slice xa xl xc] 24)
  have d1 := isNd_below ((Below.refl w1.heap.size w1).alloc (Nat.le_refl _) (.cells #[.string x0, .string x1, .string x2, .int .i64 xm, .int .i64 xp, .slice xa xl xc] 24)) _ _ (isNdP_is _ _ hn1)
  have kw : w1.cell? ⟨w.heap.size + 1, 12, none⟩ = some (.string ⟨#[40, 97, 59, 32, 40, 98, 59, 32, 99, 41, 41]⟩) := by
    rw [hb1.cell (p := ⟨w.heap.size + 1, 12, none⟩) (by rw [HZ.out]; simp)]
    exact HC.out 12 _ rfl
  have hl1 : w.heap.size + 1 < w1.heap.size := by have := hb1.size; rw [HZ.out] at this; omega
  have kx : (w1.alloc (.cells #[.string x0, .string x1, .string x2, .int .i64 xm, .int .i64 xp, .slice xa xl xc] 24)).cell? ⟨w.heap.size + 1, 12, none⟩ = some (.string ⟨#[40, 97, 59, 32, 40, 98, 59, 32, 99, 41, 41]⟩) := by rw [World.cell?_alloc_lt _ _ _ hl1]; exact kw
  obtain ⟨X, hX⟩ : ∃ X, X = w1.alloc (.cells #[.string x0, .string x1, .string x2, .int .i64 xm, .int .i64 xp, .slice xa xl xc] 24) := ⟨_, rfl⟩
  have hXz : w.heap.size + 1 < X.heap.size := by rw [hX]; simp; omega
  rw [← hX] at z1 bel2 d1 kx
  have HXE : Hid (w1.alloc (.cells #[.string x0, .string x1, .string x2, .int .i64 xm, .int .i64 xp, .slice xa xl xc] 24) = X) := hX.symm
  have HBX : Hid (Below w.heap.size w X) := bel2
  have HD : Hid (∀ w', Below X.heap.size X w' → IsNd w' m (.agg #[.string x0, .string x1, .string x2, .int .i64 xm, .int .i64 xp, .slice xa xl xc])) := fun w' h => isNd_below h _ _ d1
  have HSG : Hid (∀ w', Below X.heap.size X w' → IsSigns w') := fun w' h => HG.out.below (HBX.out.trans (h.mono HBX.out.size)) HG.out.lt
  have HS : Hid (∀ w', Below X.heap.size X w' → w'.cell? ⟨w1.heap.size, 0, none⟩ = some (.string x0) ∧ w'.cell? ⟨w1.heap.size, 1, none⟩ = some (.string x1) ∧ w'.cell? ⟨w1.heap.size, 2, none⟩ = some (.string x2) ∧ w'.cell? ⟨w1.heap.size, 3, none⟩ = some (.int .i64 xm) ∧ w'.cell? ⟨w1.heap.size, 4, none⟩ = some (.int .i64 xp) ∧ w'.cell? ⟨w1.heap.size, 5, none⟩ = some (.slice xa xl xc) ∧ w'.cell? ⟨w.heap.size + 1, 12, none⟩ = some (.string ⟨#[40, 97, 59, 32, 40, 98, 59, 32, 99, 41, 41]⟩)) := fun w' h => by
    obtain ⟨e0, e1, e2, e3, e4, e5, -⟩ := z1.below h
    exact ⟨e0, e1, e2, e3, e4, e5, by rw [h.cell (p := ⟨w.heap.size + 1, 12, none⟩) hXz]; exact kx⟩
  have b0 : Below X.heap.size X X.drew := (Below.refl _ _).drew
  have kxw := kx
  clear hb1 bel1 hn1 bel2 d1 z1 hX kx
  go_wp2_with fail
  rw [HXE.out]
  go_region_held (fun w' => w'.cell? ⟨w1.heap.size, 0, none⟩ = some (.string x0) ∧ w'.cell? ⟨w1.heap.size, 1, none⟩ = some (.string x1) ∧ w'.cell? ⟨w1.heap.size, 2, none⟩ = some (.string x2) ∧ w'.cell? ⟨w1.heap.size, 3, none⟩ = some (.int .i64 xm) ∧ w'.cell? ⟨w1.heap.size, 4, none⟩ = some (.int .i64 xp) ∧ w'.cell? ⟨w1.heap.size, 5, none⟩ = some (.slice xa xl xc) ∧ w'.cell? ⟨w.heap.size + 1, 12, none⟩ = some (.string ⟨#[40, 97, 59, 32, 40, 98, 59, 32, 99, 41, 41]⟩))
    (with_reducible (first | exact HS.out _ b4 | exact HS.out _ b3 | exact HS.out _ b2 | exact HS.out _ b0))
    (first | (go_at_call 12; refine (rIs_any m _ _ (HD.out _ b0)).mono ?_; rintro e w2 ⟨rfl, hb2⟩; rw [HI.out]; have b2 := b0.trans (hb2.mono b0.size); clear hb2) | (go_at_call 13; refine (stext_any m _ _ (HD.out _ b2) (isNd_each HI.out).1 (isNd_each HI.out).2).mono ?_; rintro e w3 ⟨rfl, hb3⟩; have b3 := b2.trans (hb3.mono b2.size); clear hb3) | (go_at_call 10; refine (known6_any _ (HSG.out _ b3)).mono ?_; rintro e w4 ⟨rfl, hb4⟩; have b4 := b3.trans (hb4.mono b3.size); clear hb4))
  all_goals
    go_wp2_with fail
    go_ret
    exact ⟨rfl, HBX.out.trans (b4.mono HBX.out.size)⟩
set_option maxRecDepth 100000 in
set_option maxHeartbeats 4000000 in
theorem ord13 (w : World) (hg : IsSigns w) : Calls Tryd.prog 5 #[.int .i64 13] w fun e w' => e = .returned (.bool true) ∧ Below w.heap.size w w' := by
  have HG : Hid (IsSigns w) := hg
  clear hg
  have HB0 : Hid (Below w.heap.size w ((w.alloc (.cells #[.string ⟨#[49, 32, 43, 32, 50, 32, 42, 32, 51]⟩, .string ⟨#[49, 32, 45, 32, 50, 32, 45, 32, 51]⟩, .string ⟨#[49, 32, 58, 58, 32, 50, 32, 58, 58, 32, 91, 93]⟩, .string ⟨#[102, 32, 120, 32, 43, 32, 103, 32, 121]⟩, .string ⟨#[33, 114, 32, 43, 32, 49]⟩, .string ⟨#[97, 32, 58, 61, 32, 49, 32, 43, 32, 50, 59, 32, 98]⟩, .string ⟨#[102, 115, 116, 32, 102, 32, 120]⟩, .string ⟨#[120, 32, 61, 32, 49, 32, 58, 58, 32, 91, 93]⟩, .string ⟨#[108, 101, 116, 32, 120, 32, 61, 32, 49, 32, 105, 110, 32, 120, 59, 32, 50]⟩, .string ⟨#[105, 102, 32, 97, 32, 116, 104, 101, 110, 32, 98, 32, 101, 108, 115, 101, 32, 99, 59, 32, 100]⟩, .string ⟨#[45, 32, 49]⟩, .string ⟨#[102, 117, 110, 32, 120, 32, 45, 62, 32, 120, 32, 121]⟩, .string ⟨#[97, 32, 59, 32, 98, 32, 59, 32, 99]⟩, .string ⟨#[49, 32, 60, 32, 50, 32, 60, 32, 51]⟩] 9)).alloc (.cells #[.string ⟨#[40, 49, 32, 43, 32, 40, 50, 32, 42, 32, 51, 41, 41]⟩, .string ⟨#[40, 40, 49, 32, 45, 32, 50, 41, 32, 45, 32, 51, 41]⟩, .string ⟨#[40, 49, 32, 58, 58, 32, 40, 50, 32, 58, 58, 32, 91, 93, 41, 41]⟩, .string ⟨#[40, 40, 102, 32, 120, 41, 32, 43, 32, 40, 103, 32, 121, 41, 41]⟩, .string ⟨#[40, 33, 114, 32, 43, 32, 49, 41]⟩, .string ⟨#[40, 40, 97, 32, 58, 61, 32, 40, 49, 32, 43, 32, 50, 41, 41, 59, 32, 98, 41]⟩, .string ⟨#[]⟩, .string ⟨#[40, 120, 32, 61, 32, 40, 49, 32, 58, 58, 32, 91, 93, 41, 41]⟩, .string ⟨#[40, 108, 101, 116, 32, 120, 32, 61, 32, 49, 32, 105, 110, 32, 40, 120, 59, 32, 50, 41, 41]⟩, .string ⟨#[40, 105, 102, 32, 97, 32, 116, 104, 101, 110, 32, 98, 32, 101, 108, 115, 101, 32, 40, 99, 59, 32, 100, 41, 41]⟩, .string ⟨#[]⟩, .string ⟨#[40, 102, 117, 110, 32, 120, 32, 45, 62, 32, 40, 120, 32, 121, 41, 41]⟩, .string ⟨#[40, 97, 59, 32, 40, 98, 59, 32, 99, 41, 41]⟩, .string ⟨#[]⟩] 9))) := ((Below.refl _ _).alloc (Nat.le_refl _) _).alloc (by simp) _
  obtain ⟨W0, hW0⟩ : ∃ W0, W0 = (w.alloc (.cells #[.string ⟨#[49, 32, 43, 32, 50, 32, 42, 32, 51]⟩, .string ⟨#[49, 32, 45, 32, 50, 32, 45, 32, 51]⟩, .string ⟨#[49, 32, 58, 58, 32, 50, 32, 58, 58, 32, 91, 93]⟩, .string ⟨#[102, 32, 120, 32, 43, 32, 103, 32, 121]⟩, .string ⟨#[33, 114, 32, 43, 32, 49]⟩, .string ⟨#[97, 32, 58, 61, 32, 49, 32, 43, 32, 50, 59, 32, 98]⟩, .string ⟨#[102, 115, 116, 32, 102, 32, 120]⟩, .string ⟨#[120, 32, 61, 32, 49, 32, 58, 58, 32, 91, 93]⟩, .string ⟨#[108, 101, 116, 32, 120, 32, 61, 32, 49, 32, 105, 110, 32, 120, 59, 32, 50]⟩, .string ⟨#[105, 102, 32, 97, 32, 116, 104, 101, 110, 32, 98, 32, 101, 108, 115, 101, 32, 99, 59, 32, 100]⟩, .string ⟨#[45, 32, 49]⟩, .string ⟨#[102, 117, 110, 32, 120, 32, 45, 62, 32, 120, 32, 121]⟩, .string ⟨#[97, 32, 59, 32, 98, 32, 59, 32, 99]⟩, .string ⟨#[49, 32, 60, 32, 50, 32, 60, 32, 51]⟩] 9)).alloc (.cells #[.string ⟨#[40, 49, 32, 43, 32, 40, 50, 32, 42, 32, 51, 41, 41]⟩, .string ⟨#[40, 40, 49, 32, 45, 32, 50, 41, 32, 45, 32, 51, 41]⟩, .string ⟨#[40, 49, 32, 58, 58, 32, 40, 50, 32, 58, 58, 32, 91, 93, 41, 41]⟩, .string ⟨#[40, 40, 102, 32, 120, 41, 32, 43, 32, 40, 103, 32, 121, 41, 41]⟩, .string ⟨#[40, 33, 114, 32, 43, 32, 49, 41]⟩, .string ⟨#[40, 40, 97, 32, 58, 61, 32, 40, 49, 32, 43, 32, 50, 41, 41, 59, 32, 98, 41]⟩, .string ⟨#[]⟩, .string ⟨#[40, 120, 32, 61, 32, 40, 49, 32, 58, 58, 32, 91, 93, 41, 41]⟩, .string ⟨#[40, 108, 101, 116, 32, 120, 32, 61, 32, 49, 32, 105, 110, 32, 40, 120, 59, 32, 50, 41, 41]⟩, .string ⟨#[40, 105, 102, 32, 97, 32, 116, 104, 101, 110, 32, 98, 32, 101, 108, 115, 101, 32, 40, 99, 59, 32, 100, 41, 41]⟩, .string ⟨#[]⟩, .string ⟨#[40, 102, 117, 110, 32, 120, 32, 45, 62, 32, 40, 120, 32, 121, 41, 41]⟩, .string ⟨#[40, 97, 59, 32, 40, 98, 59, 32, 99, 41, 41]⟩, .string ⟨#[]⟩] 9) := ⟨_, rfl⟩
  have HW0 : Hid ((w.alloc (.cells #[.string ⟨#[49, 32, 43, 32, 50, 32, 42, 32, 51]⟩, .string ⟨#[49, 32, 45, 32, 50, 32, 45, 32, 51]⟩, .string ⟨#[49, 32, 58, 58, 32, 50, 32, 58, 58, 32, 91, 93]⟩, .string ⟨#[102, 32, 120, 32, 43, 32, 103, 32, 121]⟩, .string ⟨#[33, 114, 32, 43, 32, 49]⟩, .string ⟨#[97, 32, 58, 61, 32, 49, 32, 43, 32, 50, 59, 32, 98]⟩, .string ⟨#[102, 115, 116, 32, 102, 32, 120]⟩, .string ⟨#[120, 32, 61, 32, 49, 32, 58, 58, 32, 91, 93]⟩, .string ⟨#[108, 101, 116, 32, 120, 32, 61, 32, 49, 32, 105, 110, 32, 120, 59, 32, 50]⟩, .string ⟨#[105, 102, 32, 97, 32, 116, 104, 101, 110, 32, 98, 32, 101, 108, 115, 101, 32, 99, 59, 32, 100]⟩, .string ⟨#[45, 32, 49]⟩, .string ⟨#[102, 117, 110, 32, 120, 32, 45, 62, 32, 120, 32, 121]⟩, .string ⟨#[97, 32, 59, 32, 98, 32, 59, 32, 99]⟩, .string ⟨#[49, 32, 60, 32, 50, 32, 60, 32, 51]⟩] 9)).alloc (.cells #[.string ⟨#[40, 49, 32, 43, 32, 40, 50, 32, 42, 32, 51, 41, 41]⟩, .string ⟨#[40, 40, 49, 32, 45, 32, 50, 41, 32, 45, 32, 51, 41]⟩, .string ⟨#[40, 49, 32, 58, 58, 32, 40, 50, 32, 58, 58, 32, 91, 93, 41, 41]⟩, .string ⟨#[40, 40, 102, 32, 120, 41, 32, 43, 32, 40, 103, 32, 121, 41, 41]⟩, .string ⟨#[40, 33, 114, 32, 43, 32, 49, 41]⟩, .string ⟨#[40, 40, 97, 32, 58, 61, 32, 40, 49, 32, 43, 32, 50, 41, 41, 59, 32, 98, 41]⟩, .string ⟨#[]⟩, .string ⟨#[40, 120, 32, 61, 32, 40, 49, 32, 58, 58, 32, 91, 93, 41, 41]⟩, .string ⟨#[40, 108, 101, 116, 32, 120, 32, 61, 32, 49, 32, 105, 110, 32, 40, 120, 59, 32, 50, 41, 41]⟩, .string ⟨#[40, 105, 102, 32, 97, 32, 116, 104, 101, 110, 32, 98, 32, 101, 108, 115, 101, 32, 40, 99, 59, 32, 100, 41, 41]⟩, .string ⟨#[]⟩, .string ⟨#[40, 102, 117, 110, 32, 120, 32, 45, 62, 32, 40, 120, 32, 121, 41, 41]⟩, .string ⟨#[40, 97, 59, 32, 40, 98, 59, 32, 99, 41, 41]⟩, .string ⟨#[]⟩] 9) = W0) := hW0.symm
  have HB : Hid (Below w.heap.size w W0) := by rw [hW0]; exact HB0.out
  have HZ : Hid (W0.heap.size = w.heap.size + 2) := by rw [Hid, hW0]; simp
  have HC : Hid (∀ i x, (#[.string ⟨#[40, 49, 32, 43, 32, 40, 50, 32, 42, 32, 51, 41, 41]⟩, .string ⟨#[40, 40, 49, 32, 45, 32, 50, 41, 32, 45, 32, 51, 41]⟩, .string ⟨#[40, 49, 32, 58, 58, 32, 40, 50, 32, 58, 58, 32, 91, 93, 41, 41]⟩, .string ⟨#[40, 40, 102, 32, 120, 41, 32, 43, 32, 40, 103, 32, 121, 41, 41]⟩, .string ⟨#[40, 33, 114, 32, 43, 32, 49, 41]⟩, .string ⟨#[40, 40, 97, 32, 58, 61, 32, 40, 49, 32, 43, 32, 50, 41, 41, 59, 32, 98, 41]⟩, .string ⟨#[]⟩, .string ⟨#[40, 120, 32, 61, 32, 40, 49, 32, 58, 58, 32, 91, 93, 41, 41]⟩, .string ⟨#[40, 108, 101, 116, 32, 120, 32, 61, 32, 49, 32, 105, 110, 32, 40, 120, 59, 32, 50, 41, 41]⟩, .string ⟨#[40, 105, 102, 32, 97, 32, 116, 104, 101, 110, 32, 98, 32, 101, 108, 115, 101, 32, 40, 99, 59, 32, 100, 41, 41]⟩, .string ⟨#[]⟩, .string ⟨#[40, 102, 117, 110, 32, 120, 32, 45, 62, 32, 40, 120, 32, 121, 41, 41]⟩, .string ⟨#[40, 97, 59, 32, 40, 98, 59, 32, 99, 41, 41]⟩, .string ⟨#[]⟩] : Array Value)[i]? = some x → W0.cell? ⟨w.heap.size + 1, i, none⟩ = some x) := fun i x hx => by rw [hW0]; simp; simpa using hx
  clear hW0 HB0
  obtain ⟨a, hp⟩ := of_chkE (L := [49, 32, 60, 32, 50, 32, 60, 32, 51]) (by decide +kernel)
  have HP : Hid (Em6.parse [49, 32, 60, 32, 50, 32, 60, 32, 51] = .error (2, a)) := hp
  clear hp
  go_enter Tryd.func5, Tryd.ntmps5
  go_wp2_with fail
  rw [HW0.out]
  clear HW0
  refine (qparse_any ⟨#[49, 32, 60, 32, 50, 32, 60, 32, 51]⟩ [49, 32, 60, 32, 50, 32, 60, 32, 51] _ ⟨rfl, by decide⟩ (by decide) (HG.out.below HB.out HG.out.lt)).mono ?_
  rintro e w1 ⟨hgot, hb1⟩
  rw [HP.out] at hgot
  simp only [Parsed] at hgot
  subst hgot
  unfold noNd
  have bel1 := HB.out.trans (hb1.mono HB.out.size)
  have bel2 := bel1.alloc bel1.size (.cells #[.string ⟨#[]⟩, .string ⟨#[]⟩, .string ⟨#[]⟩, .int .i64 0, .int .i64 0, .slice none 0 0] 24)
  have kw : w1.cell? ⟨w.heap.size + 1, 13, none⟩ = some (.string ⟨#[]⟩) := by
    rw [hb1.cell (p := ⟨w.heap.size + 1, 13, none⟩) (by rw [HZ.out]; simp)]
    exact HC.out 13 _ rfl
  have hl1 : w.heap.size + 1 < w1.heap.size := by have := hb1.size; rw [HZ.out] at this; omega
  clear hb1 bel1
  go_wp2_with fail
  refine (known6_any _ (HG.out.below bel2 HG.out.lt)).mono ?_
  rintro e w4 ⟨rfl, hb4⟩
  have bel5 := bel2.trans (hb4.mono bel2.size)
  go_wp2_with fail
  go_ret
  exact ⟨rfl, bel5⟩
end Go.Proofs.YtgojjknbingfpaaDoor

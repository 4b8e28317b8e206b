/- What tree.Free answers: the document's free names. -/
import Derived.Test.YtlniokcekjemdaaDoorTreeX
import Derived.Test.YtlniokcekjemdaaDoorIter
import Derived.Test.YtlniokcekjemdaaDoorMath5d
import Derived.Carry
namespace Go.Proofs.YtlniokcekjemdaaDoor
open Go.RowKit
set_option linter.unusedSimpArgs false

theorem str_ints (u : List UInt8) : Em.str (ints u) = ⟨u.toArray⟩ := by
  unfold Em.str ints
  congr 1
  rw [List.map_map]
  have : ((fun n : Int => UInt8.ofNat n.toNat) ∘ fun c : UInt8 => (c.toNat : Int)) = id := by funext c; simp
  rw [this]; simp
theorem keys_has {w : World} {b n : Nat} {R : Value → Option (DataW Unit × List MemPlace)} {D : DataW Unit} (h : w.ownsMap Tryd.prog 9 R b n D) : (strKeys D).Nodup ∧ ∀ u, u ∈ strKeys D ↔ Maps.has D (.string u) = true := by
  obtain ⟨es, rfl, hes⟩ := h.keysOf
  have hk : ∀ p ∈ es, ∃ x, p.1 = .string x := fun p hp => by
    obtain ⟨key, hkey⟩ := hes p hp
    obtain ⟨x, -, e, -⟩ := Maps.keyOf_str Tryd.underlying9 hkey
    exact ⟨x, e⟩
  obtain ⟨es', e', hpw⟩ := h.tidy (Maps.string_keyed Tryd.underlying9)
  injection e' with e'
  subst e'
  refine ⟨?_, fun u => ?_⟩
  · unfold strKeys List.Nodup
    rw [List.pairwise_map]
    refine hpw.imp_of_mem ?_
    intro p q hp hq hne e
    obtain ⟨x, hx⟩ := hk p hp
    obtain ⟨y, hy⟩ := hk q hq
    rw [hx, hy] at e
    have e2 : x = y := e
    exact hne (by rw [hx, hy, e2])
  · rw [Maps.has_eq, List.any_eq_true]
    unfold strKeys
    rw [List.mem_map]
    constructor
    · rintro ⟨p, hp, rfl⟩
      obtain ⟨x, hx⟩ := hk p hp
      refine ⟨p, hp, ?_⟩
      rw [hx]
      exact (WideAt.sameKey_iff (a := .string x) (b := .string x) trivial).2 rfl
    · rintro ⟨p, hp, hs⟩
      have e := (WideAt.sameKey_iff (b := .string u) trivial).1 hs
      exact ⟨p, hp, by rw [e]; rfl⟩

theorem cells_two (X : World) {g : Nat} (hg : g = X.heap.size) (a b : Value) (t : TypeId) : (X.alloc (.cells #[a, b] t)).cell? ⟨g, 0, none⟩ = some a ∧ (X.alloc (.cells #[a, b] t)).cell? ⟨g, 1, none⟩ = some b := by
  subst hg; exact ⟨by simp, by simp⟩
theorem scope_start (w : World) (o : Obj) {g : Nat} (hg : g = w.heap.size) :
    Scope ((((w.alloc o).alloc (.map #[] 0)).alloc (.map #[] 0)).alloc (.cells #[.map (some (g + 1)), .map (some (g + 2))] 38)) (g + 3) (g + 1) (g + 2) (fun x => (([] : List (List Int)).count x : Int)) [] 0 := by
  subst hg
  have e1 : (w.alloc o).heap.size = w.heap.size + 1 := by simp
  have e2 : ((w.alloc o).alloc (.map #[] 0)).heap.size = w.heap.size + 2 := by simp
  have m1 : ((w.alloc o).alloc (.map #[] 0)).ownsMap Tryd.prog 9 (plainElem (H := Unit) Tryd.prog 3) (w.heap.size + 1) 0 (.map []) := by
    rw [← e1]; exact World.ownsMap_made (w.alloc o) _ _ _
  have m2 : (((w.alloc o).alloc (.map #[] 0)).alloc (.map #[] 0)).ownsMap Tryd.prog 9 (unitElem (H := Unit)) (w.heap.size + 2) 0 (.map []) := by
    rw [← e2]; exact World.ownsMap_made ((w.alloc o).alloc (.map #[] 0)) _ _ _
  have e3 : (((w.alloc o).alloc (.map #[] 0)).alloc (.map #[] 0)).heap.size = w.heap.size + 3 := by simp
  obtain ⟨c0, c1⟩ := cells_two _ e3.symm (.map (some (w.heap.size + 1))) (.map (some (w.heap.size + 2))) 38
  refine ⟨c0, c1, by omega, by simp, ⟨_, (m1.alloc _).alloc _, fun u => ?_⟩, ⟨_, m2.alloc _, fun u => ?_⟩⟩
  · simp [DataW.atKey]
  · simp [Maps.has]

set_option maxRecDepth 100000 in
set_option maxHeartbeats 2000000 in
theorem tFree_any (T : Em5.Nd) (v : Value) (w : World) (hv : Em5.IsNd w T v) (he : Em5.each T = true) (hsz : T.size ≤ 2000) :
    Calls Tryd.prog 15 #[v] w fun e w' => ∃ u, e = .returned u ∧ OwnStrs w' w.heap.size u (Em5.freeR T [] []) ∧ (∀ x ∈ Em5.freeR T [] [], Em5.Txt x) ∧ Below w.heap.size w w' := by
  have HV : Hid (Em5.IsNd w T v ∧ Em5.each T = true ∧ T.size ≤ 2000) := ⟨hv, he, hsz⟩
  have hv' := hv
  have hT : ∃ op nm ar n p l, T = .mk op nm ar n p l := by obtain ⟨op, nm, ar, n, p, l⟩ := T; exact ⟨op, nm, ar, n, p, l, rfl⟩
  obtain ⟨op, nm, ar, n, p, l, hTe⟩ := hT
  rw [hTe] at hv'
  unfold Em5.IsNd at hv'
  obtain ⟨a, cap, rfl, -⟩ := hv'
  obtain ⟨W, hW⟩ : ∃ W, W = (((w.alloc (.cells #[.string (Em.str op), .string (Em.str nm), .string (Em.str ar), .int .i64 n, .int .i64 p, .slice a l.length cap] 24)).alloc (.map #[] 0)).alloc (.map #[] 0)).alloc (.cells #[.map (some (w.heap.size + 1)), .map (some (w.heap.size + 2))] 38) := ⟨_, rfl⟩
  have hs := scope_start w (.cells #[.string (Em.str op), .string (Em.str nm), .string (Em.str ar), .int .i64 n, .int .i64 p, .slice a l.length cap] 24) rfl
  rw [← hW] at hs
  have hbW : Below w.heap.size w W := by rw [hW]; exact ((((Below.refl _ _).alloc (Nat.le_refl _) _).alloc (by simp; try omega) _).alloc (by simp; try omega) _).alloc (by simp; try omega) _
  have HS : Hid (Scope W (w.heap.size + 3) (w.heap.size + 1) (w.heap.size + 2) (fun x => (([] : List (List Int)).count x : Int)) [] 0 ∧ Below w.heap.size w W) := ⟨hs, hbW⟩
  have h6 : Node6 W w.heap.size (.string (Em.str op)) (.string (Em.str nm)) (.string (Em.str ar)) (.int .i64 n) (.int .i64 p) (.slice a l.length cap) := by
    rw [hW]
    exact (Node6.made _ _ _ _ _ _ _ _).bes (mb := w.heap.size + 1) (mf := w.heap.size + 1) ((((Bes2.refl _ _ _).alloc _).alloc _).alloc _) (by omega) (by omega)
  obtain ⟨g0, g1, g2, g3, g4, g5⟩ := h6
  have hm1 : ∀ w, Sem.run Tryd.prog (Instr.makeMap 35 none) w = .ok (.map (some w.heap.size)) (w.alloc (.map #[] 0)) := run_makeMap _
  have hm2 : ∀ w, Sem.run Tryd.prog (Instr.makeMap 36 none) w = .ok (.map (some w.heap.size)) (w.alloc (.map #[] 0)) := run_makeMap _
  clear hs hbW hTe hv he hsz
  go_enter Tryd.func15, Tryd.ntmps15
  go_upto_region 2 with fail
  rw [← hW]
  clear hW hm1 hm2
  go_wp2_with fail
  refine (twalk_any T _ w _ _ _ _ [] [] 0 HV.out.1 HS.out.2 HS.out.1 (by omega) (by omega) (by have := HV.out.2.2; simp; omega) (by have := HV.out.2.2; omega)).mono ?_
  rintro e w1 ⟨rfl, hs1, hb1⟩
  have c1 := hs1.c1
  have H1 : Hid (Scope w1 (w.heap.size + 3) (w.heap.size + 1) (w.heap.size + 2) (fun x => (([] : List (List Int)).count x : Int)) ([] ++ Em5.freeS T []) (0 + (5 * T.size - 4)) ∧ Below w.heap.size w w1) := ⟨hs1, HS.out.2.trans (hb1.below (by omega) (by omega) HS.out.2.size)⟩
  clear hs1 hb1 g0 g1 g2 g3 g4 g5 HS
  go_wp2_with fail
  refine (mkeys_any _ _).mono ?_
  rintro e w2 ⟨rfl, rfl⟩
  obtain ⟨D, hown, hhas⟩ := H1.out.1.free
  have hsl := hown.size_le
  have HD : Hid (w1.ownsMap Tryd.prog 9 (unitElem (H := Unit)) (w.heap.size + 2) (0 + (5 * T.size - 4)) D ∧ HasK D ([] ++ Em5.freeS T [])) := ⟨hown, hhas⟩
  clear hown hhas
  go_wp2_with fail
  refine (msorted_any _ _ D _ _ HD.out.1 (by have := HV.out.2.2; unfold maxLen; omega) (by have := HV.out.2.2; omega)).mono ?_
  rintro e w3 ⟨u, ss, rfl, hperm, hrow, hb3⟩
  have HR : Hid (OwnStrs w3 w.heap.size u (Em5.freeR T [] []) ∧ (∀ x ∈ Em5.freeR T [] [], Em5.Txt x) ∧ Below w.heap.size w w3) := by
    obtain ⟨hk1, hk2⟩ := keys_has HD.out.1
    have htx := H1.out.1.txt
    have hhas := HD.out.2
    rw [List.nil_append] at htx hhas
    have hfree := Em5.free_sorted (T := T) HV.out.2.1 (ss := ss) (hperm.nodup_iff.2 hk1)
      (fun u => by rw [hperm.mem_iff, hk2, hhas u]; simp only [decide_eq_true_eq]; exact Iff.rfl)
      (fun x hx => ⟨(Em.str x).data.toList, (ints_str (htx x hx).1).symm⟩)
    have hbb := H1.out.2
    have hsz3 : w.heap.size ≤ (w1.alloc (.cells #[.map (some (w.heap.size + 2))] 36)).heap.size := by have := hbb.size; simp; omega
    refine ⟨?_, ?_, (hbb.alloc hbb.size _).trans (hb3.mono hsz3)⟩
    · rw [← hfree]
      have hO : OwnStrs w3 (w1.alloc (.cells #[.map (some (w.heap.size + 2))] 36)).heap.size u ((ss.mergeSort (fun x y => decide (x ≤ y))).map (fun u => u.map fun c => (c.toNat : Int))) := by
        unfold OwnStrs
        have e1 : txts ((ss.mergeSort (fun x y => decide (x ≤ y))).map (fun u => u.map fun c => (c.toNat : Int))) = (ss.mergeSort (fun x y => decide (x ≤ y))).map encStr := by
          unfold txts
          rw [List.map_map]
          refine List.map_congr_left (fun x _ => ?_)
          show Value.string (Em.str (ints x)) = encStr x
          rw [str_ints]
        rw [e1]
        simpa using hrow
      exact hO.base hsz3
    · intro x hx
      have h2 := (Em5.free_rise T HV.out.2.1 [] [] List.Pairwise.nil).2 x
      rcases h2.1 hx with h | h
      · simp at h
      · exact htx x h
  clear hperm hrow hb3 HD H1 c1
  go_wp2
  go_ret
  exact ⟨_, rfl, HR.out⟩
end Go.Proofs.YtlniokcekjemdaaDoor

/- What the program's own typ.pieces answers, and what typ.write does: it writes a type's text behind what the builder holds. -/
import Derived.Test.YtcpimmapdhmoiaaDoorBldr
import Derived.Test.YtcpimmapdhmoiaaDoorMath8q
import Derived.Test.YtcpimmapdhmoiaaDoorTyV
import Derived.Deep.DeepCutAuto
import Derived.Deep.CutBlock
namespace Go.Proofs.YtcpimmapdhmoiaaDoor
open Go.RowKit Go.Em8
set_option linter.unusedSimpArgs false
set_option linter.unusedVariables false

/-- The table of powers of ten holds what its initialiser lays. -/
def IsPow (w : World) : Prop := Lib.TabIs Tryd.prog w "internal/strconv.uint64pow10" .u64 Lib.pow10Tab
theorem gPow : Tryd.prog.globalNamed "internal/strconv.uint64pow10" = some 0 := by kernel_rfl
theorem IsPow.below {w w' : World} (h : IsPow w) (hb : Below w.heap.size w w') : IsPow w' := by
  unfold IsPow Lib.TabIs World.var? at h ⊢
  rw [gPow] at h ⊢
  have hlt : 0 < w.heap.size := by
    rcases Nat.lt_or_ge 0 w.heap.size with h' | h'
    · exact h'
    · simp [Array.getElem?_eq_none h'] at h
  simpa [hb.block _ hlt] using h
theorem heap_new (w : World) (o : Obj) : (w.alloc o).heap[w.heap.size]? = some o := by
  show (w.heap.push o)[w.heap.size]? = some o
  simp
/-- A row of texts of a call's own, just made. -/
def Pcd (w : World) (e : Ending) (w' : World) (ps : List (List Int)) : Prop :=
  ∃ b, e = .returned (.slice (some ⟨b, 0, none⟩) ps.length ps.length) ∧ w'.heap[b]? = some (.cells (txts ps).toArray 9 (0, 0)) ∧ w.heap.size ≤ b ∧ Below w.heap.size w w'
theorem pcd_mk {w W : World} {ps : List (List Int)} {c : Array Value} {k : Nat} (hb : Below w.heap.size w W) (hc : c = (txts ps).toArray) (hk : k = ps.length) :
    Pcd w (.returned (.slice (some ⟨W.heap.size, 0, none⟩) k k)) (W.alloc (.cells c 9)) ps := by
  subst hc hk
  refine ⟨_, rfl, ?_, hb.size, hb.alloc hb.size _⟩
  exact heap_new _ _
abbrev Itoas : Prop := ∀ (m : Nat) (w : World), m ≤ 9223372036854775807 → IsPow w → Calls Tryd.prog 43 #[.int .i64 m] w fun e w' => e = .returned (.string (Em.str (tdigs m))) ∧ Below w.heap.size w w'
theorem txts_get {ps : List (List Int)} {k : Nat} (h : k < ps.length) : (txts ps).toArray[k]? = some (.string (Em.str (tx ps k))) := by
  simp [txts, tx, h]
theorem str_ne8 : (9 : Nat) ≠ 5 := by decide
theorem type_ne8 : (24 : Nat) ≠ 5 := by decide

set_option maxRecDepth 100000 in
set_option maxHeartbeats 4000000 in
theorem ypieces_any (HF : Itoas) (op : List Int) (n : Int) (l : List Ty) (v : Value) (w : World) (hv : IsTy w (.mk op n l) v) (he : teach (.mk op n l) = true) (hp : IsPow w) :
    Calls Tryd.prog 41 #[v] w fun e w' => Pcd w e w' (tpcs op n) := by
  unfold IsTy at hv
  obtain ⟨a, cap, rfl, t1, i1, hc1, hc2, hk⟩ := hv
  have HFF : Hid Itoas := HF
  obtain ⟨W, hW⟩ : ∃ W, W = w.alloc (.cells #[.string (Em.str op), .int .i64 n, .slice a l.length cap] 24) := ⟨_, rfl⟩
  have hbW : Below w.heap.size w W := by rw [hW]; exact (Below.refl _ _).alloc (Nat.le_refl _) _
  have HBW : Hid (Below w.heap.size w W) := hbW
  have HP : Hid (∀ w', Below w.heap.size w w' → IsPow w') := fun w' h => hp.below h
  have k0 : W.cell? ⟨w.heap.size, 0, none⟩ = some (.string (Em.str op)) := by rw [hW]; simp
  have k1 : W.cell? ⟨w.heap.size, 1, none⟩ = some (.int .i64 n) := by rw [hW]; simp
  have HW : Hid (w.alloc (.cells #[.string (Em.str op), .int .i64 n, .slice a l.length cap] 24) = W) := hW.symm
  obtain ⟨ps, hps⟩ : ∃ ps, ps = tpcs op n := ⟨_, rfl⟩
  rw [← hps]
  have hq := Em5.str_eq t1.1
  have hcase := teach_cases he
  unfold Em5.I64 at i1
  clear t1 hW hbW hp hk he HF
  rcases hcase with ⟨ho | ho | ho | ho | ho, -, -⟩ | ⟨ho, hn, -⟩ | ⟨ho | ho, -, -⟩ | ⟨ho | ho, -, -⟩
  · have q0 : ((Em.str op).toList == [105, 110, 116]) = true := (hq [105, 110, 116]).trans (by rw [ho]; decide)
    have HR : Hid (ps = [op]) := by rw [Hid, hps, ho]; simp [tpcs, tInt, tBool, tUnit, tString, tCell, tList, tRef, tPair, tFun, tVar]
    clear hps hq ho
    go_enter Tryd.func41, Tryd.ntmps41
    go_upto_region 1 with fail
    rw [HW.out]
    go_wp2_with fail
    go_ret
    exact pcd_mk HBW.out (by rw [HR.out]; rfl) (by rw [HR.out]; rfl)
  · have q0 : ((Em.str op).toList == [105, 110, 116]) = false := (hq [105, 110, 116]).trans (by rw [ho]; decide)
    have q1 : ((Em.str op).toList == [98, 111, 111, 108]) = true := (hq [98, 111, 111, 108]).trans (by rw [ho]; decide)
    have HR : Hid (ps = [op]) := by rw [Hid, hps, ho]; simp [tpcs, tInt, tBool, tUnit, tString, tCell, tList, tRef, tPair, tFun, tVar]
    clear hps hq ho
    go_enter Tryd.func41, Tryd.ntmps41
    go_upto_region 1 with fail
    rw [HW.out]
    go_wp2_with fail
    go_ret
    exact pcd_mk HBW.out (by rw [HR.out]; rfl) (by rw [HR.out]; rfl)
  · have q0 : ((Em.str op).toList == [105, 110, 116]) = false := (hq [105, 110, 116]).trans (by rw [ho]; decide)
    have q1 : ((Em.str op).toList == [98, 111, 111, 108]) = false := (hq [98, 111, 111, 108]).trans (by rw [ho]; decide)
    have q2 : ((Em.str op).toList == [117, 110, 105, 116]) = true := (hq [117, 110, 105, 116]).trans (by rw [ho]; decide)
    have HR : Hid (ps = [op]) := by rw [Hid, hps, ho]; simp [tpcs, tInt, tBool, tUnit, tString, tCell, tList, tRef, tPair, tFun, tVar]
    clear hps hq ho
    go_enter Tryd.func41, Tryd.ntmps41
    go_upto_region 1 with fail
    rw [HW.out]
    go_wp2_with fail
    go_ret
    exact pcd_mk HBW.out (by rw [HR.out]; rfl) (by rw [HR.out]; rfl)
  · have q0 : ((Em.str op).toList == [105, 110, 116]) = false := (hq [105, 110, 116]).trans (by rw [ho]; decide)
    have q1 : ((Em.str op).toList == [98, 111, 111, 108]) = false := (hq [98, 111, 111, 108]).trans (by rw [ho]; decide)
    have q2 : ((Em.str op).toList == [117, 110, 105, 116]) = false := (hq [117, 110, 105, 116]).trans (by rw [ho]; decide)
    have q3 : ((Em.str op).toList == [115, 116, 114, 105, 110, 103]) = true := (hq [115, 116, 114, 105, 110, 103]).trans (by rw [ho]; decide)
    have HR : Hid (ps = [op]) := by rw [Hid, hps, ho]; simp [tpcs, tInt, tBool, tUnit, tString, tCell, tList, tRef, tPair, tFun, tVar]
    clear hps hq ho
    go_enter Tryd.func41, Tryd.ntmps41
    go_upto_region 1 with fail
    rw [HW.out]
    go_wp2_with fail
    go_ret
    exact pcd_mk HBW.out (by rw [HR.out]; rfl) (by rw [HR.out]; rfl)
  · have q0 : ((Em.str op).toList == [105, 110, 116]) = false := (hq [105, 110, 116]).trans (by rw [ho]; decide)
    have q1 : ((Em.str op).toList == [98, 111, 111, 108]) = false := (hq [98, 111, 111, 108]).trans (by rw [ho]; decide)
    have q2 : ((Em.str op).toList == [117, 110, 105, 116]) = false := (hq [117, 110, 105, 116]).trans (by rw [ho]; decide)
    have q3 : ((Em.str op).toList == [115, 116, 114, 105, 110, 103]) = false := (hq [115, 116, 114, 105, 110, 103]).trans (by rw [ho]; decide)
    have q4 : ((Em.str op).toList == [99, 101, 108, 108]) = true := (hq [99, 101, 108, 108]).trans (by rw [ho]; decide)
    have HR : Hid (ps = [op]) := by rw [Hid, hps, ho]; simp [tpcs, tInt, tBool, tUnit, tString, tCell, tList, tRef, tPair, tFun, tVar]
    clear hps hq ho
    go_enter Tryd.func41, Tryd.ntmps41
    go_upto_region 1 with fail
    rw [HW.out]
    go_wp2_with fail
    go_ret
    exact pcd_mk HBW.out (by rw [HR.out]; rfl) (by rw [HR.out]; rfl)
  · have q0 : ((Em.str op).toList == [105, 110, 116]) = false := (hq [105, 110, 116]).trans (by rw [ho]; decide)
    have q1 : ((Em.str op).toList == [98, 111, 111, 108]) = false := (hq [98, 111, 111, 108]).trans (by rw [ho]; decide)
    have q2 : ((Em.str op).toList == [117, 110, 105, 116]) = false := (hq [117, 110, 105, 116]).trans (by rw [ho]; decide)
    have q3 : ((Em.str op).toList == [115, 116, 114, 105, 110, 103]) = false := (hq [115, 116, 114, 105, 110, 103]).trans (by rw [ho]; decide)
    have q4 : ((Em.str op).toList == [99, 101, 108, 108]) = false := (hq [99, 101, 108, 108]).trans (by rw [ho]; decide)
    have q5 : ((Em.str op).toList == [108, 105, 115, 116]) = false := (hq [108, 105, 115, 116]).trans (by rw [ho]; decide)
    have q6 : ((Em.str op).toList == [114, 101, 102]) = false := (hq [114, 101, 102]).trans (by rw [ho]; decide)
    have q7 : ((Em.str op).toList == [112, 97, 105, 114]) = false := (hq [112, 97, 105, 114]).trans (by rw [ho]; decide)
    have q8 : ((Em.str op).toList == [102, 117, 110]) = false := (hq [102, 117, 110]).trans (by rw [ho]; decide)
    have q9 : ((Em.str op).toList == [118, 97, 114]) = true := (hq [118, 97, 114]).trans (by rw [ho]; decide)
    obtain ⟨m, rfl⟩ := Int.eq_ofNat_of_zero_le hn
    have HR : Hid (ps = [[39] ++ tdigs m]) := by rw [Hid, hps, ho]; simp [tpcs, tInt, tBool, tUnit, tString, tCell, tList, tRef, tPair, tFun, tVar]
    have HM : Hid (m ≤ 9223372036854775807) := by rw [Hid]; omega
    clear hps hq ho
    go_enter Tryd.func41, Tryd.ntmps41
    go_upto_region 1 with fail
    rw [HW.out]
    go_wp2_with fail
    refine (HFF.out m _ HM.out (HP.out _ HBW.out)).mono ?_
    rintro e w2 ⟨rfl, hb2⟩
    have HB2 : Hid (Below w.heap.size w w2) := HBW.out.trans (hb2.mono HBW.out.size)
    have hz : ¬ 9223372036854775807 < 1 + (Em.str (tdigs m)).size := by have := tdigs_len64 HM.out; rw [str_size]; omega
    have HA : Hid ((⟨#[39]⟩ : ByteArray) ++ Em.str (tdigs m) = Em.str ([39] ++ tdigs m)) := by rw [Hid, ← str_app]; rfl
    clear hb2
    go_wp2_with fail
    go_ret
    exact pcd_mk HB2.out (by rw [HR.out, HA.out]; rfl) (by rw [HR.out]; rfl)
  · have q0 : ((Em.str op).toList == [105, 110, 116]) = false := (hq [105, 110, 116]).trans (by rw [ho]; decide)
    have q1 : ((Em.str op).toList == [98, 111, 111, 108]) = false := (hq [98, 111, 111, 108]).trans (by rw [ho]; decide)
    have q2 : ((Em.str op).toList == [117, 110, 105, 116]) = false := (hq [117, 110, 105, 116]).trans (by rw [ho]; decide)
    have q3 : ((Em.str op).toList == [115, 116, 114, 105, 110, 103]) = false := (hq [115, 116, 114, 105, 110, 103]).trans (by rw [ho]; decide)
    have q4 : ((Em.str op).toList == [99, 101, 108, 108]) = false := (hq [99, 101, 108, 108]).trans (by rw [ho]; decide)
    have q5 : ((Em.str op).toList == [108, 105, 115, 116]) = true := (hq [108, 105, 115, 116]).trans (by rw [ho]; decide)
    have HR : Hid (ps = [[], [32] ++ op]) := by rw [Hid, hps, ho]; simp [tpcs, tInt, tBool, tUnit, tString, tCell, tList, tRef, tPair, tFun, tVar]
    have hz : ¬ 9223372036854775807 < 1 + (Em.str op).size := by rw [str_size, ho]; decide
    have HA : Hid ((⟨#[32]⟩ : ByteArray) ++ Em.str op = Em.str ([32] ++ op)) := by rw [Hid, ← str_app]; rfl
    clear hps hq ho
    go_enter Tryd.func41, Tryd.ntmps41
    go_upto_region 1 with fail
    rw [HW.out]
    go_wp2_with fail
    go_ret
    exact pcd_mk HBW.out (by rw [HR.out, HA.out]; rfl) (by rw [HR.out]; rfl)
  · have q0 : ((Em.str op).toList == [105, 110, 116]) = false := (hq [105, 110, 116]).trans (by rw [ho]; decide)
    have q1 : ((Em.str op).toList == [98, 111, 111, 108]) = false := (hq [98, 111, 111, 108]).trans (by rw [ho]; decide)
    have q2 : ((Em.str op).toList == [117, 110, 105, 116]) = false := (hq [117, 110, 105, 116]).trans (by rw [ho]; decide)
    have q3 : ((Em.str op).toList == [115, 116, 114, 105, 110, 103]) = false := (hq [115, 116, 114, 105, 110, 103]).trans (by rw [ho]; decide)
    have q4 : ((Em.str op).toList == [99, 101, 108, 108]) = false := (hq [99, 101, 108, 108]).trans (by rw [ho]; decide)
    have q5 : ((Em.str op).toList == [108, 105, 115, 116]) = false := (hq [108, 105, 115, 116]).trans (by rw [ho]; decide)
    have q6 : ((Em.str op).toList == [114, 101, 102]) = true := (hq [114, 101, 102]).trans (by rw [ho]; decide)
    have HR : Hid (ps = [[], [32] ++ op]) := by rw [Hid, hps, ho]; simp [tpcs, tInt, tBool, tUnit, tString, tCell, tList, tRef, tPair, tFun, tVar]
    have hz : ¬ 9223372036854775807 < 1 + (Em.str op).size := by rw [str_size, ho]; decide
    have HA : Hid ((⟨#[32]⟩ : ByteArray) ++ Em.str op = Em.str ([32] ++ op)) := by rw [Hid, ← str_app]; rfl
    clear hps hq ho
    go_enter Tryd.func41, Tryd.ntmps41
    go_upto_region 1 with fail
    rw [HW.out]
    go_wp2_with fail
    go_ret
    exact pcd_mk HBW.out (by rw [HR.out, HA.out]; rfl) (by rw [HR.out]; rfl)
  · have q0 : ((Em.str op).toList == [105, 110, 116]) = false := (hq [105, 110, 116]).trans (by rw [ho]; decide)
    have q1 : ((Em.str op).toList == [98, 111, 111, 108]) = false := (hq [98, 111, 111, 108]).trans (by rw [ho]; decide)
    have q2 : ((Em.str op).toList == [117, 110, 105, 116]) = false := (hq [117, 110, 105, 116]).trans (by rw [ho]; decide)
    have q3 : ((Em.str op).toList == [115, 116, 114, 105, 110, 103]) = false := (hq [115, 116, 114, 105, 110, 103]).trans (by rw [ho]; decide)
    have q4 : ((Em.str op).toList == [99, 101, 108, 108]) = false := (hq [99, 101, 108, 108]).trans (by rw [ho]; decide)
    have q5 : ((Em.str op).toList == [108, 105, 115, 116]) = false := (hq [108, 105, 115, 116]).trans (by rw [ho]; decide)
    have q6 : ((Em.str op).toList == [114, 101, 102]) = false := (hq [114, 101, 102]).trans (by rw [ho]; decide)
    have q7 : ((Em.str op).toList == [112, 97, 105, 114]) = true := (hq [112, 97, 105, 114]).trans (by rw [ho]; decide)
    have HR : Hid (ps = [[40], [32, 42, 32], [41]]) := by rw [Hid, hps, ho]; simp [tpcs, tInt, tBool, tUnit, tString, tCell, tList, tRef, tPair, tFun, tVar]
    clear hps hq ho
    go_enter Tryd.func41, Tryd.ntmps41
    go_upto_region 1 with fail
    rw [HW.out]
    go_wp2_with fail
    go_ret
    exact pcd_mk HBW.out (by rw [HR.out]; rfl) (by rw [HR.out]; rfl)
  · have q0 : ((Em.str op).toList == [105, 110, 116]) = false := (hq [105, 110, 116]).trans (by rw [ho]; decide)
    have q1 : ((Em.str op).toList == [98, 111, 111, 108]) = false := (hq [98, 111, 111, 108]).trans (by rw [ho]; decide)
    have q2 : ((Em.str op).toList == [117, 110, 105, 116]) = false := (hq [117, 110, 105, 116]).trans (by rw [ho]; decide)
    have q3 : ((Em.str op).toList == [115, 116, 114, 105, 110, 103]) = false := (hq [115, 116, 114, 105, 110, 103]).trans (by rw [ho]; decide)
    have q4 : ((Em.str op).toList == [99, 101, 108, 108]) = false := (hq [99, 101, 108, 108]).trans (by rw [ho]; decide)
    have q5 : ((Em.str op).toList == [108, 105, 115, 116]) = false := (hq [108, 105, 115, 116]).trans (by rw [ho]; decide)
    have q6 : ((Em.str op).toList == [114, 101, 102]) = false := (hq [114, 101, 102]).trans (by rw [ho]; decide)
    have q7 : ((Em.str op).toList == [112, 97, 105, 114]) = false := (hq [112, 97, 105, 114]).trans (by rw [ho]; decide)
    have q8 : ((Em.str op).toList == [102, 117, 110]) = true := (hq [102, 117, 110]).trans (by rw [ho]; decide)
    have HR : Hid (ps = [[40], [32, 45, 62, 32], [41]]) := by rw [Hid, hps, ho]; simp [tpcs, tInt, tBool, tUnit, tString, tCell, tList, tRef, tPair, tFun, tVar]
    clear hps hq ho
    go_enter Tryd.func41, Tryd.ntmps41
    go_upto_region 1 with fail
    rw [HW.out]
    go_wp2_with fail
    go_ret
    exact pcd_mk HBW.out (by rw [HR.out]; rfl) (by rw [HR.out]; rfl)
end Go.Proofs.YtcpimmapdhmoiaaDoor

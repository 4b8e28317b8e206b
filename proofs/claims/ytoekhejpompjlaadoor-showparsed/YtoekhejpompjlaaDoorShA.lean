/- What the program's own show.sign and show.pieces answer. -/
import Derived.Test.YtoekhejpompjlaaDoorProg
import Derived.Test.YtoekhejpompjlaaDoorMath7q
import Derived.Test.YtoekhejpompjlaaDoorRShG
import Derived.Test.YtoekhejpompjlaaDoorStrs
import Derived.Lib.LaidTab
import Derived.Lib.ItoaNum
namespace Go.Proofs.YtoekhejpompjlaaDoor
open Go.RowKit
set_option linter.unusedSimpArgs false

/-- The table of powers of ten holds what its initialiser lays. -/
def IsPow (w : World) : Prop := Lib.TabIs Tryd.prog w "internal/strconv.uint64pow10" .u64 Lib.pow10Tab
theorem gPow : Tryd.prog.globalNamed "internal/strconv.uint64pow10" = some 0 := by kernel_rfl
theorem IsPow.below {w w' : World} (h : IsPow w) (hb : Below w.heap.size w w') : IsPow w' := by
  unfold IsPow Lib.TabIs World.var? at h ⊢
  rw [gPow] at h ⊢
  have hlt : 0 < w.heap.size := by
    rcases Nat.lt_or_ge 0 w.heap.size with h' | h'
    · exact h'
    · simp [Array.getElem?_eq_none h'] at h
  simpa [hb.block _ hlt] using h

theorem heap_alloc_new7 (w : World) (o : Obj) : (w.alloc o).heap[w.heap.size]? = some o := by
  show (w.heap.push o)[w.heap.size]? = some o
  simp
/-- A row of texts of a call's own, just made. -/
def Pcd (w : World) (e : Ending) (w' : World) (ps : List (List Int)) : Prop :=
  ∃ b, e = .returned (.slice (some ⟨b, 0, none⟩) ps.length ps.length) ∧ w'.heap[b]? = some (.cells (txts ps).toArray 9 (0, 0)) ∧ w.heap.size ≤ b ∧ Below w.heap.size w w'
theorem pcd_mk {w W : World} {ps : List (List Int)} {c : Array Value} {k : Nat} (hb : Below w.heap.size w W) (hc : c = (txts ps).toArray) (hk : k = ps.length) :
    Pcd w (.returned (.slice (some ⟨W.heap.size, 0, none⟩) k k)) (W.alloc (.cells c 9)) ps := by
  subst hc hk
  refine ⟨_, rfl, ?_, hb.size, hb.alloc hb.size _⟩
  exact heap_alloc_new7 _ _

/-- A truth as a word. -/
def tfB (b : Bool) : List Int := if b = true then [116, 114, 117, 101] else [102, 97, 108, 115, 101]
theorem fmtBool_any (b : Bool) (w : World) : Calls Tryd.prog 47 #[.bool b] w fun e w' => e = .returned (.string (Em.str (tfB b))) ∧ w' = w := by
  cases b
  all_goals
    go_enter Tryd.func47, Tryd.ntmps47
    go_wp2
    go_ret
    exact ⟨rfl, rfl⟩

set_option maxRecDepth 100000 in
set_option maxHeartbeats 2000000 in
theorem psign_any (op : List Int) (w : World) (h : ∀ x ∈ op, 0 ≤ x ∧ x ≤ 255) :
    Calls Tryd.prog 45 #[.string (Em.str op)] w fun e w' => e = .returned (.string (Em.str (Em7.psign op))) ∧ w' = w := by
  have hq := Em5.str_eq h
  have q0 : ((Em.str op).toList == [112, 97, 105, 114]) = decide (op = Em5.oPair) := hq [112, 97, 105, 114]
  have q1 : ((Em.str op).toList == [115, 101, 113]) = decide (op = Em5.oSeq) := hq [115, 101, 113]
  have q2 : ((Em.str op).toList == [115, 101, 116]) = decide (op = Em5.oSet) := hq [115, 101, 116]
  have q3 : ((Em.str op).toList == [101, 113]) = decide (op = Em5.oEq) := hq [101, 113]
  have q4 : ((Em.str op).toList == [108, 101, 115, 115]) = decide (op = Em5.oLess) := hq [108, 101, 115, 115]
  have q5 : ((Em.str op).toList == [99, 111, 110, 115]) = decide (op = Em5.oCons) := hq [99, 111, 110, 115]
  have q6 : ((Em.str op).toList == [97, 100, 100]) = decide (op = Em5.oAdd) := hq [97, 100, 100]
  have q7 : ((Em.str op).toList == [115, 117, 98]) = decide (op = Em5.oSub) := hq [115, 117, 98]
  have q8 : ((Em.str op).toList == [99, 97, 116]) = decide (op = Em5.oCat) := hq [99, 97, 116]
  have q9 : ((Em.str op).toList == [109, 117, 108]) = decide (op = Em5.oMul) := hq [109, 117, 108]
  have q10 : ((Em.str op).toList == [97, 112, 112]) = decide (op = Em5.oApp) := hq [97, 112, 112]
  unfold Em7.psign Em7.signOf
  clear hq h
  by_cases h1 : op = Em5.oPair
  · rw [if_pos h1]; rw [decide_eq_true h1] at q0; clear h1 q1 q2 q3 q4 q5 q6 q7 q8 q9 q10
    go_enter Tryd.func45, Tryd.ntmps45
    go_wp2; go_ret; exact ⟨rfl, rfl⟩
  rw [if_neg h1]; rw [decide_eq_false h1] at q0; clear h1
  by_cases h1 : op = Em5.oSeq
  · rw [if_pos h1]; rw [decide_eq_true h1] at q1; clear h1 q2 q3 q4 q5 q6 q7 q8 q9 q10
    go_enter Tryd.func45, Tryd.ntmps45
    go_wp2; go_ret; exact ⟨rfl, rfl⟩
  rw [if_neg h1]; rw [decide_eq_false h1] at q1; clear h1
  by_cases h1 : op = Em5.oSet
  · rw [if_pos h1]; rw [decide_eq_true h1] at q2; clear h1 q3 q4 q5 q6 q7 q8 q9 q10
    go_enter Tryd.func45, Tryd.ntmps45
    go_wp2; go_ret; exact ⟨rfl, rfl⟩
  rw [if_neg h1]; rw [decide_eq_false h1] at q2; clear h1
  by_cases h1 : op = Em5.oEq
  · rw [if_pos h1]; rw [decide_eq_true h1] at q3; clear h1 q4 q5 q6 q7 q8 q9 q10
    go_enter Tryd.func45, Tryd.ntmps45
    go_wp2; go_ret; exact ⟨rfl, rfl⟩
  rw [if_neg h1]; rw [decide_eq_false h1] at q3; clear h1
  by_cases h1 : op = Em5.oLess
  · rw [if_pos h1]; rw [decide_eq_true h1] at q4; clear h1 q5 q6 q7 q8 q9 q10
    go_enter Tryd.func45, Tryd.ntmps45
    go_wp2; go_ret; exact ⟨rfl, rfl⟩
  rw [if_neg h1]; rw [decide_eq_false h1] at q4; clear h1
  by_cases h1 : op = Em5.oCons
  · rw [if_pos h1]; rw [decide_eq_true h1] at q5; clear h1 q6 q7 q8 q9 q10
    go_enter Tryd.func45, Tryd.ntmps45
    go_wp2; go_ret; exact ⟨rfl, rfl⟩
  rw [if_neg h1]; rw [decide_eq_false h1] at q5; clear h1
  by_cases h1 : op = Em5.oAdd
  · rw [if_pos h1]; rw [decide_eq_true h1] at q6; clear h1 q7 q8 q9 q10
    go_enter Tryd.func45, Tryd.ntmps45
    go_wp2; go_ret; exact ⟨rfl, rfl⟩
  rw [if_neg h1]; rw [decide_eq_false h1] at q6; clear h1
  by_cases h1 : op = Em5.oSub
  · rw [if_pos h1]; rw [decide_eq_true h1] at q7; clear h1 q8 q9 q10
    go_enter Tryd.func45, Tryd.ntmps45
    go_wp2; go_ret; exact ⟨rfl, rfl⟩
  rw [if_neg h1]; rw [decide_eq_false h1] at q7; clear h1
  by_cases h1 : op = Em5.oCat
  · rw [if_pos h1]; rw [decide_eq_true h1] at q8; clear h1 q9 q10
    go_enter Tryd.func45, Tryd.ntmps45
    go_wp2; go_ret; exact ⟨rfl, rfl⟩
  rw [if_neg h1]; rw [decide_eq_false h1] at q8; clear h1
  by_cases h1 : op = Em5.oMul
  · rw [if_pos h1]; rw [decide_eq_true h1] at q9; clear h1 q10
    go_enter Tryd.func45, Tryd.ntmps45
    go_wp2; go_ret; exact ⟨rfl, rfl⟩
  rw [if_neg h1]; rw [decide_eq_false h1] at q9; clear h1
  by_cases h1 : op = Em5.oApp
  · rw [if_pos h1]; rw [decide_eq_true h1] at q10; clear h1 
    go_enter Tryd.func45, Tryd.ntmps45
    go_wp2; go_ret; exact ⟨rfl, rfl⟩
  rw [if_neg h1]; rw [decide_eq_false h1] at q10; clear h1
  go_enter Tryd.func45, Tryd.ntmps45
  go_wp2; go_ret; exact ⟨rfl, rfl⟩

theorem psign_no {op : List Int} (h : Em7.psign op = []) : ((Em.str (Em7.psign op)).toList == []) = true := by
  rw [h, Em5.str_eq (by simp) []]; rfl
theorem psign_yes {op : List Int} (h : Em7.psign op ≠ []) : ((Em.str (Em7.psign op)).toList == []) = false := by
  unfold Em7.psign at h ⊢
  by_cases hp : op = Em5.oPair
  · rw [if_pos hp, Em5.str_eq (by decide) []]; rfl
  · rw [if_neg hp] at h ⊢; exact Em7.sign_ne h

set_option maxRecDepth 100000 in
set_option maxHeartbeats 8000000 in
theorem ppieces_any (HF : ∀ (m : Nat) (w : World), m ≤ 999999999999999999 → IsPow w → Calls Tryd.prog 46 #[.int .i64 m, .int .i64 10] w fun e w' => e = .returned (.string (Em.str (Em7.digs m))) ∧ Below w.heap.size w w')
    (op nm ar : List Int) (n p : Int) (l : List Em5.Nd) (v : Value) (w : World) (hv : Em5.IsNd w (.mk op nm ar n p l) v) (he : Em5.each (.mk op nm ar n p l) = true) (hp : IsPow w) :
    Calls Tryd.prog 29 #[v] w fun e w' => Pcd w e w' (Em7.pcs op nm ar n) := by
  have HFF : Hid (∀ (m : Nat) (w : World), m ≤ 999999999999999999 → IsPow w → Calls Tryd.prog 46 #[.int .i64 m, .int .i64 10] w fun e w' => e = .returned (.string (Em.str (Em7.digs m))) ∧ Below w.heap.size w w') := HF
  have HP : Hid (∀ w', Below w.heap.size w w' → IsPow w') := fun w' h => hp.below h
  obtain ⟨ho5, hn40, ha40, -⟩ := Em7.each_cases he
  obtain ⟨hn0, hn1⟩ := Em7.each_num he
  unfold Em5.IsNd at hv
  obtain ⟨a, cap, rfl, t1, t2, t3, t4, t5, hc1, hc2, hk⟩ := hv
  have hq := Em5.str_eq t1.1
  have HT1 : Hid (∀ x ∈ op, 0 ≤ x ∧ x ≤ 255) := t1.1
  obtain ⟨W, hW⟩ : ∃ W, W = w.alloc (.cells #[.string (Em.str op), .string (Em.str nm), .string (Em.str ar), .int .i64 n, .int .i64 p, .slice a l.length cap] 24) := ⟨_, rfl⟩
  have hbW : Below w.heap.size w W := by rw [hW]; exact (Below.refl _ _).alloc (Nat.le_refl _) _
  have g0 : W.cell? ⟨w.heap.size, 0, none⟩ = some (.string (Em.str op)) := by rw [hW]; simp
  have g1 : W.cell? ⟨w.heap.size, 1, none⟩ = some (.string (Em.str nm)) := by rw [hW]; simp
  have g2 : W.cell? ⟨w.heap.size, 2, none⟩ = some (.string (Em.str ar)) := by rw [hW]; simp
  have g3 : W.cell? ⟨w.heap.size, 3, none⟩ = some (.int .i64 n) := by rw [hW]; simp
  have HW : Hid (w.alloc (.cells #[.string (Em.str op), .string (Em.str nm), .string (Em.str ar), .int .i64 n, .int .i64 p, .slice a l.length cap] 24) = W) := hW.symm
  have HBW : Hid (Below w.heap.size w W) := hbW
  obtain ⟨ps, hps⟩ : ∃ ps, ps = Em7.pcs op nm ar n := ⟨_, rfl⟩
  have HPS : Hid (ps = Em7.pcs op nm ar n) := hps
  rw [← hps]
  clear hW hps HF hp he t1 t2 t3 t4 t5 hc1 hc2 hk hbW
  have q_int : ((Em.str op).toList == [105, 110, 116]) = decide (op = Em5.oInt) := hq [105, 110, 116]
  have q_bool : ((Em.str op).toList == [98, 111, 111, 108]) = decide (op = Em5.oBool) := hq [98, 111, 111, 108]
  have q_unit : ((Em.str op).toList == [117, 110, 105, 116]) = decide (op = Em5.oUnit) := hq [117, 110, 105, 116]
  have q_nil : ((Em.str op).toList == [110, 105, 108]) = decide (op = Em5.oNil) := hq [110, 105, 108]
  have q_str : ((Em.str op).toList == [115, 116, 114]) = decide (op = Em5.oStr) := hq [115, 116, 114]
  have q_var : ((Em.str op).toList == [118, 97, 114]) = decide (op = Em5.oVar) := hq [118, 97, 114]
  have q_get : ((Em.str op).toList == [103, 101, 116]) = decide (op = Em5.oGet) := hq [103, 101, 116]
  have q_fun : ((Em.str op).toList == [102, 117, 110]) = decide (op = Em5.oFun) := hq [102, 117, 110]
  have q_let : ((Em.str op).toList == [108, 101, 116]) = decide (op = Em5.oLet) := hq [108, 101, 116]
  have q_rec : ((Em.str op).toList == [114, 101, 99]) = decide (op = Em5.oRec) := hq [114, 101, 99]
  have q_if : ((Em.str op).toList == [105, 102]) = decide (op = Em5.oIf) := hq [105, 102]
  have q_match : ((Em.str op).toList == [109, 97, 116, 99, 104]) = decide (op = Em5.oMatch) := hq [109, 97, 116, 99, 104]
  have q_try : ((Em.str op).toList == [116, 114, 121]) = decide (op = Em5.oTry) := hq [116, 114, 121]
  have q_link : ((Em.str op).toList == [108, 105, 110, 107]) = decide (op = Em5.oLink) := hq [108, 105, 110, 107]
  clear hq
  go_enter Tryd.func29, Tryd.ntmps29
  go_wp2_with fail
  rw [HW.out]
  clear HW
  refine (psign_any op _ HT1.out).mono ?_
  rintro e w1 ⟨rfl, rfl⟩
  by_cases hs : Em7.psign op = []
  case neg =>
    have hsy := psign_yes hs
    have HR : Hid (ps = [[40], Em7.psign op, [41]]) := by rw [Hid, HPS.out, Em7.pcs, if_pos hs]
    clear hs q_int q_bool q_unit q_nil q_str q_var q_get q_fun q_let q_rec q_if q_match q_try q_link
    go_wp2_with fail
    go_ret
    exact pcd_mk HBW.out (by rw [HR.out]; rfl) (by rw [HR.out]; rfl)
  have hsn := psign_no hs
  have HN : Hid (Em7.psign op = []) := hs
  clear hs
  by_cases h1 : op = Em5.oInt
  · rw [decide_eq_true h1] at q_int
    have HO : Hid (op = Em5.oInt) := h1
    clear h1 q_bool q_unit q_nil q_str q_var q_get q_fun q_let q_rec q_if q_match q_try q_link
    obtain ⟨m, rfl⟩ := Int.eq_ofNat_of_zero_le hn0
    have HR : Hid (ps = [Em7.digs m]) := by rw [Hid, HPS.out, Em7.pcs, if_neg (fun h => h HN.out), if_pos HO.out]; simp
    have HM : Hid (m ≤ 999999999999999999) := by rw [Hid]; omega
    go_wp2_with fail
    refine (HFF.out m _ HM.out (HP.out _ HBW.out)).mono ?_
    rintro e w2 ⟨rfl, hb2⟩
    have HB2 : Hid (Below w.heap.size w w2) := HBW.out.trans (hb2.mono HBW.out.size)
    clear hb2
    go_wp2_with fail
    go_ret
    exact pcd_mk HB2.out (by rw [HR.out]; rfl) (by rw [HR.out]; rfl)
  rw [decide_eq_false h1] at q_int
  have HX0 : Hid (¬ op = Em5.oInt) := h1
  clear h1
  by_cases h1 : op = Em5.oBool
  · rw [decide_eq_true h1] at q_bool
    have HO : Hid (op = Em5.oBool) := h1
    clear h1 q_unit q_nil q_str q_var q_get q_fun q_let q_rec q_if q_match q_try q_link
    obtain ⟨nb, hnb⟩ : ∃ nb : Bool, nb = decide (n = 1) := ⟨_, rfl⟩
    have hn1' : (n == 1) = nb := by rw [hnb]; rfl
    have HR : Hid (ps = [tfB nb]) := by rw [Hid, HPS.out, Em7.pcs, if_neg (fun h => h HN.out), if_neg HX0.out, if_pos HO.out, hnb]; simp [tfB]
    clear hnb
    go_wp2_with fail
    refine (fmtBool_any nb _).mono ?_
    rintro e w2 ⟨rfl, rfl⟩
    go_wp2_with fail
    go_ret
    exact pcd_mk HBW.out (by rw [HR.out]; rfl) (by rw [HR.out]; rfl)
  rw [decide_eq_false h1] at q_bool
  have HX1 : Hid (¬ op = Em5.oBool) := h1
  clear h1
  by_cases h1 : op = Em5.oUnit
  · rw [decide_eq_true h1] at q_unit
    have HO : Hid (op = Em5.oUnit) := h1
    clear h1 q_nil q_str q_var q_get q_fun q_let q_rec q_if q_match q_try q_link
    have HR : Hid (ps = [[40, 41]]) := by rw [Hid, HPS.out, Em7.pcs, if_neg (fun h => h HN.out), if_neg HX0.out, if_neg HX1.out, if_pos HO.out]
    go_wp2_with fail
    go_ret
    exact pcd_mk HBW.out (by rw [HR.out]; rfl) (by rw [HR.out]; rfl)
  rw [decide_eq_false h1] at q_unit
  have HX2 : Hid (¬ op = Em5.oUnit) := h1
  clear h1
  by_cases h1 : op = Em5.oNil
  · rw [decide_eq_true h1] at q_nil
    have HO : Hid (op = Em5.oNil) := h1
    clear h1 q_str q_var q_get q_fun q_let q_rec q_if q_match q_try q_link
    have HR : Hid (ps = [[91, 93]]) := by rw [Hid, HPS.out, Em7.pcs, if_neg (fun h => h HN.out), if_neg HX0.out, if_neg HX1.out, if_neg HX2.out, if_pos HO.out]
    go_wp2_with fail
    go_ret
    exact pcd_mk HBW.out (by rw [HR.out]; rfl) (by rw [HR.out]; rfl)
  rw [decide_eq_false h1] at q_nil
  have HX3 : Hid (¬ op = Em5.oNil) := h1
  clear h1
  by_cases h1 : op = Em5.oStr
  · rw [decide_eq_true h1] at q_str
    have HO : Hid (op = Em5.oStr) := h1
    clear h1 q_var q_get q_fun q_let q_rec q_if q_match q_try q_link
    have HR : Hid (ps = [[34] ++ nm ++ [34]]) := by rw [Hid, HPS.out, Em7.pcs, if_neg (fun h => h HN.out), if_neg HX0.out, if_neg HX1.out, if_neg HX2.out, if_neg HX3.out, if_pos HO.out]
    have hz0 : ¬ 9223372036854775807 < 1 + (Em.str nm).size := by simp only [str_size7]; omega
    have hz1 : ¬ 9223372036854775807 < 1 + (Em.str nm).size + 1 := by simp only [str_size7]; omega
    have HA0 : Hid ((⟨#[34]⟩ : ByteArray) ++ Em.str nm ++ (⟨#[34]⟩ : ByteArray) = Em.str ([34] ++ nm ++ [34])) := by rw [Hid, ← str_app7, ← str_app7]; rfl
    go_wp2_with fail
    go_ret
    exact pcd_mk HBW.out (by rw [HR.out, HA0.out]; rfl) (by rw [HR.out]; rfl)
  rw [decide_eq_false h1] at q_str
  have HX4 : Hid (¬ op = Em5.oStr) := h1
  clear h1
  by_cases h1 : op = Em5.oVar
  · rw [decide_eq_true h1] at q_var
    have HO : Hid (op = Em5.oVar) := h1
    clear h1 q_get q_fun q_let q_rec q_if q_match q_try q_link
    have HR : Hid (ps = [nm]) := by rw [Hid, HPS.out, Em7.pcs, if_neg (fun h => h HN.out), if_neg HX0.out, if_neg HX1.out, if_neg HX2.out, if_neg HX3.out, if_neg HX4.out, if_pos HO.out]
    go_wp2_with fail
    go_ret
    exact pcd_mk HBW.out (by rw [HR.out]; rfl) (by rw [HR.out]; rfl)
  rw [decide_eq_false h1] at q_var
  have HX5 : Hid (¬ op = Em5.oVar) := h1
  clear h1
  by_cases h1 : op = Em5.oGet
  · rw [decide_eq_true h1] at q_get
    have HO : Hid (op = Em5.oGet) := h1
    clear h1 q_fun q_let q_rec q_if q_match q_try q_link
    have HR : Hid (ps = [[33], []]) := by rw [Hid, HPS.out, Em7.pcs, if_neg (fun h => h HN.out), if_neg HX0.out, if_neg HX1.out, if_neg HX2.out, if_neg HX3.out, if_neg HX4.out, if_neg HX5.out, if_pos HO.out]
    go_wp2_with fail
    go_ret
    exact pcd_mk HBW.out (by rw [HR.out]; rfl) (by rw [HR.out]; rfl)
  rw [decide_eq_false h1] at q_get
  have HX6 : Hid (¬ op = Em5.oGet) := h1
  clear h1
  by_cases h1 : op = Em5.oFun
  · rw [decide_eq_true h1] at q_fun
    have HO : Hid (op = Em5.oFun) := h1
    clear h1 q_let q_rec q_if q_match q_try q_link
    have HR : Hid (ps = [[40, 102, 117, 110, 32] ++ nm ++ [32, 45, 62, 32], [41]]) := by rw [Hid, HPS.out, Em7.pcs, if_neg (fun h => h HN.out), if_neg HX0.out, if_neg HX1.out, if_neg HX2.out, if_neg HX3.out, if_neg HX4.out, if_neg HX5.out, if_neg HX6.out, if_pos HO.out]
    have hz0 : ¬ 9223372036854775807 < 5 + (Em.str nm).size := by simp only [str_size7]; omega
    have hz1 : ¬ 9223372036854775807 < 5 + (Em.str nm).size + 4 := by simp only [str_size7]; omega
    have HA0 : Hid ((⟨#[40, 102, 117, 110, 32]⟩ : ByteArray) ++ Em.str nm ++ (⟨#[32, 45, 62, 32]⟩ : ByteArray) = Em.str ([40, 102, 117, 110, 32] ++ nm ++ [32, 45, 62, 32])) := by rw [Hid, ← str_app7, ← str_app7]; rfl
    go_wp2_with fail
    go_ret
    exact pcd_mk HBW.out (by rw [HR.out, HA0.out]; rfl) (by rw [HR.out]; rfl)
  rw [decide_eq_false h1] at q_fun
  have HX7 : Hid (¬ op = Em5.oFun) := h1
  clear h1
  by_cases h1 : op = Em5.oLet
  · rw [decide_eq_true h1] at q_let
    have HO : Hid (op = Em5.oLet) := h1
    clear h1 q_rec q_if q_match q_try q_link
    have HR : Hid (ps = [[40, 108, 101, 116, 32] ++ nm ++ [32, 61, 32], [32, 105, 110, 32], [41]]) := by rw [Hid, HPS.out, Em7.pcs, if_neg (fun h => h HN.out), if_neg HX0.out, if_neg HX1.out, if_neg HX2.out, if_neg HX3.out, if_neg HX4.out, if_neg HX5.out, if_neg HX6.out, if_neg HX7.out, if_pos HO.out]
    have hz0 : ¬ 9223372036854775807 < 5 + (Em.str nm).size := by simp only [str_size7]; omega
    have hz1 : ¬ 9223372036854775807 < 5 + (Em.str nm).size + 3 := by simp only [str_size7]; omega
    have HA0 : Hid ((⟨#[40, 108, 101, 116, 32]⟩ : ByteArray) ++ Em.str nm ++ (⟨#[32, 61, 32]⟩ : ByteArray) = Em.str ([40, 108, 101, 116, 32] ++ nm ++ [32, 61, 32])) := by rw [Hid, ← str_app7, ← str_app7]; rfl
    go_wp2_with fail
    go_ret
    exact pcd_mk HBW.out (by rw [HR.out, HA0.out]; rfl) (by rw [HR.out]; rfl)
  rw [decide_eq_false h1] at q_let
  have HX8 : Hid (¬ op = Em5.oLet) := h1
  clear h1
  by_cases h1 : op = Em5.oRec
  · rw [decide_eq_true h1] at q_rec
    have HO : Hid (op = Em5.oRec) := h1
    clear h1 q_if q_match q_try q_link
    have HR : Hid (ps = [[40, 108, 101, 116, 32, 114, 101, 99, 32] ++ nm ++ [32] ++ ar ++ [32, 61, 32], [32, 105, 110, 32], [41]]) := by rw [Hid, HPS.out, Em7.pcs, if_neg (fun h => h HN.out), if_neg HX0.out, if_neg HX1.out, if_neg HX2.out, if_neg HX3.out, if_neg HX4.out, if_neg HX5.out, if_neg HX6.out, if_neg HX7.out, if_neg HX8.out, if_pos HO.out]
    have hz0 : ¬ 9223372036854775807 < 9 + (Em.str nm).size := by simp only [str_size7]; omega
    have hz1 : ¬ 9223372036854775807 < 9 + (Em.str nm).size + 1 := by simp only [str_size7]; omega
    have hz2 : ¬ 9223372036854775807 < 9 + (Em.str nm).size + 1 + (Em.str ar).size := by simp only [str_size7]; omega
    have hz3 : ¬ 9223372036854775807 < 9 + (Em.str nm).size + 1 + (Em.str ar).size + 3 := by simp only [str_size7]; omega
    have HA0 : Hid ((⟨#[40, 108, 101, 116, 32, 114, 101, 99, 32]⟩ : ByteArray) ++ Em.str nm ++ (⟨#[32]⟩ : ByteArray) ++ Em.str ar ++ (⟨#[32, 61, 32]⟩ : ByteArray) = Em.str ([40, 108, 101, 116, 32, 114, 101, 99, 32] ++ nm ++ [32] ++ ar ++ [32, 61, 32])) := by rw [Hid, ← str_app7, ← str_app7, ← str_app7, ← str_app7]; rfl
    go_wp2_with fail
    go_ret
    exact pcd_mk HBW.out (by rw [HR.out, HA0.out]; rfl) (by rw [HR.out]; rfl)
  rw [decide_eq_false h1] at q_rec
  have HX9 : Hid (¬ op = Em5.oRec) := h1
  clear h1
  by_cases h1 : op = Em5.oIf
  · rw [decide_eq_true h1] at q_if
    have HO : Hid (op = Em5.oIf) := h1
    clear h1 q_match q_try q_link
    have HR : Hid (ps = [[40, 105, 102, 32], [32, 116, 104, 101, 110, 32], [32, 101, 108, 115, 101, 32], [41]]) := by rw [Hid, HPS.out, Em7.pcs, if_neg (fun h => h HN.out), if_neg HX0.out, if_neg HX1.out, if_neg HX2.out, if_neg HX3.out, if_neg HX4.out, if_neg HX5.out, if_neg HX6.out, if_neg HX7.out, if_neg HX8.out, if_neg HX9.out, if_pos HO.out]
    go_wp2_with fail
    go_ret
    exact pcd_mk HBW.out (by rw [HR.out]; rfl) (by rw [HR.out]; rfl)
  rw [decide_eq_false h1] at q_if
  have HX10 : Hid (¬ op = Em5.oIf) := h1
  clear h1
  by_cases h1 : op = Em5.oMatch
  · rw [decide_eq_true h1] at q_match
    have HO : Hid (op = Em5.oMatch) := h1
    clear h1 q_try q_link
    have HR : Hid (ps = [[40, 109, 97, 116, 99, 104, 32], [32, 119, 105, 116, 104, 32, 91, 93, 32, 45, 62, 32], [32, 124, 32] ++ nm ++ [32, 58, 58, 32] ++ ar ++ [32, 45, 62, 32], [41]]) := by rw [Hid, HPS.out, Em7.pcs, if_neg (fun h => h HN.out), if_neg HX0.out, if_neg HX1.out, if_neg HX2.out, if_neg HX3.out, if_neg HX4.out, if_neg HX5.out, if_neg HX6.out, if_neg HX7.out, if_neg HX8.out, if_neg HX9.out, if_neg HX10.out, if_pos HO.out]
    have hz0 : ¬ 9223372036854775807 < 3 + (Em.str nm).size := by simp only [str_size7]; omega
    have hz1 : ¬ 9223372036854775807 < 3 + (Em.str nm).size + 4 := by simp only [str_size7]; omega
    have hz2 : ¬ 9223372036854775807 < 3 + (Em.str nm).size + 4 + (Em.str ar).size := by simp only [str_size7]; omega
    have hz3 : ¬ 9223372036854775807 < 3 + (Em.str nm).size + 4 + (Em.str ar).size + 4 := by simp only [str_size7]; omega
    have HA2 : Hid ((⟨#[32, 124, 32]⟩ : ByteArray) ++ Em.str nm ++ (⟨#[32, 58, 58, 32]⟩ : ByteArray) ++ Em.str ar ++ (⟨#[32, 45, 62, 32]⟩ : ByteArray) = Em.str ([32, 124, 32] ++ nm ++ [32, 58, 58, 32] ++ ar ++ [32, 45, 62, 32])) := by rw [Hid, ← str_app7, ← str_app7, ← str_app7, ← str_app7]; rfl
    go_wp2_with fail
    go_ret
    exact pcd_mk HBW.out (by rw [HR.out, HA2.out]; rfl) (by rw [HR.out]; rfl)
  rw [decide_eq_false h1] at q_match
  have HX11 : Hid (¬ op = Em5.oMatch) := h1
  clear h1
  by_cases h1 : op = Em5.oTry
  · rw [decide_eq_true h1] at q_try
    have HO : Hid (op = Em5.oTry) := h1
    clear h1 q_link
    have HR : Hid (ps = [[40, 116, 114, 121, 32], [32, 119, 105, 116, 104, 32] ++ nm ++ [32, 45, 62, 32], [41]]) := by rw [Hid, HPS.out, Em7.pcs, if_neg (fun h => h HN.out), if_neg HX0.out, if_neg HX1.out, if_neg HX2.out, if_neg HX3.out, if_neg HX4.out, if_neg HX5.out, if_neg HX6.out, if_neg HX7.out, if_neg HX8.out, if_neg HX9.out, if_neg HX10.out, if_neg HX11.out, if_pos HO.out]
    have hz0 : ¬ 9223372036854775807 < 6 + (Em.str nm).size := by simp only [str_size7]; omega
    have hz1 : ¬ 9223372036854775807 < 6 + (Em.str nm).size + 4 := by simp only [str_size7]; omega
    have HA1 : Hid ((⟨#[32, 119, 105, 116, 104, 32]⟩ : ByteArray) ++ Em.str nm ++ (⟨#[32, 45, 62, 32]⟩ : ByteArray) = Em.str ([32, 119, 105, 116, 104, 32] ++ nm ++ [32, 45, 62, 32])) := by rw [Hid, ← str_app7, ← str_app7]; rfl
    go_wp2_with fail
    go_ret
    exact pcd_mk HBW.out (by rw [HR.out, HA1.out]; rfl) (by rw [HR.out]; rfl)
  rw [decide_eq_false h1] at q_try
  have HX12 : Hid (¬ op = Em5.oTry) := h1
  clear h1
  by_cases h1 : op = Em5.oLink
  · rw [decide_eq_true h1] at q_link
    have HO : Hid (op = Em5.oLink) := h1
    clear h1 
    have HR : Hid (ps = [[40, 108, 105, 110, 107, 32], [32], [41]]) := by rw [Hid, HPS.out, Em7.pcs, if_neg (fun h => h HN.out), if_neg HX0.out, if_neg HX1.out, if_neg HX2.out, if_neg HX3.out, if_neg HX4.out, if_neg HX5.out, if_neg HX6.out, if_neg HX7.out, if_neg HX8.out, if_neg HX9.out, if_neg HX10.out, if_neg HX11.out, if_neg HX12.out, if_pos HO.out]
    go_wp2_with fail
    go_ret
    exact pcd_mk HBW.out (by rw [HR.out]; rfl) (by rw [HR.out]; rfl)
  rw [decide_eq_false h1] at q_link
  have HX13 : Hid (¬ op = Em5.oLink) := h1
  clear h1
  have HR : Hid (ps = [[40] ++ op ++ [32], [41]]) := by rw [Hid, HPS.out, Em7.pcs, if_neg (fun h => h HN.out), if_neg HX0.out, if_neg HX1.out, if_neg HX2.out, if_neg HX3.out, if_neg HX4.out, if_neg HX5.out, if_neg HX6.out, if_neg HX7.out, if_neg HX8.out, if_neg HX9.out, if_neg HX10.out, if_neg HX11.out, if_neg HX12.out, if_neg HX13.out]
  have hz0 : ¬ 9223372036854775807 < 1 + (Em.str op).size := by simp only [str_size7]; omega
  have hz1 : ¬ 9223372036854775807 < 1 + (Em.str op).size + 1 := by simp only [str_size7]; omega
  have HA0 : Hid ((⟨#[40]⟩ : ByteArray) ++ Em.str op ++ (⟨#[32]⟩ : ByteArray) = Em.str ([40] ++ op ++ [32])) := by rw [Hid, ← str_app7, ← str_app7]; rfl
  go_wp2_with fail
  go_ret
  exact pcd_mk HBW.out (by rw [HR.out, HA0.out]; rfl) (by rw [HR.out]; rfl)
end Go.Proofs.YtoekhejpompjlaaDoor

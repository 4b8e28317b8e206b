/- TreeMany: a chain of n nodes is an expression just if n is at most MaxNodes; Size tells how many there are, one more than MaxNodes at most. No condition but that lex.signs holds what its initialiser lays, to which the card ties it. -/
import Derived.Test.YtlniokcekjemdaaDoorRows
import Derived.Test.YtlniokcekjemdaaDoorCards
import Derived.Test.YtlniokcekjemdaaDoorTie
import Derived.Test.YtlniokcekjemdaaDoorLexL
import Derived.Test.YtlniokcekjemdaaDoorKnown5
import Derived.Test.YtlniokcekjemdaaDoorNdPS
import Derived.Test.YtlniokcekjemdaaDoorFrameM
namespace Go.Proofs.YtlniokcekjemdaaDoor
open Go.ChangeShapes Go.WideShapes Go.ChangeAt Go.RowKit
set_option linter.unusedVariables false
set_option linter.unusedSimpArgs false

/-- A chain. -/
def chN : Nat → Em5.Nd
  | 0 => .mk [117, 110, 105, 116] [] [] 0 0 []
  | k + 1 => .mk [114, 101, 102] [] [] 0 0 [chN k]
theorem ch_size : ∀ k, (chN k).size = k + 1
  | 0 => by simp [chN, Em5.Nd.size, Em5.sizes]
  | k + 1 => by simp [chN, Em5.Nd.size, Em5.sizes, ch_size k]
theorem ch_each : ∀ k, Em5.each (chN k) = true
  | 0 => by decide
  | k + 1 => by
    have h : Em5.each (chN (k + 1)) = (decide (Em5.kidsN [114, 101, 102] = 1) && (Em5.namesOk (.mk [114, 101, 102] [] [] 0 0 []) && (Em5.each (chN k) && true))) := rfl
    rw [h, ch_each k]
    decide
theorem ch_is (k : Nat) : Em5.isNd (chN k) = decide (k + 1 ≤ 2000) := by
  unfold Em5.isNd
  rw [ch_size, ch_each, Bool.and_true]
theorem of_wf2 {c : Int} (h : (Lit.int .i64 c).wf = true) : -9223372036854775808 ≤ c ∧ c ≤ 9223372036854775807 := by
  simp [Lit.wf, IntKind.min, IntKind.max, IntKind.bits, IntKind.signed] at h
  omega
/-- What x is in the law's loop. -/
def Holds (w : World) (xb : Nat) (k : Nat) (s : ByteArray) (a : Option Addr) (c : Nat) : Prop :=
  Em6.Six w xb (.string s) (.string ⟨#[]⟩) (.string ⟨#[]⟩) (.int .i64 0) (.int .i64 0) (.slice a c c) ∧ Em5.IsNdP (fun b => b ≠ xb) w (chN k) (.agg #[.string s, .string ⟨#[]⟩, .string ⟨#[]⟩, .int .i64 0, .int .i64 0, .slice a c c])
theorem txt0 : Em5.Txt [] := txt_of (by decide) (by decide)
theorem holds_start (w : World) (ty : TypeId) : Holds (w.alloc (.cells #[.string ⟨#[117, 110, 105, 116]⟩, .string ⟨#[]⟩, .string ⟨#[]⟩, .int .i64 0, .int .i64 0, .slice none 0 0] ty)) w.heap.size 0 ⟨#[117, 110, 105, 116]⟩ none 0 :=
  ⟨Em6.Six.made _ _ _ _ _ _ _ _, Em5.isNdP_leaf (op := [117, 110, 105, 116]) (nm := []) (ar := []) (txt_of (by decide) (by decide)) txt0 txt0 (by simp [Em5.I64]) (by simp [Em5.I64])⟩
theorem holds_step {w : World} {xb k : Nat} {s : ByteArray} {a : Option Addr} {c : Nat} (h : Holds w xb k s a c) (ty : TypeId) :
    ∃ W, (((((((w.alloc (.cells #[.string s, .string ⟨#[]⟩, .string ⟨#[]⟩, .int .i64 0, .int .i64 0, .slice a c c] ty)).setCell ⟨xb, 0, none⟩ (.string ⟨#[114, 101, 102]⟩)).setCell ⟨xb, 1, none⟩ (.string ⟨#[]⟩)).setCell ⟨xb, 2, none⟩ (.string ⟨#[]⟩)).setCell ⟨xb, 3, none⟩ (.int .i64 0)).setCell ⟨xb, 4, none⟩ (.int .i64 0)).setCell ⟨xb, 5, none⟩ (.slice (some ⟨w.heap.size, 0, none⟩) 1 1)) = W ∧
      Holds W xb (k + 1) ⟨#[114, 101, 102]⟩ (some ⟨w.heap.size, 0, none⟩) 1 ∧ ∀ v, Below xb v w → Below xb v W := by
  obtain ⟨h6, hn⟩ := h
  have hl := h6.lt
  obtain ⟨W, e, hs, hz, hk, -⟩ := (h6.alloc (.cells #[.string s, .string ⟨#[]⟩, .string ⟨#[]⟩, .int .i64 0, .int .i64 0, .slice a c c] ty)).set (.string ⟨#[114, 101, 102]⟩) (.string ⟨#[]⟩) (.string ⟨#[]⟩) (.int .i64 0) (.int .i64 0) (.slice (some ⟨w.heap.size, 0, none⟩) 1 1)
  have hz' : W.heap.size = w.heap.size + 1 := by rw [hz]; simp
  have hold : ∀ b, b ≠ xb → b < w.heap.size → W.heap[b]? = w.heap[b]? := fun b hb hlt => (hk b hb).trans (Below.heap_alloc _ _ b hlt)
  refine ⟨W, e, ⟨hs, ?_⟩, fun v hv => ?_⟩
  · refine Em5.isNdP_node (op := [114, 101, 102]) (nm := []) (ar := []) (l := [chN k]) (txt_of (by decide) (by decide)) txt0 txt0 (by simp [Em5.I64]) (by simp [Em5.I64]) (by omega) (by omega) (by simp) (by omega) ?_
    have hc : ∀ o v, (#[Value.string s, .string ⟨#[]⟩, .string ⟨#[]⟩, .int .i64 0, .int .i64 0, .slice a c c] : Array Value)[o]? = some v → W.cell? ⟨w.heap.size, o, none⟩ = some v := fun o v h => by
      rw [World.cell?_of_block (w := w.alloc (.cells #[.string s, .string ⟨#[]⟩, .string ⟨#[]⟩, .int .i64 0, .int .i64 0, .slice a c c] ty)) (a := ⟨w.heap.size, o, none⟩) (hk w.heap.size (by omega)), World.cell?_alloc_mark, h]
    unfold Em5.KidsAtP
    refine ⟨⟨_, _, _, _, _, _, hc 0 _ rfl, hc 1 _ rfl, hc 2 _ rfl, hc 3 _ rfl, hc 4 _ rfl, hc 5 _ rfl, ?_⟩, ?_⟩
    · exact Em5.isNdP_keep (by omega) (fun b hb hlt => ⟨hold b hb hlt, hb⟩) _ _ hn
    · unfold Em5.KidsAtP; trivial
  · have hsa := hv.alloc (Nat.le_of_lt hl) (.cells #[.string s, .string ⟨#[]⟩, .string ⟨#[]⟩, .int .i64 0, .int .i64 0, .slice a c c] ty)
    rw [← e]
    exact (((((hsa.setCell (p := ⟨xb, 0, none⟩) (Nat.le_refl _) _).setCell (p := ⟨xb, 1, none⟩) (Nat.le_refl _) _).setCell (p := ⟨xb, 2, none⟩) (Nat.le_refl _) _).setCell (p := ⟨xb, 3, none⟩) (Nat.le_refl _) _).setCell (p := ⟨xb, 4, none⟩) (Nat.le_refl _) _).setCell (p := ⟨xb, 5, none⟩) (Nat.le_refl _) _

set_option maxRecDepth 100000 in
set_option maxHeartbeats 4000000 in
theorem walk_treeMany (w : World) (y : Value) (hy : ∃ q, y = .int .i64 q ∧ (Lit.int .i64 q).wf = true) (hg : IsSigns w) :
    Calls Tryd.prog 6 #[y] w fun e w' => e = .returned (.bool true) ∧ Below w.heap.size w w' := by
  obtain ⟨q, rfl, hq⟩ := hy
  obtain ⟨hq1, hq2⟩ := of_wf2 hq
  have HSG : Hid (∀ w', Below w.heap.size w w' → IsSigns w') := fun w' h => hg.below h hg.lt
  clear hq hg
  by_cases h1 : q < 1
  · go_enter Tryd.func6, Tryd.ntmps6
    go_wp2
    go_ret
    exact ⟨rfl, Below.refl _ _⟩
  by_cases h2 : 2003 < q
  · go_enter Tryd.func6, Tryd.ntmps6
    go_wp2
    go_ret
    exact ⟨rfl, Below.refl _ _⟩
  by_cases h3 : 20 < q ∧ q < 1998
  · obtain ⟨h3, h4⟩ := h3
    go_enter Tryd.func6, Tryd.ntmps6
    go_wp2
    go_ret
    exact ⟨rfl, Below.refl _ _⟩
  obtain ⟨m, rfl⟩ : ∃ m : Nat, q = (m : Int) := ⟨q.toNat, by omega⟩
  have hm1 : 1 ≤ m := by omega
  have hm2 : m ≤ 2003 := by omega
  have hcond : (decide (20 < (m : Int)) && decide ((m : Int) < 1998)) = false := by
    rw [Bool.eq_false_iff]; intro h
    simp only [Bool.and_eq_true, decide_eq_true_eq] at h
    exact h3 h
  have H3 : Hid (¬ (20 < (m : Int) ∧ (m : Int) < 1998)) := h3
  clear h3 hq1 hq2
  obtain ⟨W, hW⟩ : ∃ W, W = w.alloc (.cells #[.string ⟨#[117, 110, 105, 116]⟩, .string ⟨#[]⟩, .string ⟨#[]⟩, .int .i64 0, .int .i64 0, .slice none 0 0] 24) := ⟨_, rfl⟩
  have HH : Hid (Holds W w.heap.size 0 ⟨#[117, 110, 105, 116]⟩ none 0 ∧ Below w.heap.size w W) := by
    rw [Hid, hW]; exact ⟨holds_start w _, (Below.refl _ _).alloc (Nat.le_refl _) _⟩
  have HWE : Hid (w.alloc (.cells #[.string ⟨#[117, 110, 105, 116]⟩, .string ⟨#[]⟩, .string ⟨#[]⟩, .int .i64 0, .int .i64 0, .slice none 0 0] 24) = W) := hW.symm
  clear hW
  go_enter Tryd.func6, Tryd.ntmps6
  go_upto_region 1 with fail
  go_cut [18] from 5 (fun c wx => c = .bool false ∧ wx = w)
  case first =>
    by_cases h20 : 20 < (m : Int)
    · have h98 : ¬ (m : Int) < 1998 := fun h => H3.out ⟨h20, h⟩
      have h98' : decide ((m : Int) < 1998) = false := decide_eq_false h98
      go_wp2_with fail
      go_meet
      exact ⟨by first | rfl | simp [h98'], rfl⟩
    · go_wp2_with fail
      go_meet
      exact ⟨by first | rfl | simp [h20], rfl⟩
  case rest =>
    obtain ⟨rfl, hwc⟩ := hcut
    rw [hwc]
    clear hwc hcond h1 h2
    go_upto_region 4 with fail
    rw [HWE.out]
    clear HWE
    go_wp2
    go_loopw [4] (fun i wr => ∃ j : Nat, j + 1 ≤ m ∧ i = .int .i64 ((j + 1 : Nat) : Int) ∧ Hid (∃ s a c, Holds wr w.heap.size j s a c ∧ Below w.heap.size w wr)) (fun i _ => m - (intOf i).toNat)
    case atStart => exact ⟨0, hm1, rfl, _, _, _, HH.out⟩
    case round =>
      clear HH
      obtain ⟨j, hj, rfl, HR⟩ := hrel
      obtain ⟨s, a, c, hh, hbel⟩ := HR.out
      obtain ⟨⟨k0, k1, k2, k3, k4, k5, f0, f1, f2, f3, f4, f5⟩, -⟩ := id hh
      clear HR
      have hjI : (0 : Int) ≤ ((j + 1 : Nat) : Int) := by omega
      by_cases hlt : j + 1 < m
      · obtain ⟨X, hX, hh2, hb2⟩ := holds_step hh 24
        have HX : Hid (Holds X w.heap.size (j + 1) ⟨#[114, 101, 102]⟩ (some ⟨wr.heap.size, 0, none⟩) 1 ∧ Below w.heap.size w X) := ⟨hh2, hb2 _ hbel⟩
        have hlI : ((j + 1 : Nat) : Int) < (m : Int) := by omega
        have hne : w.heap.size ≠ wr.heap.size := by have := Em.cell_lt k0; simp only at this; omega
        obtain ⟨r0, r1, r2, r3, r4, r5, e0, e1, e2, e3, e4, e5⟩ := hh.1.alloc (.cells #[.string s, .string ⟨#[]⟩, .string ⟨#[]⟩, .int .i64 0, .int .i64 0, .slice a c c] 24)
        clear hh hh2 hb2 hbel
        go_wp2
        go_roundw
        case rel => exact ⟨j + 1, by omega, by go_num, _, _, _, HX.out⟩
        case measure => simp [intOf]; omega
      · have hnd := Em5.isNdP_is _ _ hh.2
        have hjm : j + 1 = m := by omega
        have HN : Hid (∀ w', Below wr.heap.size wr w' → Em5.IsNd w' (chN j) (.agg #[.string s, .string ⟨#[]⟩, .string ⟨#[]⟩, .int .i64 0, .int .i64 0, .slice a c c]) ∧ Node6 w' w.heap.size (.string s) (.string ⟨#[]⟩) (.string ⟨#[]⟩) (.int .i64 0) (.int .i64 0) (.slice a c c)) := fun w' h =>
          ⟨Em5.isNd_below h _ _ hnd, (⟨k0, k1, k2, k3, k4, k5⟩ : Node6 wr w.heap.size _ _ _ _ _ _).bes (mb := wr.heap.size) (mf := wr.heap.size) (Bes2.of h) (by have := Em.cell_lt k0; simp only at this; omega) (by have := Em.cell_lt k0; simp only at this; omega)⟩
        have HB : Hid (Below w.heap.size w wr) := hbel
        have HJ : Hid (j + 1 = m) := hjm
        have hlI : ¬ ((j + 1 : Nat) : Int) < (m : Int) := by omega
        clear hh hnd hjm hbel f0 f1 f2 f3 f4 f5
        by_cases hm : m ≤ 2000
        · have HI : Hid (Em5.isNd (chN j) = true) := by rw [Hid, ch_is]; exact decide_eq_true (by have := HJ.out; omega)
          have HZ : Hid (((min (chN j).size 2001 : Nat) : Int) = (m : Int)) := by rw [Hid, ch_size]; have := HJ.out; omega
          have hmn : ¬ 2001 < (m : Int) := by omega
          have hmin : min (m : Int) 2001 = (m : Int) := by omega
          have hmi : (m : Int) ≤ 2000 := by omega
          clear hm hj hjI hm1 hm2
          go_wp2_with fail
          refine (tIs_any (chN j) _ _ (HN.out _ (Below.refl _ _)).1 (HSG.out _ HB.out)).mono ?_
          rintro e w1 ⟨rfl, hb1⟩
          rw [HI.out]
          clear k0 k1 k2 k3 k4 k5
          obtain ⟨k0, k1, k2, k3, k4, k5⟩ := (HN.out _ hb1).2
          go_wp2_with fail
          refine (tSize_any (chN j) _ _ (HN.out _ hb1).1).mono ?_
          rintro e w2 ⟨rfl, hb2⟩
          rw [HZ.out]
          have hb2' : Below w.heap.size w w2 := HB.out.trans ((hb1.trans (hb2.mono hb1.size)).mono HB.out.size)
          clear k0 k1 k2 k3 k4 k5 hb1 hb2
          go_wp2_with fail
          refine (known5_any _ (HSG.out _ hb2')).mono ?_
          rintro e w3 ⟨rfl, hb3⟩
          have hb3' : Below w.heap.size w w3 := hb2'.trans (hb3.mono hb2'.size)
          clear hb3 hb2'
          go_wp2
          go_ret
          exact ⟨rfl, hb3'⟩
        · have HI : Hid (Em5.isNd (chN j) = false) := by rw [Hid, ch_is]; exact decide_eq_false (by have := HJ.out; omega)
          have HZ : Hid (((min (chN j).size 2001 : Nat) : Int) = 2001) := by rw [Hid, ch_size]; have := HJ.out; omega
          have hm' : 2000 < (m : Int) := by omega
          have hmn : 2001 ≤ (m : Int) := by omega
          have hmin : min (m : Int) 2001 = 2001 := by omega
          have hdf : decide ((m : Int) ≤ 2000) = false := decide_eq_false (by omega)
          have HDF : Hid (decide ((m : Int) ≤ 2000) = false) := hdf
          clear hm hj hjI hm1 hm2
          go_wp2_with fail
          refine (tIs_any (chN j) _ _ (HN.out _ (Below.refl _ _)).1 (HSG.out _ HB.out)).mono ?_
          rintro e w1 ⟨rfl, hb1⟩
          rw [HI.out]
          clear k0 k1 k2 k3 k4 k5
          obtain ⟨k0, k1, k2, k3, k4, k5⟩ := (HN.out _ hb1).2
          go_wp2_with fail
          refine (tSize_any (chN j) _ _ (HN.out _ hb1).1).mono ?_
          rintro e w2 ⟨rfl, hb2⟩
          rw [HZ.out]
          have hb2' : Below w.heap.size w w2 := HB.out.trans ((hb1.trans (hb2.mono hb1.size)).mono HB.out.size)
          clear k0 k1 k2 k3 k4 k5 hb1 hb2
          go_wp2_with fail
          refine (known5_any _ (HSG.out _ hb2')).mono ?_
          rintro e w3 ⟨rfl, hb3⟩
          have hb3' : Below w.heap.size w w3 := hb2'.trans (hb3.mono hb2'.size)
          clear hb3 hb2'
          go_wp2
          go_ret
          exact ⟨by first | rfl | exact Em.ret_bool (by simp [HDF.out]), hb3'⟩

theorem treeMany_own : ownKnob Tryd.prog.godebug = none := by kernel_rfl
theorem treeMany_laidOut : laidOutB Tryd.prog = true := by kernel_rfl
theorem treeMany_met (os : Os) : laidMet Tryd.prog Rows.treeManyRow.laid ((laidWorld os).forCall (fun _ _ => 0) ⟨#[], #[.int .i64 0], []⟩).memory :=
  laidMet_of_run' 8 (by kernel_rfl) (by kernel_rfl)
theorem treeMany_reads (os : Os) {H : Type} (enc : TypeId × Value → H) : ∃ places, DataW.whole enc Tryd.prog ((laidWorld os).forCall (fun _ _ => 0) ⟨#[], #[.int .i64 0], []⟩).memory Tryd.f6.params.toList Rows.treeManySpec.vars false (#[.int .i64 0] : Array Value).toList 8 = some ([.lit (.int .i64 0)], [], places) :=
  ⟨[], by kernel_rfl⟩
set_option maxRecDepth 100000 in
theorem treeMany_lifted (os : Os) (started : os.Started) (H : Type) (enc : TypeId × Value → H) (F : Stop.Interp) :
    ReturnsInHanded {} Tryd.checked os 6 .any ((OpenSpec.ofChange Rows.treeManySpec).preRow enc Tryd.prog Tryd.f6 Rows.treeManyRow.domain false Rows.treeManyRow.laid) (((OpenSpec.ofChange Rows.treeManySpec).at F).post enc Tryd.prog Tryd.f6 false true false false) := by
  obtain ⟨places, hx⟩ := treeMany_reads os enc
  refine returnsInHanded_of_row (C := Tryd.checked) (s := OpenSpec.ofChange Rows.treeManySpec) treeMany_own started (by kernel_rfl) Tryd.func6
    (witness_row_at (enc := enc) (C := Tryd.checked) false (laidWorld os) #[.int .i64 0] rfl (by kernel_rfl) (by kernel_rfl) (by kernel_rfl)
      (OpenSpec.preRow_of_cond 8 hx (by kernel_rfl) (fun k hk => by cases hk) (by kernel_rfl) (treeMany_met os))) ?_
  intro W base args ds gs before hval0 hW _ _ hsz0 hL _ _
  have hfact := signs_of_laid hL
  have hval : ∀ (j : Nat) t v, Tryd.f6.params[j]? = some t → args[j]? = some v → Value.okWide Tryd.prog W .any base t v := hval0
  have hW' := hW
  obtain ⟨p, q, hA0, hV, rfl, hfz, hnd⟩ := hW
  have hA : DataW.TrodAll enc Tryd.prog W 0 (fun _ => true) true Tryd.f6.params.toList args.toList ds p := hA0
  have hsz : (DataW.weightsEach Tryd.prog (Tryd.f6.params.toList ++ Rows.treeManySpec.plain.varTypes Tryd.prog) (ds ++ gs)).all (· ≤ reachBytes) = true := hsz0
  rw [Tryd.params6] at hA hval hsz
  obtain ⟨v0, vs0, d0, ds0, p0, q0, hargs, rfl, rfl, h0, r0⟩ := trodAll_cons hA
  obtain ⟨rfl, rfl, rfl⟩ := trodAll_nil r0
  obtain rfl : args = #[v0] := by cases args; simp_all
  obtain ⟨rfl, rfl⟩ := trodVars_none hV
  have lt0 : ∀ x ∈ p0, x.block < W.heap.size := by obtain ⟨m, hm⟩ := h0; exact DataW.trod_lt m _ _ _ hm
  have o0 := Em.open_int Tryd.underlying3 (hval 0 3 v0 rfl rfl) h0
  clear hA0 hval0 hsz0 hsz
  refine (walk_treeMany W v0 o0 hfact).mono fun e W' ⟨he, bel⟩ => ?_
  subst he
  exact ⟨_, rfl, _, _, _, [], _, [], hW', trodAll_mk1 (shut_bool Tryd.underlying4 _), (trodAll_cons_mk (Below.trod treeMany_laidOut (by kernel_rfl) (of_decide_eq_true (by kernel_rfl)) h0 bel lt0) trodAll_mk0), rfl, bel.frame _, fun h => by cases h⟩
theorem treeMany_said : Rows.TreeManySaid :=
  OpenClaim.holds_of_cond 6 Tryd.f6 rfl rfl rfl rfl rfl rfl rfl ⟨rfl, rfl, rfl, rfl, rfl⟩ rfl rfl rfl rfl rfl (by kernel_rfl) Tryd.func6 (by kernel_rfl)
    (of_decide_eq_true (by kernel_rfl)) (by unfold Func.isWrapper; first | (rw [if_pos (by decide +kernel)]; kernel_rfl) | (rw [if_neg (by decide +kernel)]; exact ⟨rfl, rfl⟩))
    (fun os started H enc _ F => by rw [OpenClaim.pre_eq_preRow]; exact treeMany_lifted os started H enc F)
theorem treeMany_plain (f : FuncId) (fn : Func) (hf : Tryd.pinned.checked.prog.funcNamed "emissary/emissarylaw5.TreeMany" = some f) (hfn : Tryd.pinned.checked.prog.funcs[f]? = some fn) :
    false = Tryd.pinned.checked.prog.looks [] ∧ ∀ (j : Nat) t, fn.params[j]? = some t → Tryd.pinned.checked.prog.wantsStandIn t = false := by
  obtain rfl : f = 6 := Option.some.inj ((show Tryd.prog.funcNamed "emissary/emissarylaw5.TreeMany" = some 6 by kernel_rfl).symm.trans hf) |>.symm
  obtain rfl : fn = Tryd.f6 := (Option.some.inj (Tryd.func6.symm.trans hfn)).symm
  refine ⟨by kernel_rfl, fun j t ht => ?_⟩
  rw [Tryd.params6] at ht
  have hm : t ∈ ([3] : List Nat) := by simpa using Array.mem_of_getElem? ht
  have hall : (([3] : List Nat).all fun u => !Tryd.prog.wantsStandIn u) = true := by kernel_rfl
  exact (show Tryd.prog.wantsStandIn t = false by simpa using List.all_eq_true.1 hall t hm)
theorem treeMany_holds : Rows.TreeManyCardSaid :=
  Claim7.holds_tied_plain_at .later [] _ _ _ _ treeMany_said (fun _ h => by cases h) (by kernel_rfl) (fun _ h => by cases h) treeMany_row_tie rfl ⟨rfl, rfl⟩ (by kernel_rfl) rfl treeMany_plain (by kernel_rfl)
#print axioms treeMany_holds
end Go.Proofs.YtlniokcekjemdaaDoor

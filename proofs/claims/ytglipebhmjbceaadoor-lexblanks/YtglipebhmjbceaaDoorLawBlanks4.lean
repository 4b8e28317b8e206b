/- LexBlanks: blanks ahead of a text move all its tokens, and nothing more. No condition but that lex.signs holds what its initialiser lays, to which the card ties it. -/
import Derived.Test.YtglipebhmjbceaaDoorRows
import Derived.Test.YtglipebhmjbceaaDoorCards
import Derived.Test.YtglipebhmjbceaaDoorTie
import Derived.Test.YtglipebhmjbceaaDoorLexL
import Derived.Test.YtglipebhmjbceaaDoorKnown4
import Derived.Test.YtglipebhmjbceaaDoorStrA
import Derived.Test.YtglipebhmjbceaaDoorFrame
import Derived.Test.YtglipebhmjbceaaDoorFrame2
namespace Go.Proofs.YtglipebhmjbceaaDoor
open Go.ChangeShapes Go.WideShapes Go.ChangeAt Go.RowKit
set_option linter.unusedVariables false

/-- The k-th blank of a row of them. -/
def blankAt (k : Nat) : Int := if k % 3 = 0 then 32 else if k % 3 = 1 then 9 else 10
theorem blankAt_ok (k : Nat) : Em4.blank (blankAt k) = true ∧ 0 ≤ blankAt k ∧ blankAt k ≤ 255 := by
  unfold blankAt
  split
  · decide
  · split <;> decide
/-- The first k of them, the last one ahead. -/
def blanks : Nat → List Int
  | 0 => []
  | k + 1 => blankAt k :: blanks k
theorem blanks_len : ∀ k, (blanks k).length = k
  | 0 => rfl
  | k + 1 => by simp [blanks, blanks_len k]
theorem blanks_all : ∀ k, ∀ c ∈ blanks k, Em4.blank c = true
  | 0 => by simp [blanks]
  | k + 1 => by
    intro c hc
    rcases List.mem_cons.1 hc with e | e
    · rw [e]; exact (blankAt_ok k).1
    · exact blanks_all k c e
theorem blank_get (k : Nat) : ∀ h : (k % 3) < (⟨#[32, 9, 10]⟩ : ByteArray).size, (((⟨#[32, 9, 10]⟩ : ByteArray)[k % 3]'h).toNat : Int) = blankAt k := by
  intro h
  unfold blankAt
  have h3 : k % 3 = 0 ∨ k % 3 = 1 ∨ k % 3 = 2 := by omega
  rcases h3 with e | e | e
  · simp [e]; rfl
  · simp [e]; rfl
  · simp [e]; rfl

set_option maxRecDepth 100000 in
set_option maxHeartbeats 2000000 in
theorem walk_lexBlanks (w : World) (y z : Value) (hy : ∃ s, y = .string s ∧ s.size ≤ maxLen) (hz : ∃ n, z = .int .i64 n ∧ (Lit.int .i64 n).wf = true) (hg : IsSigns w) :
    Calls Tryd.prog 4 #[y, z] w fun e w' => e = .returned (.bool true) ∧ Below w.heap.size w w' := by
  obtain ⟨s, rfl, hmax⟩ := hy
  obtain ⟨n, rfl, hn⟩ := hz
  unfold maxLen at hmax
  clear hn
  obtain ⟨L, hL⟩ := Em.isStr_of s
  have HL : Hid (Em.IsStr s L) := hL
  have HG : Hid (IsSigns w) := hg
  have HBY : Hid (Em4.Byt L) := hL.2
  have HZ : Hid (s.size = L.length) := hL.size
  clear hL hg
  by_cases h20 : 2000 < s.size
  · go_enter Tryd.func4, Tryd.ntmps4
    go_wp2_with fail
    refine (rtokens_great _ _ h20).mono ?_
    rintro e w1 ⟨rfl, rfl⟩
    go_wp2
    go_ret
    exact ⟨rfl, Below.refl _ _⟩
  by_cases hbad : 1000 < s.size ∨ n < 0 ∨ 50 < n ∨ (∃ i, Em4.toks L = .error i)
  · have HBAD : Hid (1000 < s.size ∨ n < 0 ∨ 50 < n ∨ (∃ i, Em4.toks L = .error i)) := hbad
    clear hbad
    go_enter Tryd.func4, Tryd.ntmps4
    go_wp2_with fail
    refine (rtokens_any _ L _ HL.out (by omega)).mono ?_
    rintro e w1 ⟨hgot, hb1⟩
    have hend : ∃ v a f, e = .returned (.tuple #[v, .int .i64 a, .int .i64 f]) ∧ (1000 < s.size ∨ n < 0 ∨ 50 < n ∨ (f != 0) = true) := by
      cases ht : Em4.toks L with
      | error i =>
        rw [ht] at hgot
        simp only [ToksGot] at hgot
        exact ⟨_, _, _, hgot, .inr (.inr (.inr (by decide)))⟩
      | ok T =>
        rw [ht] at hgot
        obtain ⟨v, hv, -⟩ := hgot
        refine ⟨_, _, _, hv, ?_⟩
        rcases HBAD.out with h | h | h | ⟨i, h⟩
        · exact .inl h
        · exact .inr (.inl h)
        · exact .inr (.inr (.inl h))
        · rw [ht] at h; cases h
    obtain ⟨v, a, f, rfl, hcs⟩ := hend
    clear hgot HBAD
    by_cases c1 : 1000 < s.size
    · clear hcs
      go_wp2
      go_ret
      exact ⟨rfl, hb1⟩
    by_cases c2 : n < 0
    · clear hcs
      go_wp2
      go_ret
      exact ⟨rfl, hb1⟩
    by_cases c3 : 50 < n
    · clear hcs
      go_wp2
      go_ret
      exact ⟨rfl, hb1⟩
    have c4 : (f != 0) = true := by
      rcases hcs with h | h | h | h
      · exact absurd h c1
      · exact absurd h c2
      · exact absurd h c3
      · exact h
    have c5 : (f == 0) = false := by rw [beq_eq_false_iff_ne]; simpa using c4
    clear hcs
    go_wp2
    go_ret
    exact ⟨rfl, hb1⟩
  have g1 : ¬ 1000 < s.size := fun h => hbad (.inl h)
  have g2 : ¬ n < 0 := fun h => hbad (.inr (.inl h))
  have g3 : ¬ 50 < n := fun h => hbad (.inr (.inr (.inl h)))
  obtain ⟨T, hT⟩ : ∃ T, Em4.toks L = .ok T := by
    cases ht : Em4.toks L with
    | error i => exact absurd (.inr (.inr (.inr ⟨i, ht⟩))) hbad
    | ok T => exact ⟨T, rfl⟩
  clear hbad h20
  obtain ⟨m, rfl⟩ : ∃ m : Nat, n = m := ⟨n.toNat, by omega⟩
  have HT : Hid (Em4.toks L = .ok T) := hT
  have HTB : Hid (Em4.toks (blanks m ++ L) = .ok (T.map (Em4.Tok.mv m))) := by
    rw [Hid, Em4.toks_blanks _ _ (blanks_all m), blanks_len, hT]; rfl
  have HTL : Hid (T.length ≤ L.length + 1) := Em4.toks_len hT
  have HNE : Hid (0 < T.length) := Em4.toks_ne hT
  have HTP : Hid (∀ t ∈ T, t.pos ≤ L.length) := Em4.toks_pos hT
  clear hT
  go_enter Tryd.func4, Tryd.ntmps4
  go_wp2_with fail
  refine (rtokens_any _ L _ HL.out (by omega)).mono ?_
  rintro e w1 ⟨hgot, hb1⟩
  rw [HT.out] at hgot
  obtain ⟨v1, rfl, hown1⟩ := hgot
  obtain ⟨b1, cp1, rfl, -, -, -, hb1l, hc1⟩ := hown1.at HNE.out
  have HC1 : Hid (∀ j t, T[j]? = some t → w1.cell? ⟨b1, j * 4, none⟩ = some (.int .i64 t.kind) ∧ w1.cell? ⟨b1, j * 4 + 1, none⟩ = some (.string (Em.str t.text)) ∧ w1.cell? ⟨b1, j * 4 + 2, none⟩ = some (.int .i64 t.num) ∧ w1.cell? ⟨b1, j * 4 + 3, none⟩ = some (.int .i64 t.pos)) := hc1
  clear hown1 hc1
  go_wp2
  go_loopw [8, 9] (fun a i wr => ∃ (k : Nat) (x : ByteArray), k ≤ m ∧ i = .int .i64 k ∧ a = .string x ∧ Hid (Em.IsStr x (blanks k ++ L)) ∧ Below w1.heap.size w1 wr) (fun _ i _ => m - (intOf i).toNat)
  case atStart => exact ⟨0, _, Nat.zero_le _, rfl, rfl, HL, Below.refl _ _⟩
  case round =>
    obtain ⟨k, x, hk, rfl, rfl, HX, hbel⟩ := hrel
    by_cases hlt : k < m
    · have hcv := Em.run_str (P := Tryd.prog) 31 9 5 Tryd.underlying31 Tryd.underlying5 Tryd.underlying9 (isBytes_one wr (blankAt k) 5 (blankAt_ok k).2)
      have hsz : ¬ 9223372036854775807 < (Em.str [blankAt k]).size + x.size := by
        have := HZ.out
        rw [HX.out.size, str_size, List.length_append, blanks_len]; simp; omega
      have HX2 : Hid (Em.IsStr (Em.str [blankAt k] ++ x) (blanks (k + 1) ++ L)) := by
        have h := isStr_app (Em.isStr_str (L := [blankAt k]) (by intro x hx; simp at hx; rw [hx]; exact (blankAt_ok k).2)) HX.out
        simpa [Hid, blanks] using h
      have HB2 : Hid (Below w1.heap.size w1 (wr.alloc (.cells #[.int .u8 (blankAt k)] 5))) := hbel.alloc hbel.size _
      have hmod : (k : Int).tmod 3 = ((k % 3 : Nat) : Int) := by rw [Int.tmod_eq_emod_of_nonneg (by omega)]; simp
      have hgt := blank_get k
      have hlt3 : k % 3 < 3 := by omega
      obtain ⟨c, hc⟩ : ∃ c, c = blankAt k := ⟨_, rfl⟩
      obtain ⟨j, hj⟩ : ∃ j, j = k % 3 := ⟨_, rfl⟩
      rw [← hc] at hcv hsz HX2 HB2 hgt
      rw [← hj] at hmod hlt3
      clear HX hbel hc
      go_wp2
      go_roundw
      case rel => exact ⟨k + 1, _, by omega, by go_num, rfl, HX2, HB2.out⟩
      case measure => simp [intOf]; omega
    · obtain rfl : k = m := by omega
      have hxs : x.size = k + L.length := by rw [HX.out.size, List.length_append, blanks_len]
      have hxz : x.size ≤ 2000 := by have := HZ.out; omega
      have HBW : Hid (Below w.heap.size w wr) := hb1.trans (hbel.mono hb1.size)
      go_wp2_with fail
      refine (ltokens_any _ (blanks k ++ L) _ HX.out hxz (HG.out.below HBW.out HG.out.lt)).mono ?_
      rintro e w2 ⟨hgot, hb2⟩
      rw [HTB.out] at hgot
      obtain ⟨v2, rfl, hown2⟩ := hgot
      have hlen2 : (T.map (Em4.Tok.mv k)).length = T.length := by simp
      obtain ⟨b2, cp2, rfl, -, -, -, hb2l, hc2⟩ := hown2.at (by rw [hlen2]; exact HNE.out)
      rw [hlen2]
      have hq1 : ((T.length : Int) != (T.length : Int)) = false := by simp
      have hq2 : ((x.size : Int) != (x.size : Int)) = false := by simp
      have HB2 : Hid (Below w1.heap.size w1 w2) := hbel.trans (hb2.mono hbel.size)
      have hz2 := HB2.out.size
      have HC2 : Hid (∀ j t, T[j]? = some t → w2.cell? ⟨b2, j * 4, none⟩ = some (.int .i64 t.kind) ∧ w2.cell? ⟨b2, j * 4 + 1, none⟩ = some (.string (Em.str t.text)) ∧ w2.cell? ⟨b2, j * 4 + 2, none⟩ = some (.int .i64 t.num) ∧ w2.cell? ⟨b2, j * 4 + 3, none⟩ = some (.int .i64 ((t.pos + k : Nat) : Int))) := fun j t hj => by
        have := hc2 j (t.mv k) (by simp [hj])
        exact this
      have HC1' : Hid (∀ j t, T[j]? = some t → w2.cell? ⟨b1, j * 4, none⟩ = some (.int .i64 t.kind) ∧ w2.cell? ⟨b1, j * 4 + 1, none⟩ = some (.string (Em.str t.text)) ∧ w2.cell? ⟨b1, j * 4 + 2, none⟩ = some (.int .i64 t.num) ∧ w2.cell? ⟨b1, j * 4 + 3, none⟩ = some (.int .i64 t.pos)) := fun j t hj => by
        obtain ⟨e0, e1, e2, e3⟩ := HC1.out j t hj
        have key : ∀ o, w2.cell? ⟨b1, o, none⟩ = w1.cell? ⟨b1, o, none⟩ := fun o => HB2.out.cell (p := ⟨b1, o, none⟩) hb1l
        exact ⟨by rw [key]; exact e0, by rw [key]; exact e1, by rw [key]; exact e2, by rw [key]; exact e3⟩
      have hb1l2 : b1 < w2.heap.size := by omega
      have HBW2 : Hid (Below w.heap.size w w2) := HBW.out.trans (hb2.mono HBW.out.size)
      clear hown2 hc2 hbel hb2 hlen2 HC1 HX
      have hTl : T.length ≤ 3000 := by have := HTL.out; have := HZ.out; omega
      go_wp2
      go_loopw [13] (fun i wq => ∃ j : Nat, j ≤ T.length ∧ i = .int .i64 j ∧ Below w2.heap.size w2 wq) (fun i _ => T.length - (intOf i).toNat)
      case atStart => exact ⟨0, Nat.zero_le _, rfl, Below.refl _ _⟩
      case round =>
        obtain ⟨j, hj, rfl, hbq⟩ := hrel
        by_cases hjl : j < T.length
        · obtain ⟨t, ht⟩ : ∃ t, T[j]? = some t := ⟨_, List.getElem?_eq_getElem hjl⟩
          obtain ⟨e0, e1, e2, e3⟩ := HC2.out j t ht
          obtain ⟨d0, d1, d2, d3⟩ := HC1'.out j t ht
          have hp := HTP.out t (List.mem_of_getElem? ht)
          have k1 : ∀ o, wr.cell? ⟨b1, o, none⟩ = w2.cell? ⟨b1, o, none⟩ := fun o => hbq.cell (p := ⟨b1, o, none⟩) hb1l2
          have k2 : ∀ o, wr.cell? ⟨b2, o, none⟩ = w2.cell? ⟨b2, o, none⟩ := fun o => hbq.cell (p := ⟨b2, o, none⟩) hb2l
          rw [← k2] at e0 e1 e2 e3
          rw [← k1] at d0 d1 d2 d3
          have hz3 := hbq.size
          have l1 : b1 < wr.heap.size := by omega
          have l2 : b2 < wr.heap.size := by omega
          have hzz := HZ.out
          obtain ⟨tk, tx, tn, tp⟩ := t
          simp only at e0 e1 e2 e3 d0 d1 d2 d3 hp
          obtain ⟨X, hX⟩ : ∃ X, X = Em.str tx := ⟨_, rfl⟩
          rw [← hX] at e1 d1
          obtain ⟨q, hq⟩ : ∃ q, q = tp + k := ⟨_, rfl⟩
          rw [← hq] at e3
          have hsub : (q : Int) - (k : Int) = (tp : Int) := by omega
          have hq3 : q ≤ 5000 := by omega
          have HBA : Hid (Below w2.heap.size w2 (wr.alloc (.cells #[.int .i64 tk, .string X, .int .i64 tn, .int .i64 (tp : Int)] 33))) := hbq.alloc hz3 _
          have hj0 : (0 : Int) ≤ (j : Int) := by omega
          have hjI : (j : Int) < (T.length : Int) := by omega
          clear k1 k2 ht hX hq hp hbq
          go_wp2_with fail
          go_quiet (fail)
          go_wp2
          go_roundw
          case rel => exact ⟨j + 1, by omega, by go_num, Em.below_drewN HBA.out nq⟩
          case measure => simp [intOf]; omega
        · have belq := HBW2.out.trans (hbq.mono HBW2.out.size)
          go_wp2_with fail
          refine (known4_any _ (HG.out.below belq HG.out.lt)).mono ?_
          rintro e w3 ⟨rfl, hb3⟩
          have bel3 := belq.trans (hb3.mono belq.size)
          go_wp2
          go_ret
          exact ⟨rfl, bel3⟩

theorem lexBlanks_own : ownKnob Tryd.prog.godebug = none := by kernel_rfl
theorem lexBlanks_laidOut : laidOutB Tryd.prog = true := by kernel_rfl
theorem lexBlanks_met (os : Os) : laidMet Tryd.prog Rows.lexBlanksRow.laid ((laidWorld os).forCall (fun _ _ => 0) ⟨#[], #[.string ByteArray.empty, .int .i64 0], []⟩).memory :=
  laidMet_of_run' 8 (by kernel_rfl) (by kernel_rfl)
theorem lexBlanks_reads (os : Os) {H : Type} (enc : TypeId × Value → H) : ∃ places, DataW.whole enc Tryd.prog ((laidWorld os).forCall (fun _ _ => 0) ⟨#[], #[.string ByteArray.empty, .int .i64 0], []⟩).memory Tryd.f4.params.toList Rows.lexBlanksSpec.vars false (#[.string ByteArray.empty, .int .i64 0] : Array Value).toList 8 = some ([.lit (.string []), .lit (.int .i64 0)], [], places) :=
  ⟨[], by kernel_rfl⟩
set_option maxRecDepth 100000 in
theorem lexBlanks_lifted (os : Os) (started : os.Started) (H : Type) (enc : TypeId × Value → H) (F : Stop.Interp) :
    ReturnsInHanded {} Tryd.checked os 4 .any ((OpenSpec.ofChange Rows.lexBlanksSpec).preRow enc Tryd.prog Tryd.f4 Rows.lexBlanksRow.domain false Rows.lexBlanksRow.laid) (((OpenSpec.ofChange Rows.lexBlanksSpec).at F).post enc Tryd.prog Tryd.f4 false true false false) := by
  obtain ⟨places, hx⟩ := lexBlanks_reads os enc
  refine returnsInHanded_of_row (C := Tryd.checked) (s := OpenSpec.ofChange Rows.lexBlanksSpec) lexBlanks_own started (by kernel_rfl) Tryd.func4
    (witness_row_at (enc := enc) (C := Tryd.checked) false (laidWorld os) #[.string ByteArray.empty, .int .i64 0] rfl (by kernel_rfl) (by kernel_rfl) (by kernel_rfl)
      (OpenSpec.preRow_of_cond 8 hx (by kernel_rfl) (fun k hk => by cases hk) (by kernel_rfl) (lexBlanks_met os))) ?_
  intro W base args ds gs before hval0 hW _ _ hsz0 hL _ _
  have hfact := signs_of_laid hL
  have hval : ∀ (j : Nat) t v, Tryd.f4.params[j]? = some t → args[j]? = some v → Value.okWide Tryd.prog W .any base t v := hval0
  have hW' := hW
  obtain ⟨p, q, hA0, hV, rfl, hfz, hnd⟩ := hW
  have hA : DataW.TrodAll enc Tryd.prog W 0 (fun _ => true) true Tryd.f4.params.toList args.toList ds p := hA0
  have hsz : (DataW.weightsEach Tryd.prog (Tryd.f4.params.toList ++ Rows.lexBlanksSpec.plain.varTypes Tryd.prog) (ds ++ gs)).all (· ≤ reachBytes) = true := hsz0
  rw [Tryd.params4] at hA hval hsz
  obtain ⟨v0, vs0, d0, ds0, p0, q0, hargs, rfl, rfl, h0, r0⟩ := trodAll_cons hA
  obtain ⟨v1, vs1, d1, ds1, p1, q1, rfl, rfl, rfl, h1, r1⟩ := trodAll_cons r0
  obtain ⟨rfl, rfl, rfl⟩ := trodAll_nil r1
  obtain rfl : args = #[v0, v1] := by cases args; simp_all
  obtain ⟨rfl, rfl⟩ := trodVars_none hV
  have lt0 : ∀ x ∈ p0, x.block < W.heap.size := by obtain ⟨m, hm⟩ := h0; exact DataW.trod_lt m _ _ _ hm
  have o0 := Em.open_str Tryd.underlying9 (hval 0 9 v0 rfl rfl) h0
  have lt1 : ∀ x ∈ p1, x.block < W.heap.size := by obtain ⟨m, hm⟩ := h1; exact DataW.trod_lt m _ _ _ hm
  have o1 := Em.open_int Tryd.underlying3 (hval 1 3 v1 rfl rfl) h1
  clear hA0 hval0 hsz0 hsz
  refine (walk_lexBlanks W v0 v1 o0 o1 hfact).mono fun e W' ⟨he, bel⟩ => ?_
  subst he
  exact ⟨_, rfl, _, _, _, [], _, [], hW', trodAll_mk1 (shut_bool Tryd.underlying4 _), (trodAll_cons_mk (Below.trod lexBlanks_laidOut (by kernel_rfl) (of_decide_eq_true (by kernel_rfl)) h0 bel lt0) (trodAll_cons_mk (Below.trod lexBlanks_laidOut (by kernel_rfl) (of_decide_eq_true (by kernel_rfl)) h1 bel lt1) trodAll_mk0)), rfl, bel.frame _, fun h => by cases h⟩
theorem lexBlanks_said : Rows.LexBlanksSaid :=
  OpenClaim.holds_of_cond 4 Tryd.f4 rfl rfl rfl rfl rfl rfl rfl ⟨rfl, rfl, rfl, rfl, rfl⟩ rfl rfl rfl rfl rfl (by kernel_rfl) Tryd.func4 (by kernel_rfl)
    (of_decide_eq_true (by kernel_rfl)) (by unfold Func.isWrapper; first | (rw [if_pos (by decide +kernel)]; kernel_rfl) | (rw [if_neg (by decide +kernel)]; exact ⟨rfl, rfl⟩))
    (fun os started H enc _ F => by rw [OpenClaim.pre_eq_preRow]; exact lexBlanks_lifted os started H enc F)
theorem lexBlanks_plain (f : FuncId) (fn : Func) (hf : Tryd.pinned.checked.prog.funcNamed "emissary/emissarylaw4.LexBlanks" = some f) (hfn : Tryd.pinned.checked.prog.funcs[f]? = some fn) :
    false = Tryd.pinned.checked.prog.looks [] ∧ ∀ (j : Nat) t, fn.params[j]? = some t → Tryd.pinned.checked.prog.wantsStandIn t = false := by
  obtain rfl : f = 4 := Option.some.inj ((show Tryd.prog.funcNamed "emissary/emissarylaw4.LexBlanks" = some 4 by kernel_rfl).symm.trans hf) |>.symm
  obtain rfl : fn = Tryd.f4 := (Option.some.inj (Tryd.func4.symm.trans hfn)).symm
  refine ⟨by kernel_rfl, fun j t ht => ?_⟩
  rw [Tryd.params4] at ht
  have hm : t ∈ ([9, 3] : List Nat) := by simpa using Array.mem_of_getElem? ht
  have hall : (([9, 3] : List Nat).all fun u => !Tryd.prog.wantsStandIn u) = true := by kernel_rfl
  exact (show Tryd.prog.wantsStandIn t = false by simpa using List.all_eq_true.1 hall t hm)
theorem lexBlanks_holds : Rows.LexBlanksCardSaid :=
  Claim7.holds_tied_plain_at .later [] _ _ _ _ lexBlanks_said (fun _ h => by cases h) (by kernel_rfl) (fun _ h => by cases h) lexBlanks_row_tie rfl ⟨rfl, rfl⟩ (by kernel_rfl) rfl lexBlanks_plain (by kernel_rfl)
#print axioms lexBlanks_holds
end Go.Proofs.YtglipebhmjbceaaDoor

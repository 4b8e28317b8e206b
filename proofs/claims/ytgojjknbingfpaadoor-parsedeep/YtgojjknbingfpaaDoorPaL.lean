/- What 'form', 'name' of the program's parser answer. -/
import Derived.Test.YtgojjknbingfpaaDoorPaK
import Derived.Test.YtgojjknbingfpaaDoorLexC
import Derived.LoopN
namespace Go.Proofs.YtgojjknbingfpaaDoor
open Go.RowKit Go.Em5 Go.Em6
set_option linter.unusedSimpArgs false

/-- The words by which an expr begins, and what is left. -/
def formS (s : St) : List Int × St :=
  if isWS [108, 101, 116] s then (if isWS [114, 101, 99] (eatS [108, 101, 116] s) then ([114, 101, 99], eatS [114, 101, 99] (eatS [108, 101, 116] s)) else ([108, 101, 116], eatS [108, 101, 116] s))
  else if isWS [102, 117, 110] s then ([102, 117, 110], eatS [102, 117, 110] s)
  else if isWS [105, 102] s then ([105, 102], eatS [105, 102] s)
  else if isWS [109, 97, 116, 99, 104] s then ([109, 97, 116, 99, 104], eatS [109, 97, 116, 99, 104] s)
  else if isWS [116, 114, 121] s then ([116, 114, 121], eatS [116, 114, 121] s)
  else ([], s)
/-- A node's first name is its Name, its second its Arg. -/
def nmA (nm : List Int) (s : St) : List Int × List Int := if nm = [] then ((nameS s).1, []) else (nm, (nameS s).1)
theorem nameS_else {s : St} (h : ¬ (peekS s).kind = 1) : nameS s = ([], failS 2 s) := by
  cases s with
  | error e => rfl
  | ok L => cases L with
    | nil => rfl
    | cons t r =>
      have h : ¬ t.kind = 1 := h
      simp only [nameS, if_neg h, failS, posL]
theorem nmA_else {nm : List Int} {s : St} (h : (nameS s).1 = []) : nmA nm s = (nm, []) := by
  unfold nmA
  split
  · rename_i e; rw [h, e]
  · rw [h]
set_option maxRecDepth 100000 in
set_option maxHeartbeats 4000000 in
theorem qname_any (d : Nat) (w : World) (pb tb g : Nat) (s : St) (h : IsPs w pb tb d s) (hpg : pb < g) (htg : tb < g) (op nm : List Int) (hnm : Txt nm) (p : Nat) (l : List Nd) (hv : KV 24 w g op nm [] p l) :
    Calls Tryd.prog 30 #[PP pb, PP g] w fun e w' => e = .returned (.tuple #[]) ∧ IsPs w' pb tb d (nameS s).2 ∧ KV 24 w' g op (nmA nm s).1 (nmA nm s).2 p l ∧ BesB g pb w w' := by
  have HH : Hid (IsPs w pb tb d s) := h
  have hgl := hv.lt
  have hlp := h.lt.1
  have HV : Hid (KV 24 w g op nm [] p l) := hv
  obtain ⟨t, htd⟩ : ∃ t, t = peekS s := ⟨_, rfl⟩
  have HT : Hid (peekS s = t) := htd.symm
  by_cases h1 : t.kind = 1
  · have hk : (t.kind == 1) = true := by simpa using h1
    have hk' : (t.kind != 1) = false := by rw [bne, hk]; rfl
    obtain ⟨r, rfl⟩ : ∃ r, s = .ok (t :: r) := by
      cases s with
      | error e => rw [htd] at h1; simp [peekS] at h1
      | ok L => cases L with
        | nil => rw [htd] at h1; simp [peekS] at h1
        | cons x r => exact ⟨r, by rw [htd]; rfl⟩
    have HE : Hid (nameS (.ok (t :: r)) = (t.text, .ok r)) := by simp [Hid, nameS, h1]
    have HK : Hid (t.kind ≠ 5) := by rw [Hid, h1]; decide
    have hqn := Em5.str_eq hnm.1 []
    have f0 := fld0 t.kind (Em.str t.text) t.num t.pos
    have f1 := fld1 t.kind (Em.str t.text) t.num t.pos
    clear h hv htd h1
    by_cases hn0 : nm = []
    · have hq : ((Em.str nm).toList == []) = true := hqn.trans (decide_eq_true hn0)
      have HNA : Hid (nmA nm (.ok (t :: r)) = (t.text, [])) := by rw [Hid, nmA, if_pos hn0, HE.out]
      rw [HNA.out, HE.out]
      clear hqn hn0
      go_enter Tryd.func30, Tryd.ntmps30
      go_wp2_with fail
      refine (qpeek_any pb tb d _ _ HH.out.1).mono ?_
      rintro e w1 ⟨rfl, hb1⟩
      rw [HT.out]
      simp only [Em6.tokV]
      have h1 := HH.out.below hb1
      have v1 := HV.out.below hb1
      go_wp2_with fail
      refine (qnext_any pb tb d t r _ h1 HK.out).mono ?_
      rintro e w2 ⟨rfl, h2, b2⟩
      simp only [Em6.tokV]
      have v2 := v1.bes b2 hpg
      have bs2 : BesB g pb w w2 := (BesB.of (Bes.of hb1) (by omega)).trans (BesB.of b2 (by have := hb1.size; omega))
      have hl2 := h2.lt
      clear h1 v1 b2 hb1
      obtain ⟨a, cap, sx, ox⟩ := v2
      obtain ⟨c0, c1, c2, c3, c4, c5, fz0, fz1, fz2, fz3, fz4, fz5⟩ := id sx
      have gl2 := sx.lt
      obtain ⟨W, hW, sy, hz, hk, hbb⟩ := sx.set1 (.string (Em.str t.text))
      go_wp2_with fail
      (try simp only [Exit.inBlock, Exit.then])
      refine bodyPost_end (results_none rfl _ _ _) rfl ?_
      have hbW := hbb g w2
      exact ⟨rfl, h2.set hz hk (by omega) (by omega), KV.put ox sy hz hk, bs2.trans ⟨by rw [← hW]; rfl, by rw [← hW]; rfl, by rw [← hW]; rfl, by omega, fun k hkg _ => hk k (by omega)⟩⟩
    · have hq : ((Em.str nm).toList == []) = false := hqn.trans (decide_eq_false hn0)
      have HNA : Hid (nmA nm (.ok (t :: r)) = (nm, t.text)) := by rw [Hid, nmA, if_neg hn0, HE.out]
      rw [HNA.out, HE.out]
      clear hqn hn0
      go_enter Tryd.func30, Tryd.ntmps30
      go_wp2_with fail
      refine (qpeek_any pb tb d _ _ HH.out.1).mono ?_
      rintro e w1 ⟨rfl, hb1⟩
      rw [HT.out]
      simp only [Em6.tokV]
      have h1 := HH.out.below hb1
      have v1 := HV.out.below hb1
      go_wp2_with fail
      refine (qnext_any pb tb d t r _ h1 HK.out).mono ?_
      rintro e w2 ⟨rfl, h2, b2⟩
      simp only [Em6.tokV]
      have v2 := v1.bes b2 hpg
      have bs2 : BesB g pb w w2 := (BesB.of (Bes.of hb1) (by omega)).trans (BesB.of b2 (by have := hb1.size; omega))
      have hl2 := h2.lt
      clear h1 v1 b2 hb1
      obtain ⟨a, cap, sx, ox⟩ := v2
      obtain ⟨c0, c1, c2, c3, c4, c5, fz0, fz1, fz2, fz3, fz4, fz5⟩ := id sx
      have gl2 := sx.lt
      obtain ⟨W, hW, sy, hz, hk, hbb⟩ := sx.set2 (.string (Em.str t.text))
      go_wp2_with fail
      (try simp only [Exit.inBlock, Exit.then])
      refine bodyPost_end (results_none rfl _ _ _) rfl ?_
      exact ⟨rfl, h2.set hz hk (by omega) (by omega), KV.put ox sy hz hk, bs2.trans ⟨by rw [← hW]; rfl, by rw [← hW]; rfl, by rw [← hW]; rfl, by omega, fun k hkg _ => hk k (by omega)⟩⟩
  · have hk : (t.kind == 1) = false := by simpa using h1
    have hk' : (t.kind != 1) = true := by rw [bne, hk]; rfl
    have HE : Hid (nameS s = ([], failS 2 s)) := nameS_else (by rw [← htd]; exact h1)
    have HNA : Hid (nmA nm s = (nm, [])) := nmA_else (by rw [HE.out])
    rw [HNA.out, HE.out]
    have f0 := fld0 t.kind (Em.str t.text) t.num t.pos
    clear h hv htd h1
    go_enter Tryd.func30, Tryd.ntmps30
    go_wp2_with fail
    refine (qpeek_any pb tb d _ _ HH.out.1).mono ?_
    rintro e w1 ⟨rfl, hb1⟩
    rw [HT.out]
    simp only [Em6.tokV]
    have h1 := HH.out.below hb1
    have v1 := HV.out.below hb1
    go_wp2_with fail
    refine (qfail_any pb tb d s _ 2 h1 (by omega) (by omega)).mono ?_
    rintro e w2 ⟨rfl, h2, b2⟩
    have v2 := v1.bes b2 hpg
    have bs2 : BesB g pb w w2 := (BesB.of (Bes.of hb1) (by omega)).trans (BesB.of b2 (by have := hb1.size; omega))
    clear h1 v1 b2 hb1
    go_wp2_with fail
    (try simp only [Exit.inBlock, Exit.then])
    first
      | (refine bodyPost_end (results_none rfl _ _ _) rfl ?_; exact ⟨rfl, h2, v2, bs2⟩)
      | (refine bodyPost_ret (results_none rfl _ _ _) rfl ?_; exact ⟨rfl, h2, v2, bs2⟩)
/-- 'a[k]' of an array of five texts by value. -/
theorem run_index5 (w : World) (X : Array Value) (k : Nat) (hk : k < 5) (v : Value) (hv : X[k]? = some v) : (Instr.index 71 (.agg X) (.int .i64 (k : Int))).run Tryd.prog w = .ok v w := by
  obtain ⟨i0, hi, -, -, -⟩ := info_parts infoStr
  have hc : Tryd.prog.cellsOf 9 = 1 := by kernel_rfl
  have hb : 0 ≤ (k : Int) ∧ (k : Int) < ((5 : Nat) : Int) := by omega
  have hp := run_part_plain (P := Tryd.prog) (w := w) (e := 9) (by kernel_rfl) hv
  simp only [Instr.index, asIntOf, run_underlying Tryd.underlying71, Sem.run_bind, Sem.run_pure, Result.andThen_ok, run_sizeOf w hi, hc]
  rw [if_pos hb]
  simpa [run_sizeOf w hi, hc] using hp
set_option maxRecDepth 100000 in
set_option maxHeartbeats 4000000 in
theorem qform_any (pb tb d : Nat) (s : St) (w : World) (h : IsPs w pb tb d s) : Calls Tryd.prog 29 #[PP pb] w fun e w' => e = .returned (.string (Em.str (formS s).1)) ∧ IsPs w' pb tb d (formS s).2 ∧ Bes pb w w' := by
  have hx0 : ∀ wq, (Instr.index 71 (.agg #[.string ⟨#[108, 101, 116]⟩, .string ⟨#[102, 117, 110]⟩, .string ⟨#[105, 102]⟩, .string ⟨#[109, 97, 116, 99, 104]⟩, .string ⟨#[116, 114, 121]⟩]) (.int .i64 0)).run Tryd.prog wq = .ok (.string ⟨#[108, 101, 116]⟩) wq := fun wq => run_index5 wq _ 0 (by omega) _ rfl
  have hx1 : ∀ wq, (Instr.index 71 (.agg #[.string ⟨#[108, 101, 116]⟩, .string ⟨#[102, 117, 110]⟩, .string ⟨#[105, 102]⟩, .string ⟨#[109, 97, 116, 99, 104]⟩, .string ⟨#[116, 114, 121]⟩]) (.int .i64 1)).run Tryd.prog wq = .ok (.string ⟨#[102, 117, 110]⟩) wq := fun wq => run_index5 wq _ 1 (by omega) _ rfl
  have hx2 : ∀ wq, (Instr.index 71 (.agg #[.string ⟨#[108, 101, 116]⟩, .string ⟨#[102, 117, 110]⟩, .string ⟨#[105, 102]⟩, .string ⟨#[109, 97, 116, 99, 104]⟩, .string ⟨#[116, 114, 121]⟩]) (.int .i64 2)).run Tryd.prog wq = .ok (.string ⟨#[105, 102]⟩) wq := fun wq => run_index5 wq _ 2 (by omega) _ rfl
  have hx3 : ∀ wq, (Instr.index 71 (.agg #[.string ⟨#[108, 101, 116]⟩, .string ⟨#[102, 117, 110]⟩, .string ⟨#[105, 102]⟩, .string ⟨#[109, 97, 116, 99, 104]⟩, .string ⟨#[116, 114, 121]⟩]) (.int .i64 3)).run Tryd.prog wq = .ok (.string ⟨#[109, 97, 116, 99, 104]⟩) wq := fun wq => run_index5 wq _ 3 (by omega) _ rfl
  have hx4 : ∀ wq, (Instr.index 71 (.agg #[.string ⟨#[108, 101, 116]⟩, .string ⟨#[102, 117, 110]⟩, .string ⟨#[105, 102]⟩, .string ⟨#[109, 97, 116, 99, 104]⟩, .string ⟨#[116, 114, 121]⟩]) (.int .i64 4)).run Tryd.prog wq = .ok (.string ⟨#[116, 114, 121]⟩) wq := fun wq => run_index5 wq _ 4 (by omega) _ rfl
  have h0 := h
  have bs0 := Bes.refl pb w
  clear h
  by_cases hy : isWS [108, 101, 116] s = true
  · have HY : Hid (isWS [108, 101, 116] s = true) := hy
    clear hy
    go_enter Tryd.func29, Tryd.ntmps29
    go_wp2_with fail
    refine wp_loop_rounds 6 ?_
    rw [rounds_succ]
    go_wp2_with fail
    refine (qskip_any pb tb d s [108, 101, 116] _ h0 (by decide) (by decide)).mono ?_
    rintro e w1 ⟨rfl, h1, b1⟩
    rw [HY.out]
    have bs1 := bs0.trans b1
    clear h0 bs0 b1
    go_wp2_with fail
    refine (qskip_any pb tb d _ [114, 101, 99] _ h1 (by decide) (by decide)).mono ?_
    rintro e w2 ⟨rfl, h2, b2⟩
    have bs2 := bs1.trans b2
    clear bs1 b2
    obtain ⟨c, hc⟩ : ∃ c, c = isWS [114, 101, 99] (eatS [108, 101, 116] s) := ⟨_, rfl⟩
    rw [← hc]
    cases c with
    | true =>
      have HR : Hid (formS s = ([114, 101, 99], eatS [114, 101, 99] (eatS [108, 101, 116] s))) := by rw [Hid, formS, if_pos HY.out, if_pos hc.symm]
      clear hc
      go_wp2_with fail
      go_ret
      rw [HR.out]
      exact ⟨rfl, h2, bs2⟩
    | false =>
      have HR : Hid (formS s = ([108, 101, 116], eatS [108, 101, 116] s)) := by rw [Hid, formS, if_pos HY.out, if_neg (by rw [← hc]; decide)]
      rw [eatS_f hc.symm] at h2
      clear hc
      go_wp2_with fail
      go_ret
      rw [HR.out]
      exact ⟨rfl, h2, bs2⟩
  have HN0 : Hid (isWS [108, 101, 116] s = false) := by rw [Hid]; simpa using hy
  clear hy
  by_cases hy : isWS [102, 117, 110] s = true
  · have HY : Hid (isWS [102, 117, 110] s = true) := hy
    clear hy
    have HR : Hid (formS s = ([102, 117, 110], eatS [102, 117, 110] s)) := by rw [Hid, formS, if_neg (by rw [HN0.out]; decide), if_pos HY.out]
    rw [HR.out]
    go_enter Tryd.func29, Tryd.ntmps29
    go_wp2_with fail
    refine wp_loop_rounds 6 ?_
    rw [rounds_succ]
    go_wp2_with fail
    refine (qskip_any pb tb d s [108, 101, 116] _ h0 (by decide) (by decide)).mono ?_
    rintro e w1 ⟨rfl, h1, b1⟩
    rw [HN0.out]
    rw [eatS_f HN0.out] at h1
    have bs1 := bs0.trans b1
    clear h0 bs0 b1
    go_wp2_with fail
    rw [rounds_succ]
    go_wp2_with fail
    refine (qskip_any pb tb d s [102, 117, 110] _ h1 (by decide) (by decide)).mono ?_
    rintro e w2 ⟨rfl, h2, b2⟩
    rw [HY.out]
    have bs2 := bs1.trans b2
    clear h1 bs1 b2
    go_wp2_with fail
    go_ret
    exact ⟨rfl, h2, bs2⟩
  have HN1 : Hid (isWS [102, 117, 110] s = false) := by rw [Hid]; simpa using hy
  clear hy
  by_cases hy : isWS [105, 102] s = true
  · have HY : Hid (isWS [105, 102] s = true) := hy
    clear hy
    have HR : Hid (formS s = ([105, 102], eatS [105, 102] s)) := by rw [Hid, formS, if_neg (by rw [HN0.out]; decide), if_neg (by rw [HN1.out]; decide), if_pos HY.out]
    rw [HR.out]
    go_enter Tryd.func29, Tryd.ntmps29
    go_wp2_with fail
    refine wp_loop_rounds 6 ?_
    rw [rounds_succ]
    go_wp2_with fail
    refine (qskip_any pb tb d s [108, 101, 116] _ h0 (by decide) (by decide)).mono ?_
    rintro e w1 ⟨rfl, h1, b1⟩
    rw [HN0.out]
    rw [eatS_f HN0.out] at h1
    have bs1 := bs0.trans b1
    clear h0 bs0 b1
    go_wp2_with fail
    rw [rounds_succ]
    go_wp2_with fail
    refine (qskip_any pb tb d s [102, 117, 110] _ h1 (by decide) (by decide)).mono ?_
    rintro e w2 ⟨rfl, h2, b2⟩
    rw [HN1.out]
    rw [eatS_f HN1.out] at h2
    have bs2 := bs1.trans b2
    clear h1 bs1 b2
    go_wp2_with fail
    rw [rounds_succ]
    go_wp2_with fail
    refine (qskip_any pb tb d s [105, 102] _ h2 (by decide) (by decide)).mono ?_
    rintro e w3 ⟨rfl, h3, b3⟩
    rw [HY.out]
    have bs3 := bs2.trans b3
    clear h2 bs2 b3
    go_wp2_with fail
    go_ret
    exact ⟨rfl, h3, bs3⟩
  have HN2 : Hid (isWS [105, 102] s = false) := by rw [Hid]; simpa using hy
  clear hy
  by_cases hy : isWS [109, 97, 116, 99, 104] s = true
  · have HY : Hid (isWS [109, 97, 116, 99, 104] s = true) := hy
    clear hy
    have HR : Hid (formS s = ([109, 97, 116, 99, 104], eatS [109, 97, 116, 99, 104] s)) := by rw [Hid, formS, if_neg (by rw [HN0.out]; decide), if_neg (by rw [HN1.out]; decide), if_neg (by rw [HN2.out]; decide), if_pos HY.out]
    rw [HR.out]
    go_enter Tryd.func29, Tryd.ntmps29
    go_wp2_with fail
    refine wp_loop_rounds 6 ?_
    rw [rounds_succ]
    go_wp2_with fail
    refine (qskip_any pb tb d s [108, 101, 116] _ h0 (by decide) (by decide)).mono ?_
    rintro e w1 ⟨rfl, h1, b1⟩
    rw [HN0.out]
    rw [eatS_f HN0.out] at h1
    have bs1 := bs0.trans b1
    clear h0 bs0 b1
    go_wp2_with fail
    rw [rounds_succ]
    go_wp2_with fail
    refine (qskip_any pb tb d s [102, 117, 110] _ h1 (by decide) (by decide)).mono ?_
    rintro e w2 ⟨rfl, h2, b2⟩
    rw [HN1.out]
    rw [eatS_f HN1.out] at h2
    have bs2 := bs1.trans b2
    clear h1 bs1 b2
    go_wp2_with fail
    rw [rounds_succ]
    go_wp2_with fail
    refine (qskip_any pb tb d s [105, 102] _ h2 (by decide) (by decide)).mono ?_
    rintro e w3 ⟨rfl, h3, b3⟩
    rw [HN2.out]
    rw [eatS_f HN2.out] at h3
    have bs3 := bs2.trans b3
    clear h2 bs2 b3
    go_wp2_with fail
    rw [rounds_succ]
    go_wp2_with fail
    refine (qskip_any pb tb d s [109, 97, 116, 99, 104] _ h3 (by decide) (by decide)).mono ?_
    rintro e w4 ⟨rfl, h4, b4⟩
    rw [HY.out]
    have bs4 := bs3.trans b4
    clear h3 bs3 b4
    go_wp2_with fail
    go_ret
    exact ⟨rfl, h4, bs4⟩
  have HN3 : Hid (isWS [109, 97, 116, 99, 104] s = false) := by rw [Hid]; simpa using hy
  clear hy
  by_cases hy : isWS [116, 114, 121] s = true
  · have HY : Hid (isWS [116, 114, 121] s = true) := hy
    clear hy
    have HR : Hid (formS s = ([116, 114, 121], eatS [116, 114, 121] s)) := by rw [Hid, formS, if_neg (by rw [HN0.out]; decide), if_neg (by rw [HN1.out]; decide), if_neg (by rw [HN2.out]; decide), if_neg (by rw [HN3.out]; decide), if_pos HY.out]
    rw [HR.out]
    go_enter Tryd.func29, Tryd.ntmps29
    go_wp2_with fail
    refine wp_loop_rounds 6 ?_
    rw [rounds_succ]
    go_wp2_with fail
    refine (qskip_any pb tb d s [108, 101, 116] _ h0 (by decide) (by decide)).mono ?_
    rintro e w1 ⟨rfl, h1, b1⟩
    rw [HN0.out]
    rw [eatS_f HN0.out] at h1
    have bs1 := bs0.trans b1
    clear h0 bs0 b1
    go_wp2_with fail
    rw [rounds_succ]
    go_wp2_with fail
    refine (qskip_any pb tb d s [102, 117, 110] _ h1 (by decide) (by decide)).mono ?_
    rintro e w2 ⟨rfl, h2, b2⟩
    rw [HN1.out]
    rw [eatS_f HN1.out] at h2
    have bs2 := bs1.trans b2
    clear h1 bs1 b2
    go_wp2_with fail
    rw [rounds_succ]
    go_wp2_with fail
    refine (qskip_any pb tb d s [105, 102] _ h2 (by decide) (by decide)).mono ?_
    rintro e w3 ⟨rfl, h3, b3⟩
    rw [HN2.out]
    rw [eatS_f HN2.out] at h3
    have bs3 := bs2.trans b3
    clear h2 bs2 b3
    go_wp2_with fail
    rw [rounds_succ]
    go_wp2_with fail
    refine (qskip_any pb tb d s [109, 97, 116, 99, 104] _ h3 (by decide) (by decide)).mono ?_
    rintro e w4 ⟨rfl, h4, b4⟩
    rw [HN3.out]
    rw [eatS_f HN3.out] at h4
    have bs4 := bs3.trans b4
    clear h3 bs3 b4
    go_wp2_with fail
    rw [rounds_succ]
    go_wp2_with fail
    refine (qskip_any pb tb d s [116, 114, 121] _ h4 (by decide) (by decide)).mono ?_
    rintro e w5 ⟨rfl, h5, b5⟩
    rw [HY.out]
    have bs5 := bs4.trans b5
    clear h4 bs4 b5
    go_wp2_with fail
    go_ret
    exact ⟨rfl, h5, bs5⟩
  have HN4 : Hid (isWS [116, 114, 121] s = false) := by rw [Hid]; simpa using hy
  clear hy
  have HR : Hid (formS s = ([], s)) := by rw [Hid, formS, if_neg (by rw [HN0.out]; decide), if_neg (by rw [HN1.out]; decide), if_neg (by rw [HN2.out]; decide), if_neg (by rw [HN3.out]; decide), if_neg (by rw [HN4.out]; decide)]
  rw [HR.out]
  go_enter Tryd.func29, Tryd.ntmps29
  go_wp2_with fail
  refine wp_loop_rounds 6 ?_
  rw [rounds_succ]
  go_wp2_with fail
  refine (qskip_any pb tb d s [108, 101, 116] _ h0 (by decide) (by decide)).mono ?_
  rintro e w1 ⟨rfl, h1, b1⟩
  rw [HN0.out]
  rw [eatS_f HN0.out] at h1
  have bs1 := bs0.trans b1
  clear h0 bs0 b1
  go_wp2_with fail
  rw [rounds_succ]
  go_wp2_with fail
  refine (qskip_any pb tb d s [102, 117, 110] _ h1 (by decide) (by decide)).mono ?_
  rintro e w2 ⟨rfl, h2, b2⟩
  rw [HN1.out]
  rw [eatS_f HN1.out] at h2
  have bs2 := bs1.trans b2
  clear h1 bs1 b2
  go_wp2_with fail
  rw [rounds_succ]
  go_wp2_with fail
  refine (qskip_any pb tb d s [105, 102] _ h2 (by decide) (by decide)).mono ?_
  rintro e w3 ⟨rfl, h3, b3⟩
  rw [HN2.out]
  rw [eatS_f HN2.out] at h3
  have bs3 := bs2.trans b3
  clear h2 bs2 b3
  go_wp2_with fail
  rw [rounds_succ]
  go_wp2_with fail
  refine (qskip_any pb tb d s [109, 97, 116, 99, 104] _ h3 (by decide) (by decide)).mono ?_
  rintro e w4 ⟨rfl, h4, b4⟩
  rw [HN3.out]
  rw [eatS_f HN3.out] at h4
  have bs4 := bs3.trans b4
  clear h3 bs3 b4
  go_wp2_with fail
  rw [rounds_succ]
  go_wp2_with fail
  refine (qskip_any pb tb d s [116, 114, 121] _ h4 (by decide) (by decide)).mono ?_
  rintro e w5 ⟨rfl, h5, b5⟩
  rw [HN4.out]
  rw [eatS_f HN4.out] at h5
  have bs5 := bs4.trans b5
  clear h4 bs4 b5
  go_wp2_with fail
  rw [rounds_succ]
  go_wp2_with fail
  go_ret
  exact ⟨rfl, h5, bs5⟩
end Go.Proofs.YtgojjknbingfpaaDoor

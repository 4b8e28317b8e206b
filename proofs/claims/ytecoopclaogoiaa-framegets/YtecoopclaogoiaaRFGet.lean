/- What the document's own frame Get answers. -/
import Derived.Test.YtecoopclaogoiaaRGet
import Derived.Test.YtecoopclaogoiaaRFPut
namespace Go.Proofs.Ytecoopclaogoiaa
open Go.RowKit

theorem results_tmp4 {fn : Func} {t u v x : Tmp} (h : fn.results = #[.tmp t, .tmp u, .tmp v, .tmp x]) (tmps : Array Value) (P : Program) (w : World) :
    (results fn tmps).run P w = .ok (.tuple #[tmps.getD t undef, tmps.getD u undef, tmps.getD v undef, tmps.getD x undef]) w := by
  simp [results, h]

/-- What a frame's Get hands back. -/
def FGot (w : World) (e : Ending) (r : Option (Int × List Int × Nat)) : Prop :=
  match r with
  | none => e = .returned (.tuple #[.int .u8 0, .slice none 0 0, .int .i64 0, .bool false])
  | some (k, B, n) => ∃ v, e = .returned (.tuple #[.int .u8 k, v, .int .i64 n, .bool true]) ∧ Em.IsBytes w v B

set_option maxHeartbeats 400000 in
theorem rfget_empty (a : Option Addr) (cap : Nat) (w : World) :
    Calls Try.prog 12 #[.slice a 0 cap] w fun e w' => FGot w' e none ∧ Below w.heap.size w w' := by
  go_enter Try.func12, Try.ntmps12
  go_wp2
  (try simp only [Exit.inBlock, Exit.then]); refine bodyPost_ret (results_tmp4 rfl _ _ _) rfl ?_
  exact ⟨rfl, Below.refl _ _⟩

set_option maxRecDepth 100000 in
set_option maxHeartbeats 2000000 in
theorem rfget_some (b off cap : Nat) (k : Int) (r : List Int) (w : World) (hu : Em.IsBytes w (.slice (some ⟨b, off, none⟩) (r.length + 1) cap) (k :: r)) :
    Calls Try.prog 12 #[.slice (some ⟨b, off, none⟩) (r.length + 1) cap] w fun e w' => FGot w' e (Em3.fget (k :: r)) ∧ Below w.heap.size w w' := by
  have hbd := hu.bd
  have hk := hbd k (by simp)
  have hr : ∀ x ∈ r, 0 ≤ x ∧ x ≤ 255 := fun x hx => hbd x (by simp [hx])
  have hlen := hu.len
  simp only [List.length_cons] at hlen
  have hcap : r.length + 1 ≤ cap := by
    obtain ⟨a, c, e, h1, -⟩ := hu
    injection e with e1 e2 e3
    subst e3
    simpa using h1
  have hcap2 : cap ≤ 9223372036854775807 := by
    obtain ⟨a, c, e, -, h1, -⟩ := hu
    injection e with e1 e2 e3
    subst e3
    exact h1
  have hcell : w.cell? ⟨b, off, none⟩ = some (.int .u8 k) := by
    obtain ⟨b', off', c', e, -, -, hc⟩ := hu.plain (by simp)
    injection e with e1 e2 e3
    simp only [Option.some.injEq, Addr.mk.injEq, and_true] at e1
    obtain ⟨rfl, rfl⟩ := e1
    simpa using hc 0 (by simp)
  by_cases hc1 : cap = 1
  · have hr0 : r = [] := List.length_eq_zero_iff.1 (by omega)
    subst hr0
    subst hc1
    have hf : Em3.fget [k] = none := rfl
    rw [hf]
    have HE : Hid (Em.IsBytes w (.slice (some ⟨b, off, none⟩) 0 0) []) := ⟨_, _, rfl, by simp, by simp, (fun h => by cases h), by simp, by simp⟩
    clear hf hu hr hbd
    go_enter Try.func12, Try.ntmps12
    go_wp2_with fail
    refine (rget_any _ _ _ HE.out).mono ?_
    rintro e w1 ⟨rfl, hb1⟩
    simp only [show Em1.get [] = none from rfl, getRes]
    go_wp2_with fail
    (try simp only [Exit.inBlock, Exit.then]); refine bodyPost_ret (results_tmp4 rfl _ _ _) rfl ?_
    exact ⟨rfl, hb1⟩
  have HT : Em.IsBytes w (.slice (some ⟨b, off + 1, none⟩) r.length (cap - 1)) r := by
    have ht := hu.sliced 1 (r.length + 1) (by omega) (by omega)
    simpa [sliced, hc1, Addr.add] using ht
  have HI : Hid (Em.IsBytes w (.slice (some ⟨b, off + 1, none⟩) r.length (cap - 1)) r) := HT
  have HU : Hid (Em.IsBytes w (.slice (some ⟨b, off, none⟩) (r.length + 1) cap) (k :: r)) := hu
  cases hg : Em1.get r with
  | none =>
    have hf : Em3.fget (k :: r) = none := by simp [Em3.fget, hg]
    rw [hf]
    have HG : Hid (Em1.get r = none) := hg
    clear hf hu hr hbd HT hg
    go_enter Try.func12, Try.ntmps12
    go_wp2_with fail
    refine (rget_any _ _ _ HI.out).mono ?_
    rintro e w1 ⟨rfl, hb1⟩
    simp only [HG.out, getRes]
    go_wp2_with fail
    (try simp only [Exit.inBlock, Exit.then]); refine bodyPost_ret (results_tmp4 rfl _ _ _) rfl ?_
    exact ⟨rfl, hb1⟩
  | some p =>
    obtain ⟨v, n⟩ := p
    obtain ⟨g1, g2, g3, g4⟩ := Em3.get_sound hr hg
    have gl := Em3.get_len hr hg
    have hpl := Em1.put_len v
    rw [← gl] at hpl
    have HG : Hid (Em1.get r = some (v, n)) := hg
    by_cases hv : 4000 < v
    · have hf : Em3.fget (k :: r) = none := by simp [Em3.fget, hg, hv]
      rw [hf]
      clear hf hu hr hbd HT hg g3 gl
      go_enter Try.func12, Try.ntmps12
      go_wp2_with fail
      refine (rget_any _ _ _ HI.out).mono ?_
      rintro e w1 ⟨rfl, hb1⟩
      simp only [HG.out, getRes]
      go_wp2_with fail
      (try simp only [Exit.inBlock, Exit.then]); refine bodyPost_ret (results_tmp4 rfl _ _ _) rfl ?_
      exact ⟨rfl, hb1⟩
    by_cases hs : r.length + 1 < n + v + 5
    · have hf : Em3.fget (k :: r) = none := by simp [Em3.fget, hg, hs]
      rw [hf]
      clear hf hu hr hbd HT hg g3 gl
      go_enter Try.func12, Try.ntmps12
      go_wp2_with fail
      refine (rget_any _ _ _ HI.out).mono ?_
      rintro e w1 ⟨rfl, hb1⟩
      simp only [HG.out, getRes]
      go_wp2_with fail
      (try simp only [Exit.inBlock, Exit.then]); refine bodyPost_ret (results_tmp4 rfl _ _ _) rfl ?_
      exact ⟨rfl, hb1⟩
    obtain ⟨B, hB⟩ : ∃ B, B = (r.drop n).take v := ⟨_, rfl⟩
    have hBl : B.length = v := by rw [hB]; simp; omega
    have hBb : ∀ x ∈ B, 0 ≤ x ∧ x ≤ 255 := by rw [hB]; exact fun x hx => hr x (List.mem_of_mem_drop (List.mem_of_mem_take hx))
    have hfl := Em3.frm_len k B
    rw [hBl, ← gl] at hfl
    have hfb := Em3.frm_bytes hk.1 hk.2 hBb (by omega)
    have HF : Hid (Em3.fget (k :: r) = if Em3.frm k B = (k :: r).take (Em3.frm k B).length then some (k, B, (Em3.frm k B).length) else none) := by
      simp only [Hid, Em3.fget, hg]
      rw [if_neg (by omega), ← hB]
    have hne : ¬ cap = 1 + n := by omega
    have hne0 : ¬ cap = 0 := by omega
    have HB : Hid (Em.IsBytes w (.slice (some ⟨b, off + (1 + n), none⟩) v (cap - (1 + n))) B) := by
      have ht := hu.sliced (1 + n) (1 + n + v) (by omega) (by omega)
      have e1 : ((k :: r).drop (1 + n)).take (1 + n + v - (1 + n)) = B := by rw [hB, Nat.add_comm 1 n, List.drop_succ_cons]; congr 1; omega
      rw [e1] at ht
      have e2 : 1 + n + v - (1 + n) = v := by omega
      have e3 : ¬ 1 + n = 0 := by omega
      rw [Hid]
      simpa [sliced, hne, Addr.add, e2, e3] using ht
    clear hu hr hbd HT hg g3 hB gl
    go_enter Try.func12, Try.ntmps12
    go_wp2_with fail
    refine (rget_any _ _ _ HI.out).mono ?_
    rintro e w1 ⟨rfl, hb1⟩
    simp only [HG.out, getRes]
    have hcell1 : w1.cell? ⟨b, off, none⟩ = some (.int .u8 k) := by rw [hb1.cell (Em.cell_lt hcell)]; exact hcell
    clear hcell
    go_wp2_with fail
    refine (rfput_any k _ B _ hk.1 hk.2 (HB.out.below hb1) (by omega)).mono ?_
    rintro e w2 ⟨u2, rfl, hown, hb2⟩
    obtain ⟨g, gc, rfl, hg1, hg2⟩ := Em.own_shape hown (by omega)
    have bel2 : Below w.heap.size w w2 := hb1.trans (hb2.mono hb1.size)
    have hcell2 : w2.cell? ⟨b, off, none⟩ = some (.int .u8 k) := by rw [hb2.cell (Em.cell_lt hcell1)]; exact hcell1
    have hI2 := Em.IsBytes.own hfb hown
    obtain ⟨F, hF⟩ : ∃ F, F = Em3.frm k B := ⟨_, rfl⟩
    rw [← hF] at hfl hI2 ⊢
    have HFF : Hid (F = Em3.frm k B) := hF
    have hfc : (F.length : Int) ≤ cap := by omega
    have hd1 := Em.run_str (P := Try.prog) 22 9 5 Try.underlying22 Try.underlying5 Try.underlying9 (hI2.below (Below.refl _ _).drew)
    have hd2 : (convert 22 9 (.slice (some ⟨b, off, none⟩) F.length cap)).run Try.prog w2.drew = .ok (.string (Em.str ((k :: r).take F.length))) w2.drew :=
      Em.run_str (P := Try.prog) 22 9 5 Try.underlying22 Try.underlying5 Try.underlying9 ((HU.out.take F.length (by omega)).below bel2.drew)
    have HR : Hid (Em.IsBytes w2.drew (.slice (some ⟨b, off + (1 + n), none⟩) v (cap - (1 + n))) B) := HB.out.below bel2.drew
    have e9 : 1 + n + v - (1 + n) = v := by omega
    have hbk : ∀ x ∈ (k :: r).take F.length, 0 ≤ x ∧ x ≤ 255 := fun x hx => HU.out.bd x (List.mem_of_mem_take hx)
    have hf1 : F.length ≤ r.length + 1 := by omega
    clear hF hown hb2 hb1 hcell1 hI2 hfl
    by_cases hq : F = (k :: r).take F.length
    · have HV : Hid (Em3.fget (k :: r) = some (k, B, F.length)) := by rw [HFF.out] at hq ⊢; rw [Hid, HF.out, if_pos hq]
      have hne : ((Em.str F).toList == (Em.str ((k :: r).take F.length)).toList) = true := by rw [← hq]; simp
      have hne' : ((Em.str F).toList != (Em.str ((k :: r).take F.length)).toList) = false := by rw [bne, hne]; rfl
      clear hq hbk
      go_wp2_with fail
      go_region
      all_goals
        go_wp2
        (try simp only [Exit.inBlock, Exit.then]); refine bodyPost_ret (results_tmp4 rfl _ _ _) rfl ?_
        refine ⟨?_, bel2.drew⟩
        rw [HV.out]
        refine ⟨_, rfl, ?_⟩
        first | exact HR.out | (simp only [e9]; exact HR.out)
    · have HV : Hid (Em3.fget (k :: r) = none) := by rw [HFF.out] at hq; rw [Hid, HF.out, if_neg hq]
      have hne : ((Em.str F).toList == (Em.str ((k :: r).take F.length)).toList) = false := str_ne hq (by rw [HFF.out]; exact hfb) hbk
      have hne' : ((Em.str F).toList != (Em.str ((k :: r).take F.length)).toList) = true := by rw [bne, hne]; rfl
      clear hq hbk
      go_wp2_with fail
      go_region
      all_goals
        go_wp2
        (try simp only [Exit.inBlock, Exit.then]); refine bodyPost_ret (results_tmp4 rfl _ _ _) rfl ?_
        refine ⟨?_, bel2.drew⟩
        rw [HV.out]
        rfl

/-- The document's own frame Get, of any bytes. -/
theorem rfget_any (u : Value) (L : List Int) (w : World) (h : Em.IsBytes w u L) :
    Calls Try.prog 12 #[u] w fun e w' => FGot w' e (Em3.fget L) ∧ Below w.heap.size w w' := by
  cases L with
  | nil =>
    obtain ⟨a, cap, rfl, -, -⟩ := h.empty rfl
    exact rfget_empty a cap w
  | cons k r =>
    obtain ⟨b, off, cap, rfl, h1, h2, hc⟩ := h.plain (by simp)
    exact rfget_some b off cap k r w h
end Go.Proofs.Ytecoopclaogoiaa

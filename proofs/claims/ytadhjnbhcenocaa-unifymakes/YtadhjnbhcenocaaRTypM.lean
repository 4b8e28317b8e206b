/- What the document's own 'Norm' makes. -/
import Derived.Test.YtadhjnbhcenocaaRTypP
import Derived.Test.YtadhjnbhcenocaaRTypV
namespace Go.Proofs.Ytadhjnbhcenocaa
open Go.RowKit Go.Em8
set_option linter.unusedSimpArgs false

theorem isTyP_var (P : Nat → Prop) (w : World) (n : Int) (hn : Em5.I64 n) : IsTyP P w (.mk tVar n []) (.agg #[.string (Em.str tVar), .int .i64 n, .slice none 0 0]) := by
  unfold IsTyP
  exact ⟨none, 0, rfl, ⟨by decide, by decide⟩, hn, by simp, by simp, by simp⟩
/-- The first so many vars. -/
def varsL (k : Nat) : List Ty := (List.range k).map fun i : Nat => Ty.mk tVar (i : Int) []
theorem varsL_len (k : Nat) : (varsL k).length = k := by simp [varsL]
theorem varsL_succ (k : Nat) : varsL (k + 1) = varsL k ++ [Ty.mk tVar (k : Int) []] := by simp [varsL, List.range_succ]

set_option maxRecDepth 100000 in
set_option maxHeartbeats 2000000 in
theorem rtNorm_thin (T : Ty) (v : Value) (w : World) (hv : IsTy w T v) (hs : thin T = true) (hsl : (tvars T []).length ≤ 1000000) :
    Calls Try.prog 18 #[v] w fun e w' => ∃ u, e = .returned u ∧ IsTyP (fun b => b < w.heap.size ∨ w.heap.size + 2 ≤ b) w' (tnorm T) u ∧ Below w.heap.size w w' := by
  have HV : Hid (IsTy w T v) := hv
  have HNR : Hid (tnorm T = tput (tvars T []) (varsL (tvars T []).length) T) := rfl
  have HVL : Hid ((tvars T []).length ≤ 1000000) := hsl
  have HV2 : Hid ((tvars T []).length ≤ 1000000) := hsl
  have HTS : Hid (thin T = true) := hs
  obtain ⟨op, n, a, k, cap, rfl⟩ := isTyP_form (isTy_isP _ _ hv)
  obtain ⟨W, hW⟩ : ∃ W, W = (w.alloc (.cells #[.string op, .int .i64 n, .slice a k cap] 25)).alloc (.cells #[.string ⟨#[]⟩, .int .i64 0, .slice none 0 0] 25) := ⟨_, rfl⟩
  have hWb : Below w.heap.size w W := by rw [hW]; exact ((Below.refl _ _).alloc (Nat.le_refl _) _).alloc (by simp) _
  have hWz : W.heap.size = w.heap.size + 2 := by rw [hW]; simp
  have k0 : W.cell? ⟨w.heap.size, 0, none⟩ = some (.string op) := by rw [hW]; simp
  have k1 : W.cell? ⟨w.heap.size, 1, none⟩ = some (.int .i64 n) := by rw [hW]; simp
  have k2 : W.cell? ⟨w.heap.size, 2, none⟩ = some (.slice a k cap) := by rw [hW]; simp
  have q0 : W.cell? ⟨w.heap.size + 1, 0, none⟩ = some (.string ⟨#[]⟩) := by rw [hW]; simp
  have q1 : W.cell? ⟨w.heap.size + 1, 1, none⟩ = some (.int .i64 0) := by rw [hW]; simp
  have q2 : W.cell? ⟨w.heap.size + 1, 2, none⟩ = some (.slice none 0 0) := by rw [hW]; simp
  have fq : ∀ o, W.frozen? ⟨w.heap.size + 1, o, none⟩ = false := by intro o; rw [hW]; simp [go_sem]
  have HK : Hid (∀ w', Below W.heap.size W w' → w'.cell? ⟨w.heap.size, 0, none⟩ = some (.string op) ∧ w'.cell? ⟨w.heap.size, 1, none⟩ = some (.int .i64 n) ∧ w'.cell? ⟨w.heap.size, 2, none⟩ = some (.slice a k cap) ∧ w'.cell? ⟨w.heap.size + 1, 0, none⟩ = some (.string ⟨#[]⟩) ∧ w'.cell? ⟨w.heap.size + 1, 1, none⟩ = some (.int .i64 0) ∧ w'.cell? ⟨w.heap.size + 1, 2, none⟩ = some (.slice none 0 0) ∧ (∀ o, w'.frozen? ⟨w.heap.size + 1, o, none⟩ = false)) := fun w' hb => by
    have e1 : ∀ o, w'.cell? ⟨w.heap.size, o, none⟩ = W.cell? ⟨w.heap.size, o, none⟩ := fun o => hb.cell (p := ⟨w.heap.size, o, none⟩) (by simp; omega)
    have e2 : ∀ o, w'.cell? ⟨w.heap.size + 1, o, none⟩ = W.cell? ⟨w.heap.size + 1, o, none⟩ := fun o => hb.cell (p := ⟨w.heap.size + 1, o, none⟩) (by simp; omega)
    exact ⟨by rw [e1]; exact k0, by rw [e1]; exact k1, by rw [e1]; exact k2, by rw [e2]; exact q0, by rw [e2]; exact q1, by rw [e2]; exact q2, fun o => by rw [hb.frozen (p := ⟨w.heap.size + 1, o, none⟩) (by simp; omega)]; exact fq o⟩
  have HWB : Hid (Below w.heap.size w W) := hWb
  clear hv hs hsl
  go_enter Try.func18, Try.ntmps18
  go_upto_region 1 with fail
  rw [← hW]
  clear hW q0 q1 q2 fq hWb
  go_wp2_with fail
  refine (rtVars_len T _ _ (isTy_below HWB.out _ _ HV.out) HV2.out).mono ?_
  rintro e w1 ⟨u1, rfl, hu1, hm1, hb1⟩
  obtain ⟨ua, uc, rfl⟩ := hu1.form
  have HU : Hid (OwnInts w1 W.heap.size (.slice ua (tvars T []).length uc) (tvars T []) ∧ (∀ x ∈ tvars T [], Em5.I64 x)) := ⟨hu1, hm1⟩
  have HB1 : Hid (Below W.heap.size W w1) := hb1
  clear hu1 hm1 hb1 k0 k1 k2
  obtain ⟨L, hL⟩ : ∃ L, L = tvars T [] := ⟨_, rfl⟩
  rw [← hL] at HU HNR HVL
  rw [← hL]
  clear hL
  go_wp2_with fail
  go_loopw [4, 5] (fun bv i wr => ∃ j : Nat, j ≤ L.length ∧ i = .int .i64 j ∧ OwnTys (fun _ => False) 25 wr w1.heap.size bv (varsL j) ∧ Below w1.heap.size w1 wr) (fun _ i _ => L.length - (intOf i).toNat)
  case atStart => exact ⟨0, Nat.zero_le _, rfl, Em8.OwnTys.nil _ _ _ _, Below.refl _ _⟩
  case round =>
    obtain ⟨j, hj, rfl, ho, hbr⟩ := hrel
    have hjm : j ≤ 1000000 := by have := HVL.out; omega
    obtain ⟨ba, bc, hbv, -, -⟩ := ownTys_form ho
    rw [varsL_len] at hbv
    subst hbv
    have HO : Hid (OwnTys (fun _ => False) 25 wr w1.heap.size (.slice ba j bc) (varsL j)) := ho
    have HBR : Hid (Below w1.heap.size w1 wr) := hbr
    clear ho hbr
    by_cases hlt : j < L.length
    · go_wp2_with fail
      refine (rtVar_any _ _).mono ?_
      rintro e w2 ⟨rfl, hb2⟩
      have HB2 : Hid (Below w1.heap.size w1 w2) := HBR.out.trans (hb2.mono HBR.out.size)
      have HO2 : Hid (OwnTys (fun _ => False) 25 w2 w1.heap.size (.slice ba j bc) (varsL j)) := ownTys_below HO.out hb2
      clear hb2
      go_wp2_with (at_builtin; refine wpList_app_ty (P := fun _ => False) (w := w2) (by rfl) _ _ (by rfl) w1.heap.size (.slice ba j bc) (varsL j) (by rfl) HO2.out (Ty.mk tVar (j : Int) []) _ _ _ (isTyP_var _ _ _ (by unfold Em5.I64; omega)) _ (by first | rfl | simp) (by rfl) (by rw [varsL_len]; exact hjm) HB2.out.size ?_; intro v3 w3 o3 hb3; have HB3 : Hid (Below w1.heap.size w1 w3) := HB2.out.trans hb3; clear hb3)
      go_roundw
      case rel => exact ⟨j + 1, by omega, by go_num, by rw [varsL_succ]; exact o3, HB3.out⟩
      case measure => simp [intOf]; omega
    · obtain rfl : j = L.length := by omega
      have hbW : Below W.heap.size W wr := HB1.out.trans (HBR.out.mono HB1.out.size)
      obtain ⟨k0, k1, k2, q0, q1, q2, fq⟩ := HK.out wr hbW
      have HBX : Hid (Below w.heap.size w wr) := HWB.out.trans (hbW.mono HWB.out.size)
      have hzr : w.heap.size + 2 ≤ wr.heap.size := by have := hbW.size; omega
      have HI : Hid (IsInts wr (.slice ua L.length uc) L) := (OwnInts.is (HU.out.1.below HBR.out) HU.out.2)
      have HT : Hid (IsTysP (fun b => b < w.heap.size) wr (.slice ba L.length bc) (varsL L.length)) := (ownTys_isP HO.out).wide (fun b hb _ => hb.elim)
      have HTP : Hid (IsTyP (fun b => b < w.heap.size) wr T (.agg #[.string op, .int .i64 n, .slice a k cap])) := isTyP_keep HBX.out.size (fun b hp hl => ⟨HBX.out.block b hl, hp⟩) _ _ (isTy_isP _ _ HV.out)
      clear hbW
      go_wp2_with fail
      refine (rtPut_any (fun b => b < w.heap.size) L (varsL L.length) _ _ wr HI.out HT.out (by rw [varsL_len]; exact Nat.le_refl _) (fun b hb => by omega) T _ wr HTP.out (Below.refl _ _) HTS.out).mono ?_
      rintro e w3 ⟨u3, rfl, hu3, hb3⟩
      obtain ⟨z0, z1, za, zk, zc, rfl⟩ := isTyP_form hu3
      have HU3 : Hid (IsTyP (fun b => b < w.heap.size ∨ wr.heap.size ≤ b) w3 (tput L (varsL L.length) T) (.agg #[.string z0, .int .i64 z1, .slice za zk zc])) := hu3
      have hc : ∀ o, w3.cell? ⟨w.heap.size + 1, o, none⟩ = wr.cell? ⟨w.heap.size + 1, o, none⟩ := fun o => hb3.cell (p := ⟨w.heap.size + 1, o, none⟩) (by simp; omega)
      have hf : ∀ o, w3.frozen? ⟨w.heap.size + 1, o, none⟩ = false := fun o => by rw [hb3.frozen (p := ⟨w.heap.size + 1, o, none⟩) (by simp; omega)]; exact fq o
      rw [← hc] at q0 q1 q2
      have HB3 : Hid (Below w.heap.size w w3) := HBX.out.trans (hb3.mono HBX.out.size)
      clear hu3 hb3 hc fq k0 k1 k2
      go_wp2
      refine bodyPost_ret (v := .agg #[.string z0, .int .i64 z1, .slice za zk zc]) (by simp [results, Try.results18, go_sem, q0, q1, q2]) rfl ⟨_, rfl, ?_, ?_⟩
      · rw [HNR.out]
        refine isTyP_keep (by simp) (fun x hp hl => ?_) _ _ HU3.out
        have hne : ¬ x = w.heap.size + 1 := by omega
        exact ⟨by rw [Below.heap_setCell _ _ _ _ (by simp; exact hne), Below.heap_setCell _ _ _ _ (by simp; exact hne), Below.heap_setCell _ _ _ _ (by simp; exact hne)], by omega⟩
      · exact below_set3 (g := w.heap.size + 1) HB3.out (by omega) _ _ _
theorem rtNorm_any (T : Ty) (v : Value) (w : World) (hv : IsTy w T v) (hs : T.size ≤ 1000000) :
    Calls Try.prog 18 #[v] w fun e w' => ∃ u, e = .returned u ∧ IsTyP (fun b => b < w.heap.size ∨ w.heap.size + 2 ≤ b) w' (tnorm T) u ∧ Below w.heap.size w w' :=
  rtNorm_thin T v w hv (thin_of_size T hs) (by have := tvars_len T []; simp at this; omega)
end Go.Proofs.Ytadhjnbhcenocaa

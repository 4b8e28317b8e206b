/- What the program's own numbered (package scheme) makes where nothing is told of vars: a type anew. -/
import Derived.Test.YtbiihiibebdjgaaTyApp
import Derived.Test.YtbiihiibebdjgaaTyV
import Derived.Test.YtbiihiibebdjgaaTypO
import Derived.Test.YtbiihiibebdjgaaRTypP
import Derived.WalkKit
import Derived.WalkSpells
import Derived.WalkLawsBesides
import Derived.Maps.OwnSet
namespace Go.Proofs.Ytbiihiibebdjgaa
open Go.RowKit Go.Em8
set_option linter.unusedSimpArgs false
set_option linter.unusedVariables false

set_option maxRecDepth 100000 in
set_option maxHeartbeats 4000000 in
theorem snum_any (T : Ty) : ∀ (v : Value) (w0 w : World), IsTy w0 T v → Below w0.heap.size w0 w → T.size ≤ 1000000 →
    Calls Try.prog 22 #[v, .map none] w fun e w' => ∃ u, e = .returned u ∧ IsTyP (fun b => w.heap.size ≤ b) w' T u ∧ Below w.heap.size w w' := by
  induction T using Ty.ind with
  | h op n ks ih =>
    intro v w0 w hv hbw hs
    have HI : Hid (∀ t ∈ ks, ∀ (v : Value) (w0 w : World), IsTy w0 t v → Below w0.heap.size w0 w → t.size ≤ 1000000 →
      Calls Try.prog 22 #[v, .map none] w fun e w' => ∃ u, e = .returned u ∧ IsTyP (fun b => w.heap.size ≤ b) w' t u ∧ Below w.heap.size w w') := ih
    unfold IsTy at hv
    obtain ⟨a, cap, rfl, t1, i1, hc1, hc2, hk⟩ := hv
    have HK : Hid (0 < ks.length → ∃ b off, a = some ⟨b, off, none⟩ ∧ b < w0.heap.size ∧ TysAt w0 b off ks) := hk
    have hlk : ∀ W : World, Sem.run Try.prog (Instr.lookup 64 (.map none) (.int .i64 n) true) W = .ok (.tuple #[.int .i64 0, .bool false]) W := fun W => Maps.look_nil true (Maps.int_keyed Try.underlying3) Try.underlying64 (Try.zeroValue3 _) (key_int i1)
    obtain ⟨W, hW⟩ : ∃ W, W = (w.alloc (.cells #[.string (Em.str op), .int .i64 n, .slice a ks.length cap] 25)).alloc (.cells #[.string ⟨#[]⟩, .int .i64 0, .slice none 0 0] 25) := ⟨_, rfl⟩
    have hWb : Below w.heap.size w W := by rw [hW]; exact ((Below.refl _ _).alloc (Nat.le_refl _) _).alloc (by simp) _
    have hWz : W.heap.size = w.heap.size + 2 := by rw [hW]; simp
    have k0 : W.cell? ⟨w.heap.size, 0, none⟩ = some (.string (Em.str op)) := by rw [hW]; simp
    have k1 : W.cell? ⟨w.heap.size, 1, none⟩ = some (.int .i64 n) := by rw [hW]; simp
    have k2 : W.cell? ⟨w.heap.size, 2, none⟩ = some (.slice a ks.length cap) := by rw [hW]; simp
    have fk : ∀ o, W.frozen? ⟨w.heap.size, o, none⟩ = false := by intro o; rw [hW]; simp [go_sem]
    have q0 : W.cell? ⟨w.heap.size + 1, 0, none⟩ = some (.string ⟨#[]⟩) := by rw [hW]; simp
    have q1 : W.cell? ⟨w.heap.size + 1, 1, none⟩ = some (.int .i64 0) := by rw [hW]; simp
    have q2 : W.cell? ⟨w.heap.size + 1, 2, none⟩ = some (.slice none 0 0) := by rw [hW]; simp
    have fq : ∀ o, W.frozen? ⟨w.heap.size + 1, o, none⟩ = false := by intro o; rw [hW]; simp [go_sem]
    have HC : Hid (∀ w', Below W.heap.size W w' → (w'.cell? ⟨w.heap.size, 0, none⟩ = some (.string (Em.str op)) ∧ w'.cell? ⟨w.heap.size, 1, none⟩ = some (.int .i64 n) ∧ w'.cell? ⟨w.heap.size, 2, none⟩ = some (.slice a ks.length cap) ∧ (∀ o, w'.frozen? ⟨w.heap.size, o, none⟩ = false)) ∧ (w'.cell? ⟨w.heap.size + 1, 0, none⟩ = some (.string ⟨#[]⟩) ∧ w'.cell? ⟨w.heap.size + 1, 1, none⟩ = some (.int .i64 0) ∧ w'.cell? ⟨w.heap.size + 1, 2, none⟩ = some (.slice none 0 0) ∧ (∀ o, w'.frozen? ⟨w.heap.size + 1, o, none⟩ = false))) := fun w' hb => by
      have e1 : ∀ o, w'.cell? ⟨w.heap.size, o, none⟩ = W.cell? ⟨w.heap.size, o, none⟩ := fun o => hb.cell (p := ⟨w.heap.size, o, none⟩) (by simp only; omega)
      have e2 : ∀ o, w'.cell? ⟨w.heap.size + 1, o, none⟩ = W.cell? ⟨w.heap.size + 1, o, none⟩ := fun o => hb.cell (p := ⟨w.heap.size + 1, o, none⟩) (by simp only; omega)
      have e3 : ∀ o, w'.frozen? ⟨w.heap.size, o, none⟩ = W.frozen? ⟨w.heap.size, o, none⟩ := fun o => hb.frozen (p := ⟨w.heap.size, o, none⟩) (by simp only; omega)
      have e4 : ∀ o, w'.frozen? ⟨w.heap.size + 1, o, none⟩ = W.frozen? ⟨w.heap.size + 1, o, none⟩ := fun o => hb.frozen (p := ⟨w.heap.size + 1, o, none⟩) (by simp only; omega)
      exact ⟨⟨by rw [e1]; exact k0, by rw [e1]; exact k1, by rw [e1]; exact k2, fun o => by rw [e3]; exact fk o⟩, ⟨by rw [e2]; exact q0, by rw [e2]; exact q1, by rw [e2]; exact q2, fun o => by rw [e4]; exact fq o⟩⟩
    have HWB : Hid (Below w.heap.size w W ∧ W.heap.size = w.heap.size + 2) := ⟨hWb, hWz⟩
    have HBW : Hid (Below w0.heap.size w0 w) := hbw
    have HT1 : Hid (Em5.Txt op ∧ Em5.I64 n) := ⟨t1, i1⟩
    have HSZ : Hid (tsizes ks + 1 ≤ 1000000) := by rw [Ty.size] at hs; exact hs
    have hkl : ks.length ≤ 1000000 := by have := tsize_len (op := op) (n := n) (l := ks); omega
    have HWE : Hid ((w.alloc (.cells #[.string (Em.str op), .int .i64 n, .slice a ks.length cap] 25)).alloc (.cells #[.string ⟨#[]⟩, .int .i64 0, .slice none 0 0] 25) = W) := hW.symm
    clear ih hk hbw hs hW hWb hWz t1 i1 q0 q1 q2 fk fq
    go_enter Try.func22, Try.ntmps22
    go_upto_region 1 with fail
    rw [HWE.out]
    clear HWE
    go_wp2_with fail
    go_loopw [7, 28] (fun kv i wr => ∃ j : Nat, j ≤ ks.length ∧ i = .int .i64 j ∧ Hid (OwnTys (fun b => W.heap.size ≤ b) 25 wr W.heap.size kv (ks.take j) ∧ Below W.heap.size W wr)) (fun _ i _ => ks.length - (intOf i).toNat)
    case atStart => exact ⟨0, Nat.zero_le _, rfl, OwnTys.nil _ _ _ _, Below.refl _ _⟩
    case round =>
      clear k0 k1 k2
      rename_i kv0
      obtain ⟨j, hj, rfl, HR⟩ := hrel
      obtain ⟨ka, kc, hkv, hkc1, hkc2⟩ := ownTys_form HR.out.1
      have hlj : (ks.take j).length = j := by simp; omega
      rw [hlj] at hkv
      subst hkv
      by_cases hlt : j < ks.length
      · obtain ⟨b, off, rfl, hb, hat⟩ := HK.out (by omega)
        obtain ⟨t, ht⟩ : ∃ t, ks[j]? = some t := ⟨_, List.getElem?_eq_getElem hlt⟩
        obtain ⟨a', cap', m0, m1, m2, kn⟩ := ty_get hat ht
        have hwr : Below w.heap.size w wr := HWB.out.1.trans (HR.out.2.mono HWB.out.1.size)
        have hbr : Below w0.heap.size w0 wr := HBW.out.trans (hwr.mono HBW.out.size)
        have key : ∀ o, wr.cell? ⟨b, o, none⟩ = w0.cell? ⟨b, o, none⟩ := fun o => hbr.cell (p := ⟨b, o, none⟩) hb
        rw [← key] at m0 m1 m2
        obtain ⟨W1, hW1⟩ : ∃ W1, W1 = wr.alloc (.cells #[.string (Em.str t.op), .int .i64 t.n, .slice a' t.kids.length cap'] 25) := ⟨_, rfl⟩
        have hb1 : Below wr.heap.size wr W1 := by rw [hW1]; exact (Below.refl _ _).alloc (Nat.le_refl _) _
        have HW1 : Hid (wr.alloc (.cells #[.string (Em.str t.op), .int .i64 t.n, .slice a' t.kids.length cap'] 25) = W1) := hW1.symm
        have H1 : Hid (Below w0.heap.size w0 W1 ∧ OwnTys (fun b => W.heap.size ≤ b) 25 W1 W.heap.size (.slice ka j kc) (ks.take j) ∧ Below W.heap.size W W1) :=
          ⟨hbr.trans (hb1.mono hbr.size), ownTys_below HR.out.1 hb1, HR.out.2.trans (hb1.mono HR.out.2.size)⟩
        have HN : Hid (IsTy w0 t (.agg #[.string (Em.str t.op), .int .i64 t.n, .slice a' t.kids.length cap'])) := kn
        have HTT : Hid (ks[j]? = some t) := ht
        have HS2 : Hid (t.size ≤ 1000000) := by
          have h1 := HSZ.out
          have h3 := tsizes_take ks j t HTT.out
          have h4 := tsizes_take_le ks (j + 1)
          rw [Hid]
          omega
        have c0 : W1.cell? ⟨wr.heap.size, 0, none⟩ = some (.string (Em.str t.op)) := by rw [hW1]; simp
        have c1 : W1.cell? ⟨wr.heap.size, 1, none⟩ = some (.int .i64 t.n) := by rw [hW1]; simp
        have c2 : W1.cell? ⟨wr.heap.size, 2, none⟩ = some (.slice a' t.kids.length cap') := by rw [hW1]; simp
        have HNX : Hid (ks.take (j + 1) = ks.take j ++ [t]) := by
          have hjl' := (List.getElem?_eq_some_iff.1 HTT.out).1
          rw [Hid, List.take_succ_eq_append_getElem hjl', (List.getElem?_eq_some_iff.1 HTT.out).2]
        have hjI : (j : Int) < (ks.length : Int) := by omega
        clear key kn hat ht hbr hwr hW1 hb1
        go_upto_region 8 with fail
        rw [HW1.out]
        clear HW1 m0 m1 m2
        go_wp2_with fail
        refine (HI.out t (List.mem_of_getElem? HTT.out) _ w0 _ HN.out H1.out.1 HS2.out).mono ?_
        rintro e w3 ⟨u3, rfl, hu3, hb3⟩
        obtain ⟨z0, z1, za, zk, zc, rfl⟩ := isTyP_form hu3
        have H3 : Hid (OwnTys (fun b => W.heap.size ≤ b) 25 w3 W.heap.size (.slice ka j kc) (ks.take j) ∧ Below W.heap.size W w3 ∧ IsTyP (fun b => W.heap.size ≤ b ∧ some b ≠ (Value.slice ka j kc).ownBlock) w3 t (.agg #[.string z0, .int .i64 z1, .slice za zk zc])) := by
          obtain ⟨z1, z3, z4⟩ := H1.out
          refine ⟨ownTys_below z3 hb3, z4.trans (hb3.mono z4.size), isTyP_wide hu3 fun b hb _ => ⟨Nat.le_trans z4.size hb, fun e => ?_⟩⟩
          obtain ⟨cs, -, hrow, -⟩ := z3
          have := (World.ownsRow.lt hrow b e.symm).2
          omega
        clear hu3 hb3 c0 c1 c2
        go_wp2_with (at_builtin; refine wpList_app_ty (P := fun b => W.heap.size ≤ b) (w := w3) (by rfl) _ _ (by rfl) W.heap.size (.slice ka j kc) (ks.take j) (by rfl) H3.out.1 t _ _ _ H3.out.2.2 _ (by first | rfl | simp) (by rfl) (by rw [hlj]; omega) H3.out.2.1.size ?_; intro v4 w4 o4 hb4; have HB4 : Hid (Below W.heap.size W w4) := H3.out.2.1.trans hb4; clear hb4)
        go_roundw
        case rel => exact ⟨j + 1, by omega, by go_num, by rw [HNX.out]; exact o4, HB4.out⟩
        case measure => simp [intOf]; omega
      · have hje : j = ks.length := by omega
        subst hje
        have HF : Hid (IsTyP (fun b => W.heap.size ≤ b) wr (.mk op n ks) (.agg #[.string (Em.str op), .int .i64 n, .slice ka ks.length kc]) ∧ Below w.heap.size w wr) := by
          have h1 := HR.out
          rw [List.take_length] at h1
          exact ⟨OwnTys.is h1.1 hkc2 (fun b hb => hb) HT1.out.1 HT1.out.2, HWB.out.1.trans (h1.2.mono HWB.out.1.size)⟩
        obtain ⟨⟨k0, k1, k2, fk⟩, q0, q1, q2, fq⟩ := HC.out wr HR.out.2
        clear hkc1 hkc2 hlj
        go_wp2
        refine bodyPost_ret (v := .agg #[.string (Em.str op), .int .i64 n, .slice ka ks.length kc]) (by simp [results, Try.results22, go_sem, k0, k1, k2, q0, q1, q2]) rfl ⟨_, rfl, ?_, ?_⟩
        · have hz := HWB.out.2
          refine isTyP_keep (by simp) (fun x hp hl => ⟨?_, by omega⟩) _ _ HF.out.1
          have h1 : ¬ x = w.heap.size := by omega
          have h2 : ¬ x = w.heap.size + 1 := by omega
          rw [Below.heap_setCell _ _ _ _ (by simp; exact h2), Below.heap_setCell _ _ _ _ (by simp; exact h2), Below.heap_setCell _ _ _ _ (by simp; exact h2), Below.heap_setCell _ _ _ _ (by simp; exact h1)]
        · exact below_set3 (g := w.heap.size + 1) (HF.out.2.setCell (p := ⟨w.heap.size, 2, none⟩) (Nat.le_refl _) _) (by omega) _ _ _
end Go.Proofs.Ytbiihiibebdjgaa

/- What the program's own order.numbered (any type) and Norm make. -/
import Derived.Test.YtcpimmapdhmoiaaDoorTypM
namespace Go.Proofs.YtcpimmapdhmoiaaDoor
open Go.RowKit Go.Em8
set_option linter.unusedSimpArgs false
set_option linter.unusedVariables false

set_option maxRecDepth 100000 in
set_option maxHeartbeats 4000000 in
theorem ynum_any (L : List Int) (hL : L.length ≤ 1000000) (T : Ty) : ∀ (v : Value) (w0 w : World) (B ob mb : Nat) (vv : Value), IsTy w0 T v → Below w0.heap.size w0 w → Ord w B ob mb vv L → teach T = true → (∀ x, tocc x T → x ∈ L) → T.size ≤ 1000000 →
    Calls Tryd.prog 31 #[.pointer (some ⟨ob, 0, none⟩), v] w fun e w' => ∃ u, e = .returned u ∧ IsTyP (fun b => w.heap.size ≤ b) w' (tren (fun x => (L.idxOf x : Int)) T) u ∧ Below w.heap.size w w' := by
  induction T using Ty.ind with
  | h op n ks ih =>
    intro v w0 w B ob mb vv hv hbw hO he hm hs
    by_cases hop : op = tVar
    · subst hop
      obtain rfl := var_nil he
      rw [tren_var _ rfl]
      exact ynum_var L n v w0 w B ob mb vv hv hbw hO (hm n ((tocc_eq _ _ _ _).2 (.inl ⟨rfl, rfl⟩))) hL
    have HI : Hid (∀ t ∈ ks, ∀ (v : Value) (w0 w : World) (B ob mb : Nat) (vv : Value), IsTy w0 t v → Below w0.heap.size w0 w → Ord w B ob mb vv L → teach t = true → (∀ x, tocc x t → x ∈ L) → t.size ≤ 1000000 →
      Calls Tryd.prog 31 #[.pointer (some ⟨ob, 0, none⟩), v] w fun e w' => ∃ u, e = .returned u ∧ IsTyP (fun b => w.heap.size ≤ b) w' (tren (fun x => (L.idxOf x : Int)) t) u ∧ Below w.heap.size w w') := ih
    have HKT : Hid (∀ t ∈ ks, teach t = true ∧ ∀ x, tocc x t → x ∈ L) := fun t ht => ⟨teach_kids he t ht, fun x hx => hm x ((tocc_eq _ _ _ _).2 (.inr ⟨t, ht, hx⟩))⟩
    obtain ⟨f, hf⟩ : ∃ f : Int → Int, f = fun x => (L.idxOf x : Int) := ⟨_, rfl⟩
    rw [← hf] at HI ⊢
    clear hf
    have HP : Hid (tren f (.mk op n ks) = .mk op n (ks.map (tren f))) := tren_else f hop
    unfold IsTy at hv
    obtain ⟨a, cap, rfl, t1, i1, hc1, hc2, hk⟩ := hv
    have HK : Hid (0 < ks.length → ∃ b off, a = some ⟨b, off, none⟩ ∧ b < w0.heap.size ∧ TysAt w0 b off ks) := hk
    have hq : ((Em.str op).toList == [118, 97, 114]) = false := by rw [Em5.str_eq t1.1]; exact decide_eq_false hop
    obtain ⟨W, hW⟩ : ∃ W, W = (w.alloc (.cells #[.string (Em.str op), .int .i64 n, .slice a ks.length cap] 24)).alloc (.cells #[.string ⟨#[]⟩, .int .i64 0, .slice none 0 0] 24) := ⟨_, rfl⟩
    have hWb : Below w.heap.size w W := by rw [hW]; exact ((Below.refl _ _).alloc (Nat.le_refl _) _).alloc (by simp) _
    have hWz : W.heap.size = w.heap.size + 2 := by rw [hW]; simp
    have k0 : W.cell? ⟨w.heap.size, 0, none⟩ = some (.string (Em.str op)) := by rw [hW]; simp
    have k1 : W.cell? ⟨w.heap.size, 1, none⟩ = some (.int .i64 n) := by rw [hW]; simp
    have k2 : W.cell? ⟨w.heap.size, 2, none⟩ = some (.slice a ks.length cap) := by rw [hW]; simp
    have fk : ∀ o, W.frozen? ⟨w.heap.size, o, none⟩ = false := by intro o; rw [hW]; simp [go_sem]
    have q0 : W.cell? ⟨w.heap.size + 1, 0, none⟩ = some (.string ⟨#[]⟩) := by rw [hW]; simp
    have q1 : W.cell? ⟨w.heap.size + 1, 1, none⟩ = some (.int .i64 0) := by rw [hW]; simp
    have q2 : W.cell? ⟨w.heap.size + 1, 2, none⟩ = some (.slice none 0 0) := by rw [hW]; simp
    have fq : ∀ o, W.frozen? ⟨w.heap.size + 1, o, none⟩ = false := by intro o; rw [hW]; simp [go_sem]
    have HC : Hid (∀ w', Below W.heap.size W w' → (w'.cell? ⟨w.heap.size, 0, none⟩ = some (.string (Em.str op)) ∧ w'.cell? ⟨w.heap.size, 1, none⟩ = some (.int .i64 n) ∧ w'.cell? ⟨w.heap.size, 2, none⟩ = some (.slice a ks.length cap) ∧ (∀ o, w'.frozen? ⟨w.heap.size, o, none⟩ = false)) ∧ (w'.cell? ⟨w.heap.size + 1, 0, none⟩ = some (.string ⟨#[]⟩) ∧ w'.cell? ⟨w.heap.size + 1, 1, none⟩ = some (.int .i64 0) ∧ w'.cell? ⟨w.heap.size + 1, 2, none⟩ = some (.slice none 0 0) ∧ (∀ o, w'.frozen? ⟨w.heap.size + 1, o, none⟩ = false))) := fun w' hb => by
      have e1 : ∀ o, w'.cell? ⟨w.heap.size, o, none⟩ = W.cell? ⟨w.heap.size, o, none⟩ := fun o => hb.cell (p := ⟨w.heap.size, o, none⟩) (by simp only; omega)
      have e2 : ∀ o, w'.cell? ⟨w.heap.size + 1, o, none⟩ = W.cell? ⟨w.heap.size + 1, o, none⟩ := fun o => hb.cell (p := ⟨w.heap.size + 1, o, none⟩) (by simp only; omega)
      have e3 : ∀ o, w'.frozen? ⟨w.heap.size, o, none⟩ = W.frozen? ⟨w.heap.size, o, none⟩ := fun o => hb.frozen (p := ⟨w.heap.size, o, none⟩) (by simp only; omega)
      have e4 : ∀ o, w'.frozen? ⟨w.heap.size + 1, o, none⟩ = W.frozen? ⟨w.heap.size + 1, o, none⟩ := fun o => hb.frozen (p := ⟨w.heap.size + 1, o, none⟩) (by simp only; omega)
      exact ⟨⟨by rw [e1]; exact k0, by rw [e1]; exact k1, by rw [e1]; exact k2, fun o => by rw [e3]; exact fk o⟩, ⟨by rw [e2]; exact q0, by rw [e2]; exact q1, by rw [e2]; exact q2, fun o => by rw [e4]; exact fq o⟩⟩
    have HWB : Hid (Below w.heap.size w W ∧ W.heap.size = w.heap.size + 2) := ⟨hWb, hWz⟩
    have HBW : Hid (Below w0.heap.size w0 w) := hbw
    have HO : Hid (Ord w B ob mb vv L) := hO
    have HT1 : Hid (Em5.Txt op ∧ Em5.I64 n) := ⟨t1, i1⟩
    have HSZ : Hid (tsizes ks + 1 ≤ 1000000) := by rw [Ty.size] at hs; exact hs
    have hkl : ks.length ≤ 1000000 := by have := tsize_len (op := op) (n := n) (l := ks); omega
    have HWE : Hid ((w.alloc (.cells #[.string (Em.str op), .int .i64 n, .slice a ks.length cap] 24)).alloc (.cells #[.string ⟨#[]⟩, .int .i64 0, .slice none 0 0] 24) = W) := hW.symm
    clear ih hk hop hbw hO he hm hs hW hWb hWz t1 i1 q0 q1 q2 fk fq
    go_enter Tryd.func31, Tryd.ntmps31
    go_upto_region 1 with fail
    rw [HWE.out]
    clear HWE
    go_wp2_with fail
    go_loopw [5, 22] (fun kv i wr => ∃ j : Nat, j ≤ ks.length ∧ i = .int .i64 j ∧ Hid (OwnTys (fun b => W.heap.size ≤ b) 24 wr W.heap.size kv ((ks.take j).map (tren f)) ∧ Below W.heap.size W wr)) (fun _ i _ => ks.length - (intOf i).toNat)
    case atStart => exact ⟨0, Nat.zero_le _, rfl, OwnTys.nil _ _ _ _, Below.refl _ _⟩
    case round =>
      clear k0 k1 k2
      rename_i kv0
      obtain ⟨j, hj, rfl, HR⟩ := hrel
      obtain ⟨ka, kc, hkv, hkc1, hkc2⟩ := ownTys_form HR.out.1
      have hlj : ((ks.take j).map (tren f)).length = j := by simp; omega
      rw [hlj] at hkv
      subst hkv
      by_cases hlt : j < ks.length
      · obtain ⟨b, off, rfl, hb, hat⟩ := HK.out (by omega)
        obtain ⟨t, ht⟩ : ∃ t, ks[j]? = some t := ⟨_, List.getElem?_eq_getElem hlt⟩
        obtain ⟨a', cap', m0, m1, m2, kn⟩ := ty_get hat ht
        have hwr : Below w.heap.size w wr := HWB.out.1.trans (HR.out.2.mono HWB.out.1.size)
        have hbr : Below w0.heap.size w0 wr := HBW.out.trans (hwr.mono HBW.out.size)
        have key : ∀ o, wr.cell? ⟨b, o, none⟩ = w0.cell? ⟨b, o, none⟩ := fun o => hbr.cell (p := ⟨b, o, none⟩) hb
        rw [← key] at m0 m1 m2
        obtain ⟨W1, hW1⟩ : ∃ W1, W1 = wr.alloc (.cells #[.string (Em.str t.op), .int .i64 t.n, .slice a' t.kids.length cap'] 24) := ⟨_, rfl⟩
        have hb1 : Below wr.heap.size wr W1 := by rw [hW1]; exact (Below.refl _ _).alloc (Nat.le_refl _) _
        have HW1 : Hid (wr.alloc (.cells #[.string (Em.str t.op), .int .i64 t.n, .slice a' t.kids.length cap'] 24) = W1) := hW1.symm
        have H1 : Hid (Below w0.heap.size w0 W1 ∧ Ord W1 B ob mb vv L ∧ OwnTys (fun b => W.heap.size ≤ b) 24 W1 W.heap.size (.slice ka j kc) ((ks.take j).map (tren f)) ∧ Below W.heap.size W W1) :=
          ⟨hbr.trans (hb1.mono hbr.size), HO.out.below (hwr.trans (hb1.mono hwr.size)), ownTys_below HR.out.1 hb1, HR.out.2.trans (hb1.mono HR.out.2.size)⟩
        have HN : Hid (IsTy w0 t (.agg #[.string (Em.str t.op), .int .i64 t.n, .slice a' t.kids.length cap'])) := kn
        have HTT : Hid (ks[j]? = some t) := ht
        have HS2 : Hid (t.size ≤ 1000000) := by
          have h1 := HSZ.out
          have h3 := tsizes_take ks j t HTT.out
          have h4 := tsizes_take_le ks (j + 1)
          rw [Hid]
          omega
        have c0 : W1.cell? ⟨wr.heap.size, 0, none⟩ = some (.string (Em.str t.op)) := by rw [hW1]; simp
        have c1 : W1.cell? ⟨wr.heap.size, 1, none⟩ = some (.int .i64 t.n) := by rw [hW1]; simp
        have c2 : W1.cell? ⟨wr.heap.size, 2, none⟩ = some (.slice a' t.kids.length cap') := by rw [hW1]; simp
        have HNX : Hid ((ks.take (j + 1)).map (tren f) = (ks.take j).map (tren f) ++ [tren f t]) := by
          have hjl' := (List.getElem?_eq_some_iff.1 HTT.out).1
          rw [Hid, List.take_succ_eq_append_getElem hjl', List.map_append, (List.getElem?_eq_some_iff.1 HTT.out).2]; rfl
        have hjI : (j : Int) < (ks.length : Int) := by omega
        clear key kn hat ht hbr hwr hW1 hb1
        go_upto_region 7 with fail
        rw [HW1.out]
        clear HW1 m0 m1 m2
        go_wp2_with fail
        refine (HI.out t (List.mem_of_getElem? HTT.out) _ w0 _ B ob mb vv HN.out H1.out.1 H1.out.2.1 (HKT.out t (List.mem_of_getElem? HTT.out)).1 (HKT.out t (List.mem_of_getElem? HTT.out)).2 HS2.out).mono ?_
        rintro e w3 ⟨u3, rfl, hu3, hb3⟩
        obtain ⟨z0, z1, za, zk, zc, rfl⟩ := isTyP_form hu3
        have H3 : Hid (OwnTys (fun b => W.heap.size ≤ b) 24 w3 W.heap.size (.slice ka j kc) ((ks.take j).map (tren f)) ∧ Below W.heap.size W w3 ∧ IsTyP (fun b => W.heap.size ≤ b ∧ some b ≠ (Value.slice ka j kc).ownBlock) w3 (tren f t) (.agg #[.string z0, .int .i64 z1, .slice za zk zc])) := by
          obtain ⟨z1, z2, z3, z4⟩ := H1.out
          refine ⟨ownTys_below z3 hb3, z4.trans (hb3.mono z4.size), isTyP_wide hu3 fun b hb _ => ⟨Nat.le_trans z4.size hb, fun e => ?_⟩⟩
          obtain ⟨cs, -, hrow, -⟩ := z3
          have := (World.ownsRow.lt hrow b e.symm).2
          omega
        clear hu3 hb3 c0 c1 c2
        go_wp2_with (at_builtin; refine wpList_app_ty (P := fun b => W.heap.size ≤ b) (w := w3) (by rfl) _ _ (by rfl) W.heap.size (.slice ka j kc) ((ks.take j).map (tren f)) (by rfl) H3.out.1 (tren f t) _ _ _ H3.out.2.2 _ (by first | rfl | simp) (by rfl) (by rw [hlj]; omega) H3.out.2.1.size ?_; intro v4 w4 o4 hb4; have HB4 : Hid (Below W.heap.size W w4) := H3.out.2.1.trans hb4; clear hb4)
        go_roundw
        case rel => exact ⟨j + 1, by omega, by go_num, by rw [HNX.out]; exact o4, HB4.out⟩
        case measure => simp [intOf]; omega
      · have hje : j = ks.length := by omega
        subst hje
        have HF : Hid (IsTyP (fun b => W.heap.size ≤ b) wr (.mk op n (ks.map (tren f))) (.agg #[.string (Em.str op), .int .i64 n, .slice ka ks.length kc]) ∧ Below w.heap.size w wr) := by
          have h1 := HR.out
          rw [List.take_length] at h1
          exact ⟨OwnTys.is h1.1 hkc2 (fun b hb => hb) HT1.out.1 HT1.out.2, HWB.out.1.trans (h1.2.mono HWB.out.1.size)⟩
        obtain ⟨⟨k0, k1, k2, fk⟩, q0, q1, q2, fq⟩ := HC.out wr HR.out.2
        clear hkc1 hkc2 hlj
        go_wp2
        refine bodyPost_ret (v := .agg #[.string (Em.str op), .int .i64 n, .slice ka ks.length kc]) (by simp [results, Tryd.results31, go_sem, k0, k1, k2, q0, q1, q2]) rfl ⟨_, rfl, ?_, ?_⟩
        · rw [HP.out]
          have hz := HWB.out.2
          refine isTyP_keep (by simp) (fun x hp hl => ⟨?_, by omega⟩) _ _ HF.out.1
          have h1 : ¬ x = w.heap.size := by omega
          have h2 : ¬ x = w.heap.size + 1 := by omega
          rw [Below.heap_setCell _ _ _ _ (by simp; exact h2), Below.heap_setCell _ _ _ _ (by simp; exact h2), Below.heap_setCell _ _ _ _ (by simp; exact h2), Below.heap_setCell _ _ _ _ (by simp; exact h1)]
        · exact below_set3 (g := w.heap.size + 1) (HF.out.2.setCell (p := ⟨w.heap.size, 2, none⟩) (Nat.le_refl _) _) (by omega) _ _ _

set_option maxRecDepth 100000 in
set_option maxHeartbeats 2000000 in
theorem yNorm_any (T : Ty) (v : Value) (w : World) (hv : IsTy w T v) (he : teach T = true) (hs : T.size ≤ 1000000) :
    Calls Tryd.prog 16 #[v] w fun e w' => ∃ u, e = .returned u ∧ IsTyP (fun b => w.heap.size + 2 ≤ b) w' (tnorm T) u ∧ Below w.heap.size w w' := by
  have HV : Hid (IsTy w T v) := hv
  have HSI : Hid (([] : List Int).length + T.size ≤ 1000000) := by rw [Hid]; simpa using hs
  have HSL : Hid ((tvars T []).length ≤ 1000000) := by have := tvars_len T []; simp at this; rw [Hid]; omega
  have HTE : Hid (teach T = true ∧ ∀ x, tocc x T → x ∈ tvars T []) := ⟨he, fun x hx => (tvars_iff T [] x).2 (.inr hx)⟩
  have HNR : Hid (tren (fun x => ((tvars T []).idxOf x : Int)) T = tnorm T) := (tnorm_ren he).symm
  have HTS : Hid (T.size ≤ 1000000) := hs
  obtain ⟨op, n, a, k, cap, rfl⟩ := isTyP_form (isTy_isP _ _ hv)
  obtain ⟨W0, hW0⟩ : ∃ W0, W0 = (w.alloc (.cells #[.string op, .int .i64 n, .slice a k cap] 24)).alloc (.cells #[.string ⟨#[]⟩, .int .i64 0, .slice none 0 0] 24) := ⟨_, rfl⟩
  have hz0 : w.heap.size + 2 = W0.heap.size := by rw [hW0]; simp
  obtain ⟨W, hW⟩ : ∃ W, W = (W0.alloc (.map #[] 0)).alloc (.cells #[.slice none 0 0, .map (some (w.heap.size + 2))] 39) := ⟨_, rfl⟩
  have ho := ord_start W0 hz0
  rw [← hW] at ho
  have hb0 : Below w.heap.size w W0 := by rw [hW0]; exact ((Below.refl _ _).alloc (Nat.le_refl _) _).alloc (by simp) _
  have hbW : Below W0.heap.size W0 W := by rw [hW]; exact ((Below.refl _ _).alloc (Nat.le_refl _) _).alloc (by simp) _
  have k0 : W0.cell? ⟨w.heap.size, 0, none⟩ = some (.string op) := by rw [hW0]; simp
  have k1 : W0.cell? ⟨w.heap.size, 1, none⟩ = some (.int .i64 n) := by rw [hW0]; simp
  have k2 : W0.cell? ⟨w.heap.size, 2, none⟩ = some (.slice a k cap) := by rw [hW0]; simp
  have q0 : W0.cell? ⟨w.heap.size + 1, 0, none⟩ = some (.string ⟨#[]⟩) := by rw [hW0]; simp
  have q1 : W0.cell? ⟨w.heap.size + 1, 1, none⟩ = some (.int .i64 0) := by rw [hW0]; simp
  have q2 : W0.cell? ⟨w.heap.size + 1, 2, none⟩ = some (.slice none 0 0) := by rw [hW0]; simp
  have fq : ∀ o, W0.frozen? ⟨w.heap.size + 1, o, none⟩ = false := by intro o; rw [hW0]; simp [go_sem]
  have HC : Hid (∀ w', Below W0.heap.size W0 w' → (w'.cell? ⟨w.heap.size, 0, none⟩ = some (.string op) ∧ w'.cell? ⟨w.heap.size, 1, none⟩ = some (.int .i64 n) ∧ w'.cell? ⟨w.heap.size, 2, none⟩ = some (.slice a k cap)) ∧ (w'.cell? ⟨w.heap.size + 1, 0, none⟩ = some (.string ⟨#[]⟩) ∧ w'.cell? ⟨w.heap.size + 1, 1, none⟩ = some (.int .i64 0) ∧ w'.cell? ⟨w.heap.size + 1, 2, none⟩ = some (.slice none 0 0) ∧ (∀ o, w'.frozen? ⟨w.heap.size + 1, o, none⟩ = false))) := fun w' hb => by
    have e1 : ∀ o, w'.cell? ⟨w.heap.size, o, none⟩ = W0.cell? ⟨w.heap.size, o, none⟩ := fun o => hb.cell (p := ⟨w.heap.size, o, none⟩) (by simp only; omega)
    have e2 : ∀ o, w'.cell? ⟨w.heap.size + 1, o, none⟩ = W0.cell? ⟨w.heap.size + 1, o, none⟩ := fun o => hb.cell (p := ⟨w.heap.size + 1, o, none⟩) (by simp only; omega)
    have e4 : ∀ o, w'.frozen? ⟨w.heap.size + 1, o, none⟩ = W0.frozen? ⟨w.heap.size + 1, o, none⟩ := fun o => hb.frozen (p := ⟨w.heap.size + 1, o, none⟩) (by simp only; omega)
    exact ⟨⟨by rw [e1]; exact k0, by rw [e1]; exact k1, by rw [e1]; exact k2⟩, ⟨by rw [e2]; exact q0, by rw [e2]; exact q1, by rw [e2]; exact q2, fun o => by rw [e4]; exact fq o⟩⟩
  have HO : Hid (Ord W (w.heap.size + 2) (w.heap.size + 2 + 1) (w.heap.size + 2) (.slice none 0 0) []) := ho
  have HB : Hid (Below w.heap.size w W ∧ Below W0.heap.size W0 W ∧ w.heap.size + 2 = W0.heap.size) := ⟨hb0.trans (hbW.mono hb0.size), hbW, hz0⟩
  have HBZ : Hid (w.heap.size + 2 ≤ W.heap.size) := by rw [Hid, hz0]; exact hbW.size
  have hm1 : ∀ w, Sem.run Tryd.prog (Instr.makeMap 37 none) w = .ok (.map (some w.heap.size)) (w.alloc (.map #[] 0)) := run_makeMap _
  have HCW := HC.out W hbW
  rw [hW0] at hW
  have HWE : Hid ((((w.alloc (.cells #[.string op, .int .i64 n, .slice a k cap] 24)).alloc (.cells #[.string ⟨#[]⟩, .int .i64 0, .slice none 0 0] 24)).alloc (.map #[] 0)).alloc (.cells #[.slice none 0 0, .map (some (w.heap.size + 2))] 39) = W) := hW.symm
  clear hs ho hb0 hbW hW hW0 hz0 k0 k1 k2 q0 q1 q2 fq hv he
  go_enter Tryd.func16, Tryd.ntmps16
  go_upto_region 2 with fail
  rw [HWE.out]
  clear HWE hm1
  obtain ⟨⟨k0, k1, k2⟩, -⟩ := HCW
  go_wp2_with fail
  refine (ywalk_any T _ w _ (w.heap.size + 2) _ _ _ [] HV.out HB.out.1 (by omega) HBZ.out HO.out HSI.out).mono ?_
  rintro e w1 ⟨rfl, ⟨v1, h1⟩, hb1⟩
  have HO1 : Hid (Ord w1 (w.heap.size + 2) (w.heap.size + 2 + 1) (w.heap.size + 2) v1 (tvars T [])) := h1
  have hb1' : Below W0.heap.size W0 w1 := HB.out.2.1.trans (by rw [← HB.out.2.2]; exact hb1)
  have HB1 : Hid (Below W0.heap.size W0 w1 ∧ Below w.heap.size w w1 ∧ w.heap.size + 2 ≤ w1.heap.size) := ⟨hb1', HB.out.1.trans (hb1.mono (by omega)), Nat.le_trans HBZ.out hb1.size⟩
  clear h1 hb1 k0 k1 k2
  obtain ⟨⟨k0, k1, k2⟩, -⟩ := HC.out w1 hb1'
  clear hb1'
  go_wp2_with fail
  refine (ynum_any (tvars T []) HSL.out T _ w _ _ _ _ v1 HV.out HB1.out.2.1 HO1.out HTE.out.1 HTE.out.2 HTS.out).mono ?_
  rintro e w2 ⟨u2, rfl, hu2, hb2⟩
  rw [HNR.out] at hu2
  obtain ⟨z0, z1, za, zk, zc, rfl⟩ := isTyP_form hu2
  have H2 : Hid (IsTyP (fun b => w.heap.size + 2 ≤ b) w2 (tnorm T) (.agg #[.string z0, .int .i64 z1, .slice za zk zc]) ∧ Below w.heap.size w w2) := ⟨isTyP_wide hu2 (fun b hb _ => Nat.le_trans HB1.out.2.2 hb), HB1.out.2.1.trans (hb2.mono HB1.out.2.1.size)⟩
  obtain ⟨-, q0, q1, q2, fq⟩ := HC.out w2 (HB1.out.1.trans (hb2.mono HB1.out.1.size))
  clear hu2 hb2 k0 k1 k2
  go_wp2
  refine bodyPost_ret (v := .agg #[.string z0, .int .i64 z1, .slice za zk zc]) (by simp [results, Tryd.results16, go_sem, q0, q1, q2]) rfl ⟨_, rfl, ?_, ?_⟩
  · refine isTyP_keep (by simp) (fun x hp hl => ⟨?_, hp⟩) _ _ H2.out.1
    have hne : ¬ x = w.heap.size + 1 := by omega
    rw [Below.heap_setCell _ _ _ _ (by simp; exact hne), Below.heap_setCell _ _ _ _ (by simp; exact hne), Below.heap_setCell _ _ _ _ (by simp; exact hne)]
  · exact below_set3 (g := w.heap.size + 1) H2.out.2 (by omega) _ _ _
end Go.Proofs.YtcpimmapdhmoiaaDoor

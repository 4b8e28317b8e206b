/- What 'keep' of an attempt does: the walk (package unify). -/
import Derived.Test.YtadhjnbhcenocaaUfK
import Derived.Test.YtadhjnbhcenocaaTyApp
namespace Go.Proofs.Ytadhjnbhcenocaa
open Go.RowKit Go.Em8 Go.Em9
set_option linter.unusedSimpArgs false
set_option linter.unusedVariables false

theorem step_app_ptr {w : World} {ops : Array Oper} {o : Oper} {a : Act} {K : Act → World → Prop} {Q : Exit → Act → World → Prop} {E : Prop} (hgd : o.guard = none) (s x : Operand)
    (ho : o.op = .call { callee := .builtin .append, args := #[s, x], argTypes := #[54, 54] })
    (B : Nat) (v : Value) (l : List Nat) (hs : a.eval s = v) (hown : OwnPtrs w B v l) (n : Nat) (g : Nat) (hg : g = w.heap.size)
    (hx : a.eval x = .slice (some ⟨g, 0, none⟩) 1 1) (hsz : l.length ≤ 8796093022208) (hb : B ≤ w.heap.size)
    (h : ∀ v' w', OwnPtrs w' B v' (l ++ [n]) → Grew w w' v v' → K (a.put o.dst v') w') :
    if Region.wanted o (yielded ops a.tmps) = true then Oper.wp Try.prog o a (w.alloc (.cells #[.pointer (some ⟨n, 0, none⟩)] 57)) K Q else E := by
  have hw : Region.wanted o (yielded ops a.tmps) = true := by simp [Region.wanted, hgd]
  rw [if_pos hw]
  obtain ⟨i0, hi, hz0, hz1, hz2⟩ := info_parts infoPtr
  have ho2 : (w.alloc (.cells #[.pointer (some ⟨n, 0, none⟩)] 57)).ownsRow B 57 1 v l.length (Proofs.Ytadhjnbhcenocaa.ptrs l) := World.ownsRow.alloc hown _
  obtain ⟨v', w', hr, h2, h3, -, h5⟩ := run_append_own_at (P := Try.prog) (w.alloc (.cells #[.pointer (some ⟨n, 0, none⟩)] 57)) B 54 o.type 57 i0 _ 1 8 Try.underlying54 hi hz0 hz1 hz2 rfl (by decide) v _ _ ho2 ⟨g, 0, none⟩ 1 1 [.pointer (some ⟨n, 0, none⟩)] rfl (cells_one w _ hg _) (by intro u hu; simp only [List.mem_cons, List.not_mem_nil, or_false] at hu; subst hu; rfl) (by unfold maxLen; omega) (by omega) (by simp; omega)
  unfold Oper.wp execOp
  simp only [ho, resolve, invoke, builtin, Sem.run_bind, Sem.run_pure, Result.andThen_ok, List.map_toArray, List.map_cons, List.map_nil, hs, hx, hr]
  refine h v' w' ?_ ?_
  · unfold OwnPtrs
    simpa using h2
  · have k1 : Grew w (w.alloc (.cells #[.pointer (some ⟨n, 0, none⟩)] 57)) v v := Grew.of_below ((Below.refl _ _).alloc (Nat.le_refl _) _)
    refine k1.trans ⟨h3, ?_⟩
    rcases h5 with e | e
    · exact .inl e
    · exact .inr ⟨_, e, Nat.le_refl _⟩
theorem KpI.start {w w2 X : World} {B sb ab : Nat} {fr N : Int} {jv : Value} {J : List Nat} {s : S9} {op : List Int} {n : Int} (h : S9Ok w B sb ab fr N jv J s) (hb : Below w.heap.size w w2) (hX : X = (w2.alloc (.cells (tmC op n none 0 0 none 1 N 0) 66)).drew) : KpI w X B sb ab fr N jv J s op n w2.heap.size s (.slice none 0 0) [] [] [] := by
  have bX : Below w2.heap.size w2 X := by rw [hX]; exact ((Below.refl _ _).alloc (Nat.le_refl _) _).drew
  have b2 := hb.trans (bX.mono hb.size)
  have hz := hb.size
  refine ⟨h.below b2, Ext.refl _ _ _, Kept.of b2, ⟨none, 0, rfl, by rw [hX]; exact heap_alloc_new w2 _⟩, OwnPtrs.nil _ _, fun k hk => ?_, by simp [Value.ownBlock], rfl, by simp, by simp [tsizes], fun P _ _ c hc hn => absurd hc hn, fun y hy => .inl hy⟩
  rcases hk with rfl | hk
  · refine ⟨hz, by rw [hX]; simp, fun hm => ?_, fun hm => ?_, ?_, fun e => ?_, fun hA => ?_⟩
    · have := h.tms.lt hm; omega
    · have := h.kl _ hm; omega
    · rintro e; have := h.sub.lt.1; omega
    · have := (h.sub.lt.2 _ e.symm).1; omega
    · have := (h.att.lt hA).2; omega
  · simp [Value.ownBlock] at hk
theorem KpI.row {w wr : World} {B sb ab : Nat} {fr N : Int} {jv : Value} {J : List Nat} {s s1 : S9} {op : List Int} {n : Int} {xb : Nat} {kv : Value} {row all : List Nat} {dn : List Ty} (h : KpI w wr B sb ab fr N jv J s op n xb s1 kv row all dn) : wr.cell? ⟨xb, 2, none⟩ = some kv ∧ ∀ o, wr.frozen? ⟨xb, o, none⟩ = false := by
  obtain ⟨ka, kc, e1, e2⟩ := h.x
  refine ⟨?_, fun o => ?_⟩
  · rw [e1]; simp [World.cell?, e2, tmC]
  · simp [World.frozen?, e2]

theorem KpI.app2 {w w3 w4 : World} {B sb ab : Nat} {fr N : Int} {jv : Value} {J : List Nat} {s s1 : S9} {op : List Int} {n : Int} {xb : Nat} {kv kv2 : Value} {row all : List Nat} {dn : List Ty} {b j : Nat} (h : KpI w w3 B sb ab fr N jv J s op n xb s1 kv row all dn) (hj : row.length = j) (ho : OwnPtrs w4 w.heap.size kv2 (row ++ [b])) (hg : Grew w3 w4 kv kv2) :
    ∃ va vc, kv2 = .slice va (j + 1) vc ∧ w4.cell? ⟨xb, 2, none⟩ = some kv ∧ w4.frozen? ⟨xb, 2, none⟩ = false ∧ KpI w (w4.setCell ⟨xb, 2, none⟩ kv2) B sb ab fr N jv J s op n xb s1 kv2 (row ++ [b]) all dn := by
  obtain ⟨va, vc, e⟩ := ho.form
  obtain ⟨r1, r2⟩ := h.row
  refine ⟨va, vc, by rw [e, List.length_append, hj]; rfl, hg.cell (a := ⟨xb, 2, none⟩) r1 h.nx, ?_, h.app ho hg⟩
  rw [World.frozen?_of_block (w := w3) (a := ⟨xb, 2, none⟩) (hg.1.block xb (Em.cell_lt r1) h.nx)]
  exact r2 2
theorem teach_len {op : List Int} {n : Int} {l : List Ty} (h : Em8.teach (.mk op n l) = true) : l.length ≤ 2 := by
  simp only [Em8.teach, Bool.and_eq_true, decide_eq_true_eq] at h
  have h1 := h.1
  unfold tkids at h1
  split at h1
  · omega
  · split at h1
    · omega
    · split at h1 <;> omega
/-- What keep does with a type. -/
def KeepOk (B sb ab : Nat) (fr N : Int) (jv : Value) (J : List Nat) (mv0 : Option Nat) (T : Ty) : Prop :=
  ∀ (w : World) (v : Value) (s : S9), S9Ok w B sb ab fr N jv J s → (s.mv = mv0 ∨ ∃ g, s.mv = some g ∧ B ≤ g) → IsTyP (fun k => k < B ∧ k ≠ sb ∧ some k ≠ mv0) w T v → B ≤ w.heap.size → s.F.L.length + T.size ≤ 100000 →
    Calls Try.prog 27 #[.pointer (some ⟨ab, 0, none⟩), v] w fun e w' => ∃ b s', e = .returned (.pointer (some ⟨b, 0, none⟩)) ∧ KeptAs w w' B sb ab fr N jv J s s' T b
set_option maxRecDepth 100000 in
set_option maxHeartbeats 4000000 in
theorem ukeep_any (B sb ab : Nat) (fr N : Int) (jv : Value) (J : List Nat) (mv0 : Option Nat) (hN : Em5.I64 N) (hsb : sb < B ∨ B ≤ sb) : ∀ T : Ty, Em8.teach T = true → KeepOk B sb ab fr N jv J mv0 T := by
  intro T
  induction T using Ty.ind with
  | h op n l ih =>
    intro ht w v s hS hmv hv hB hL
    have HS : Hid (S9Ok w B sb ab fr N jv J s) := hS
    have HMV : Hid (s.mv = mv0 ∨ ∃ g, s.mv = some g ∧ B ≤ g) := hmv
    have HI : Hid (∀ t ∈ l, KeepOk B sb ab fr N jv J mv0 t) := fun t hm => ih t hm (teach_kids ht t hm)
    have HV : Hid (IsTyP (fun k => k < B ∧ k ≠ sb ∧ some k ≠ mv0) w (.mk op n l) v) := hv
    have HT : Hid (Em8.teach (.mk op n l) = true) := ht
    have HL : Hid (s.F.L.length + (Ty.mk op n l).size ≤ 100000) := hL
    have HN : Hid (Em5.I64 N ∧ B ≤ w.heap.size) := ⟨hN, hB⟩
    unfold IsTyP at hv
    obtain ⟨a, cap, rfl, t1, i1, hc1, hc2, hk⟩ := hv
    have HTX : Hid (Em5.Txt op ∧ Em5.I64 n) := ⟨t1, i1⟩
    have HK : Hid (0 < l.length → ∃ b off, a = some ⟨b, off, none⟩ ∧ b < w.heap.size ∧ (b < B ∧ b ≠ sb ∧ some b ≠ mv0) ∧ TysAtP (fun k => k < B ∧ k ≠ sb ∧ some k ≠ mv0) w b off l) := hk
    obtain ⟨W, hW⟩ : ∃ W, W = w.alloc (.cells #[.string (Em.str op), .int .i64 n, .slice a l.length cap] 25) := ⟨_, rfl⟩
    have bW : Below w.heap.size w W := by rw [hW]; exact (Below.refl _ _).alloc (Nat.le_refl _) _
    have b0 : W.cell? ⟨w.heap.size, 0, none⟩ = some (.string (Em.str op)) := by rw [hW]; simp
    have b1 : W.cell? ⟨w.heap.size, 1, none⟩ = some (.int .i64 n) := by rw [hW]; simp
    have b2 : W.cell? ⟨w.heap.size, 2, none⟩ = some (.slice a l.length cap) := by rw [hW]; simp
    have zW : W.heap.size = w.heap.size + 1 := by rw [hW]; simp
    have HWE : Hid (w.alloc (.cells #[.string (Em.str op), .int .i64 n, .slice a l.length cap] 25) = W) := hW.symm
    have HIV := uisv_any (isTy_below bW _ _ (isTyP_is _ _ HV.out)) ht
    have HBW : Hid (Below w.heap.size w W ∧ W.heap.size = w.heap.size + 1) := ⟨bW, zW⟩
    clear ih hS hmv ht hN hW t1 i1 hk bW zW
    by_cases ho : op = tVar
    · rw [decide_eq_true (show (Ty.mk op n l).op = tVar from ho)] at HIV
      subst ho
      obtain rfl := var_nil HT.out
      have HN0 : Hid (0 ≤ n) := teach_nat HT.out
      simp only [List.length_nil] at b2 HIV HWE
      go_enter Try.func27, Try.ntmps27
      go_upto_region 1 with fail
      rw [HWE.out]
      go_wp2_with (go_at_call 32; refine HIV.mono ?_; rintro e w2 ⟨rfl, hb2⟩; have b12 : w2.cell? ⟨w.heap.size, 1, none⟩ = some (.int .i64 n) := (by rw [hb2.cell (p := ⟨w.heap.size, 1, none⟩) (by have := HBW.out.2; simp only; omega)]; exact b1); have HB2 : Hid (Below w.heap.size w w2) := HBW.out.1.trans (hb2.mono HBW.out.1.size); clear hb2)
      refine (ukv_any (HS.out.below HB2.out) HTX.out.2 HN0.out (Nat.le_trans HN.out.2 HB2.out.size) (by have := HL.out; omega) HN.out.1).mono ?_
      rintro e w3 ⟨b, s3, rfl, HR⟩
      have HR : Hid (KeptAs w2 w3 B sb ab fr N jv J s s3 (tv n) b) := HR
      go_wp2_with fail
      go_ret
      exact ⟨b, s3, rfl, HR.out.from HB2.out⟩
    · rw [decide_eq_false (show ¬ (Ty.mk op n l).op = tVar from ho)] at HIV
      have HO : Hid (op ≠ tVar) := ho
      clear ho
      go_enter Try.func27, Try.ntmps27
      go_upto_region 1 with fail
      rw [HWE.out]
      go_wp2_with (go_at_call 32; refine HIV.mono ?_; rintro e w2 ⟨rfl, hb2⟩; have HB2 : Hid (Below W.heap.size W w2) := hb2; clear hb2)
      have HSW : Hid (Below w.heap.size w w2) := HBW.out.1.trans (HB2.out.mono HBW.out.1.size)
      have key : ∀ o, w2.cell? ⟨w.heap.size, o, none⟩ = W.cell? ⟨w.heap.size, o, none⟩ := fun o => HB2.out.cell (p := ⟨w.heap.size, o, none⟩) (by have := HBW.out.2; simp only; omega)
      rw [← key] at b0 b1 b2
      obtain ⟨-, a1, -, -, -⟩ := (HS.out.below HSW.out).att.get
      obtain ⟨X, hX⟩ : ∃ X, X = (w2.alloc (.cells #[.string (Em.str op), .int .i64 n, .slice none 0 0, .pointer none, .int .i64 1, .int .i64 N, .int .i64 0] 66)).drew := ⟨_, rfl⟩
      have HST : Hid (KpI w X B sb ab fr N jv J s op n w2.heap.size s (.slice none 0 0) [] [] []) := KpI.start HS.out HSW.out hX
      have bX : Below w2.heap.size w2 X := by rw [hX]; exact ((Below.refl _ _).alloc (Nat.le_refl _) _).drew
      have x2 : X.cell? ⟨w.heap.size, 2, none⟩ = some (.slice a l.length cap) := by rw [bX.cell (p := ⟨w.heap.size, 2, none⟩) (Em.cell_lt b2)]; exact b2
      have HXE : Hid ((w2.alloc (.cells #[.string (Em.str op), .int .i64 n, .slice none 0 0, .pointer none, .int .i64 1, .int .i64 N, .int .i64 0] 66)).drew = X) := hX.symm
      clear key hX bX
      go_region
      (try simp only [Exit.inBlock, Exit.then])
      rw [HXE.out]
      clear b0 b1 b2 a1 HIV
      go_wp2_with fail
      go_loopw [27] (fun i wr => ∃ (j : Nat) (s1 : S9) (kv : Value) (ks : List Nat), j ≤ l.length ∧ i = .int .i64 j ∧ Hid (ks.length = j) ∧ Hid (KpI w wr B sb ab fr N jv J s op n w2.heap.size s1 kv ks ks (l.take j))) (fun i _ => l.length - (intOf i).toNat)
      case atStart => exact ⟨0, s, _, [], Nat.zero_le _, rfl, rfl, by rw [List.take_zero]; exact HST⟩
      case round =>
        obtain ⟨j, s1, kv, ks, hj, rfl, HJ, HR⟩ := hrel
        clear HST x2
        obtain ⟨r2, rf⟩ := HR.out.row
        obtain ⟨ka, kc, hkv⟩ := HR.out.own.form
        rw [HJ.out] at hkv
        by_cases hlt : j < l.length
        · obtain ⟨b, off, rfl, hb, hbp, hat⟩ := HK.out (by omega)
          obtain ⟨t, ht⟩ : ∃ t, l[j]? = some t := ⟨_, List.getElem?_eq_getElem hlt⟩
          obtain ⟨y0, y1, y2, m0, m1, m2, kn⟩ := tysAtP_get l off j t hat ht
          obtain ⟨x0, x1, xa, xk, xc, hxe⟩ := isTyP_form kn
          simp only [Value.agg.injEq, Array.mk.injEq, List.cons.injEq, and_true] at hxe
          obtain ⟨rfl, rfl, rfl⟩ := hxe
          have farQ : ∀ k, (k < B ∧ k ≠ sb ∧ some k ≠ mv0) → k < w.heap.size → wr.heap[k]? = w.heap[k]? := by
            intro k hk hl
            refine HR.out.kept.block k hl fun hq => ?_
            rcases hq with e | e | e | e
            · exact hk.2.1 e
            · rcases HMV.out with e2 | ⟨g, e2, hg⟩
              · exact hk.2.2 (by rw [← e2]; exact e)
              · rw [e2] at e; cases e; omega
            · have := (HS.out.att.lt (.inl rfl)).1; omega
            · have := (HS.out.att.lt (.inr (.inl e))).1; omega
          have HKN : Hid (∀ w5, Below wr.heap.size wr w5 → IsTyP (fun k => k < B ∧ k ≠ sb ∧ some k ≠ mv0) w5 t (.agg #[.string x0, .int .i64 x1, .slice xa xk xc])) := fun w5 h5 => by
            refine isTyP_keep (w := w) (Nat.le_trans HR.out.kept.size h5.size) (fun k hk hl => ⟨?_, hk⟩) _ _ kn
            rw [h5.block k (Nat.lt_of_lt_of_le hl HR.out.kept.size)]
            exact farQ k hk hl
          have key : ∀ o, wr.cell? ⟨b, o, none⟩ = w.cell? ⟨b, o, none⟩ := fun o => World.cell?_of_block (a := ⟨b, o, none⟩) (farQ b hbp hb)
          rw [← key] at m0 m1 m2
          have HTJ : Hid (l[j]? = some t ∧ t ∈ l) := ⟨ht, List.mem_of_getElem? ht⟩
          have hj0 : (0 : Int) ≤ (j : Int) := by omega
          have hjl : (j : Int) < (l.length : Int) := by omega
          have HNX : Hid (l.take (j + 1) = l.take j ++ [t] ∧ tsizes (l.take j) + t.size ≤ tsizes l) := by
            have hjl' := (List.getElem?_eq_some_iff.1 ht).1
            have e1 : l.take (j + 1) = l.take j ++ [t] := by rw [List.take_succ_eq_append_getElem hjl', (List.getElem?_eq_some_iff.1 ht).2]
            refine ⟨e1, ?_⟩
            have := tsizes_take_le l (j + 1)
            rw [tsizes_take l j t ht] at this
            exact this
          have HCALL : Hid (∀ w5, Below wr.heap.size wr w5 → Calls Try.prog 27 #[.pointer (some ⟨ab, 0, none⟩), .agg #[.string x0, .int .i64 x1, .slice xa xk xc]] w5 fun e w' => ∃ b s', e = .returned (.pointer (some ⟨b, 0, none⟩)) ∧ KeptAs w5 w' B sb ab fr N jv J s1 s' t b) := fun w5 h5 => by
            refine HI.out t HTJ.out.2 w5 _ s1 (HR.out.ok.below h5) ?_ (HKN.out w5 h5) (Nat.le_trans HN.out.2 (Nat.le_trans HR.out.kept.size h5.size)) ?_
            · rcases HR.out.ext.mv with e | ⟨-, g, e, hg⟩
              · rw [e]; exact HMV.out
              · exact .inr ⟨g, e, Nat.le_trans HN.out.2 hg⟩
            · have h1 := HR.out.len
              have h2 := HL.out
              have h3 := HNX.out.2
              simp only [Ty.size] at h2
              omega
          clear hbp hat ht kn farQ key
          subst hkv
          have HKV : Hid (ks.length = j) := HJ.out
          clear HJ
          have d0 : Below wr.heap.size wr (wr.alloc (.cells #[.string x0, .int .i64 x1, .slice xa xk xc] 25)).drew := ((Below.refl _ _).alloc (Nat.le_refl _) _).drew
          have hkl : ks.length ≤ 8796093022208 := by rw [HKV.out]; have := teach_len HT.out; omega
          have r2a : (wr.alloc (.cells #[.string x0, .int .i64 x1, .slice xa xk xc] 25)).cell? ⟨w2.heap.size, 2, none⟩ = some (.slice ka j kc) := by
            have hb1 : Below wr.heap.size wr (wr.alloc (.cells #[.string x0, .int .i64 x1, .slice xa xk xc] 25)) := (Below.refl _ _).alloc (Nat.le_refl _) _
            rw [hb1.cell (p := ⟨w2.heap.size, 2, none⟩) (Em.cell_lt r2)]; exact r2
          go_wp2_with fail
          go_region_law (first
            | (refine step_app_ptr (w := w3) (by rfl) _ _ (by rfl) w.heap.size _ ks (by rfl) hK3.out.own b3 _ (by first | rfl | simp) (by rfl) hkl hz3 ?_; intro v4 w4 o4 hg4; obtain ⟨va4, vc4, hv4, c24, f24, hR4⟩ := hK3.out.app2 HKV.out o4 hg4; have HR4 : Hid (KpI w (w4.setCell ⟨w2.heap.size, 2, none⟩ v4) B sb ab fr N jv J s op n w2.heap.size s3 v4 (ks ++ [b3]) (ks ++ [b3]) (l.take j ++ [t])) := hR4; subst hv4; clear o4 hg4 hR4)
            | (go_simp; go_at_call 27; refine (HCALL.out _ d0).mono ?_; rintro e w3 ⟨b3, s3, rfl, hk3⟩; have hK3 : Hid (KpI w w3 B sb ab fr N jv J s op n w2.heap.size s3 (.slice ka j kc) ks (ks ++ [b3]) (l.take j ++ [t])) := (HR.out.below d0).call hk3; have c23 := hK3.out.row.1; have c23a : (w3.alloc (.cells #[.pointer (some ⟨b3, 0, none⟩)] 57)).cell? ⟨w2.heap.size, 2, none⟩ = some (.slice ka j kc) := (by rw [((Below.refl w3.heap.size w3).alloc (Nat.le_refl _) (.cells #[.pointer (some ⟨b3, 0, none⟩)] 57)).cell (p := ⟨w2.heap.size, 2, none⟩) (Em.cell_lt c23)]; exact c23); have hz3 : w.heap.size ≤ w3.heap.size := hK3.out.kept.size; clear hk3))
          all_goals
            go_wp2
            go_roundw
            case rel => exact ⟨j + 1, s3, _, ks ++ [b3], by omega, by go_num, by rw [Hid, List.length_append, HKV.out]; rfl, by rw [HNX.out.1]; exact HR4⟩
            case measure => simp [intOf]; omega
        · have hje : j = l.length := by omega
          have hTA : l.take j = l := by rw [hje, List.take_length]
          rw [hTA] at HR
          have HRF : Hid (KeptAs w wr B sb ab fr N jv J s (addTm s1 (.mk op n l) N w2.heap.size ks kv) (.mk op n l) w2.heap.size) := HR.out.fin HT.out HO.out HTX.out.1 HTX.out.2
          clear hkv hTA
          go_wp2_with fail
          go_ret
          exact ⟨_, _, rfl, HRF.out⟩
end Go.Proofs.Ytadhjnbhcenocaa

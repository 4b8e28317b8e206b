/- The document's own Free (chapter 10). Written by gen10free2.py. -/
import Derived.Test.YtbiihiibebdjgaaRSchB0
import Derived.Laws.Slices
namespace Go.Proofs.Ytbiihiibebdjgaa
open Go.RowKit Go.Em8
set_option linter.unusedSimpArgs false
set_option linter.unusedVariables false

/-- What has been put together when of a bound's vars some have been looked at. -/
def InP (l : List Bd) (x : Bd) (T : List Int) (z : Int) : Prop := OwnVar l z ∨ (z ∈ T ∧ z ∉ x.vs)
theorem inP_succ (l : List Bd) (x : Bd) {T : List Int} {j : Nat} {y : Int} (h : T[j]? = some y) (z : Int) : InP l x (T.take (j + 1)) z ↔ InP l x (T.take j) z ∨ (z = y ∧ y ∉ x.vs) := by
  have hj := (List.getElem?_eq_some_iff.1 h).1
  unfold InP
  rw [List.take_succ_eq_append_getElem hj, (List.getElem?_eq_some_iff.1 h).2]
  simp only [List.mem_append, List.mem_singleton]
  constructor
  · rintro (h1 | ⟨h1 | h1, h2⟩)
    · exact .inl (.inl h1)
    · exact .inl (.inr ⟨h1, h2⟩)
    · subst h1; exact .inr ⟨rfl, h2⟩
  · rintro ((h1 | ⟨h1, h2⟩) | ⟨rfl, h2⟩)
    · exact .inl h1
    · exact .inr ⟨.inl h1, h2⟩
    · exact .inr ⟨.inr rfl, h2⟩
theorem inP_all (l : List Bd) {x : Bd} {j : Nat} (h : l[j]? = some x) (z : Int) : InP (l.take j) x (tvars x.ty []) z ↔ OwnVar (l.take (j + 1)) z := by
  have hj := (List.getElem?_eq_some_iff.1 h).1
  unfold InP OwnVar
  rw [List.take_succ_eq_append_getElem hj, (List.getElem?_eq_some_iff.1 h).2, tvars_iff]
  simp only [List.mem_append, List.mem_singleton, List.not_mem_nil, false_or]
  constructor
  · rintro (⟨b, h1, h2⟩ | h1)
    · exact ⟨b, .inl h1, h2⟩
    · exact ⟨x, .inr rfl, h1⟩
  · rintro ⟨b, h1 | rfl, h2⟩
    · exact .inl ⟨b, h1, h2⟩
    · exact .inr h2
theorem FreeAt.ins {P Q : Int → Prop} {out : List Int} (h : FreeAt P out) {k : Nat} {y : Int} (hy : y ∉ out) (h1 : ∀ z ∈ out.take k, z < y) (h2 : ∀ z, out[k]? = some z → ¬ z < y) (hq : ∀ z, Q z ↔ P z ∨ z = y) : FreeAt Q (insAt out k y) :=
  ⟨insAt_rises h.rises hy h1 h2, fun z => by rw [insAt_mem, h.mem, hq]⟩
/-- The row between two rounds of the inner loop. -/
def FreeI (w : World) (l : List Bd) (j : Nat) (x : Bd) (m jj : Nat) (u : Value) (out : List Int) (W : World) : Prop :=
  OwnInts W w.heap.size u out ∧ FreeAt (InP (l.take j) x ((tvars x.ty []).take jj)) out ∧ (∀ z ∈ out, Em5.I64 z) ∧ out.length ≤ m + jj ∧ Below w.heap.size w W
theorem FreeI.skip {w W W' : World} {l : List Bd} {j m jj : Nat} {x : Bd} {u : Value} {out : List Int} (h : FreeI w l j x m jj u out W) {y : Int} (hy : (tvars x.ty [])[jj]? = some y) (hs : y ∈ x.vs ∨ y ∈ out) (hb : Below W.heap.size W W') : FreeI w l j x m (jj + 1) u out W' := by
  obtain ⟨h1, h2, h3, h4, h5⟩ := h
  refine ⟨h1.below hb, h2.iff fun z => ?_, h3, by omega, h5.trans (hb.mono h5.size)⟩
  rw [inP_succ _ _ hy]
  constructor
  · exact .inl
  · rintro (h | ⟨rfl, h⟩)
    · exact h
    · rcases hs with hs | hs
      · exact absurd hs h
      · exact (h2.mem z).1 hs
theorem FreeI.put {w X W : World} {l : List Bd} {j m jj : Nat} {x : Bd} {u v : Value} {out : List Int} (h : FreeI w l j x m jj u out X) {y : Int} (hy : (tvars x.ty [])[jj]? = some y) (hyi : Em5.I64 y) (hv : y ∉ x.vs) (ho : y ∉ out) {k : Nat} (hk1 : ∀ z ∈ out.take k, z < y) (hk2 : ∀ z, out[k]? = some z → ¬ z < y) (hr : OwnInts W X.heap.size v (insAt out k y)) (hb : Below X.heap.size X W) : FreeI w l j x m (jj + 1) v (insAt out k y) W := by
  obtain ⟨h1, h2, h3, h4, h5⟩ := h
  refine ⟨hr.base h5.size, h2.ins ho hk1 hk2 fun z => ?_, fun z hz => ?_, by rw [insAt_len]; omega, h5.trans (hb.mono h5.size)⟩
  · rw [inP_succ _ _ hy]
    constructor
    · rintro (h | ⟨h, -⟩)
      · exact .inl h
      · exact .inr h
    · rintro (h | rfl)
      · exact .inl h
      · exact .inr ⟨rfl, hv⟩
  · rcases (insAt_mem _ _ _ _).1 hz with h | rfl
    · exact h3 z h
    · exact hyi
theorem FreeI.below {w W W' : World} {l : List Bd} {j m jj : Nat} {x : Bd} {u : Value} {out : List Int} (h : FreeI w l j x m jj u out W) (hb : Below W.heap.size W W') : FreeI w l j x m jj u out W' :=
  ⟨h.1.below hb, h.2.1, h.2.2.1, h.2.2.2.1, h.2.2.2.2.trans (hb.mono h.2.2.2.2.size)⟩

set_option maxRecDepth 100000 in
set_option maxHeartbeats 4000000 in
theorem rFree_any (l : List Bd) (v : Value) (w : World) (hv : IsBds w v l) (hl : BdsOk l) :
    Calls Try.prog 15 #[v] w fun e w' => ∃ u, e = .returned u ∧ OwnInts w' w.heap.size u (freeP l) ∧ (∀ x ∈ freeP l, Em5.I64 x) ∧ Below w.heap.size w w' := by
  have HV : Hid (IsBds w v l) := hv
  have HL : Hid (BdsOk l) := hl
  have hlen := hl.1
  obtain ⟨pa, pc, rfl, -⟩ := hv
  clear hl
  go_enter Try.func15, Try.ntmps15
  go_wp2_with fail
  go_loopw [3, 4] (fun kv i wr => ∃ (j : Nat) (ov : Value) (out : List Int), ov = kv ∧ j ≤ l.length ∧ i = .int .i64 j ∧ Hid (OwnInts wr w.heap.size ov out ∧ FreeAt (OwnVar (l.take j)) out ∧ (∀ z ∈ out, Em5.I64 z) ∧ out.length ≤ j * 2000 ∧ Below w.heap.size w wr)) (fun _ i _ => l.length - (intOf i).toNat)
  case atStart => exact ⟨0, _, [], rfl, Nat.zero_le _, rfl, OwnInts.nil _ _, FreeAt.nil (by rintro x ⟨b, hb, -⟩; simp at hb), by simp, by simp, Below.refl _ _⟩
  case round =>
    obtain ⟨j, ov, out, rfl, hj, rfl, HR⟩ := hrel
    by_cases hlt : j < l.length
    · obtain ⟨x, hx⟩ : ∃ x, l[j]? = some x := ⟨_, List.getElem?_eq_getElem hlt⟩
      obtain ⟨b, off, va, vk, vc, s, n, ka, kl, kc, rfl, -, hc1, hc2, hb, ht, m0, m1, m2, m3, m4, gV, gT⟩ := HV.out.get hx
      have HM : Hid (b < w.heap.size ∧ w.cell? ⟨b, off + j * 5 + 1, none⟩ = some (.slice va vk vc) ∧ IsInts w (.slice va vk vc) x.vs) := ⟨hb, m1, gV⟩
      have key : ∀ o, wr.cell? ⟨b, o, none⟩ = w.cell? ⟨b, o, none⟩ := fun o => HR.out.2.2.2.2.cell (p := ⟨b, o, none⟩) hb
      rw [← key] at m0 m1 m2 m3 m4
      have hxs := HL.out.2 x (List.mem_of_getElem? hx)
      have HX : Hid (l[j]? = some x ∧ x.ty.size ≤ 2000 ∧ x.vs.length ≤ 1000 ∧ j ≤ 100 ∧ j < l.length) := ⟨hx, hxs.1, hxs.2, by omega, hlt⟩
      have HT : Hid (IsTy wr x.ty (.agg #[.string s, .int .i64 n, .slice ka kl kc])) := isTy_below HR.out.2.2.2.2 _ _ gT
      have hj0 : (0 : Int) ≤ (j : Int) := by omega
      have hjl : (j : Int) < (l.length : Int) := by omega
      have hll : (l.length : Int) ≤ 1000 := by omega
      clear key hx hxs gV gT ht m0 m1 hb
      go_wp2_with fail
      refine (rtVars_any x.ty _ wr HT.out (by have := HX.out.2.1; omega)).mono ?_
      rintro e w5 ⟨u5, rfl, o5, i5, b5⟩
      obtain ⟨T, hT⟩ : ∃ T, T = tvars x.ty [] := ⟨_, rfl⟩
      have HTT : Hid (T = tvars x.ty []) := hT
      rw [← hT] at o5 i5
      have htl : T.length ≤ 2000 := by have := tvars_len x.ty []; have := HX.out.2.1; rw [hT]; simp at *; omega
      obtain ⟨la, lc, rfl⟩ := o5.form
      have H5 : Hid (OwnInts w5 wr.heap.size (.slice la T.length lc) T ∧ (∀ z ∈ T, Em5.I64 z) ∧ Below w.heap.size w w5 ∧ IsInts w5 (.slice la T.length lc) T) := ⟨o5, i5, HR.out.2.2.2.2.trans (b5.mono HR.out.2.2.2.2.size), o5.is i5⟩
      have HI0 : Hid (FreeI w l j x (j * 2000) 0 ov out w5) := by
        refine ⟨HR.out.1.below b5, HR.out.2.1.iff fun z => ?_, HR.out.2.2.1, HR.out.2.2.2.1, H5.out.2.2.1⟩
        unfold InP
        simp
      clear o5 i5 b5 hT m2 m3 m4
      go_wp2_with fail
      go_loopw [3, 6] (fun kv i wx => ∃ (jj : Nat) (ov2 : Value) (out2 : List Int) (wr2 : World), ov2 = kv ∧ wr2 = wx ∧ jj ≤ T.length ∧ i = .int .i64 jj ∧ Hid (FreeI w l j x (j * 2000) jj ov2 out2 wr2 ∧ Below w5.heap.size w5 wr2)) (fun _ i _ => T.length - (intOf i).toNat)
      case atStart => exact ⟨0, _, out, _, rfl, rfl, Nat.zero_le _, rfl, HI0.out, Below.refl _ _⟩
      case round =>
        clear HI0
        obtain ⟨jj, ov2, out2, wr2, rfl, rfl, hjj, rfl, HR2⟩ := hrel
        by_cases hlt2 : jj < T.length
        · obtain ⟨y, hy⟩ : ∃ y, T[jj]? = some y := ⟨_, List.getElem?_eq_getElem hlt2⟩
          obtain ⟨g5, off5, cap5, e5, -, -, -, hc5⟩ := (H5.out.2.2.2.below HR2.out.2).plain (by omega)
          cases e5
          have cy := hc5 jj y hy
          have hbw : Below w.heap.size w wr2 := HR2.out.1.2.2.2.2
          have m1 : wr2.cell? ⟨b, off + j * 5 + 1, none⟩ = some (.slice va vk vc) := (hbw.cell (p := ⟨b, off + j * 5 + 1, none⟩) HM.out.1).trans HM.out.2.1
          have HVS : Hid (IsInts wr2 (.slice va vk vc) x.vs) := HM.out.2.2.below hbw
          have HOS : Hid (IsInts wr2 ov2 out2) := HR2.out.1.1.is HR2.out.1.2.2.1
          have HY : Hid (Em5.I64 y) := H5.out.2.1 y (List.mem_of_getElem? hy)
          have HYT : Hid ((tvars x.ty [])[jj]? = some y) := by rw [Hid, ← HTT.out]; exact hy
          obtain ⟨q1, hq1⟩ : ∃ q1, q1 = decide (y ∈ x.vs) := ⟨_, rfl⟩
          obtain ⟨q2, hq2⟩ : ∃ q2, q2 = decide (y ∈ out2) := ⟨_, rfl⟩
          have HQ1 : Hid (decide (y ∈ x.vs) = q1) := hq1.symm
          have HQ2 : Hid (decide (y ∈ out2) = q2) := hq2.symm
          have hjj0 : (0 : Int) ≤ (jj : Int) := by omega
          have hjjl : (jj : Int) < (T.length : Int) := by omega
          have htI : (T.length : Int) ≤ 2000 := by omega
          obtain ⟨oa, oc, hof⟩ := HR2.out.1.1.form
          subst hof
          have HO2 : Hid (OwnInts wr2 w.heap.size (.slice oa out2.length oc) out2) := HR2.out.1.1
          have HC1 : Hid (∀ n, Calls Try.prog 18 #[.slice va vk vc, .int .i64 y] (wr2.drewN n) fun e w' => e = .returned (.bool q1) ∧ w' = wr2.drewN n) := fun n => by
            have h := rtHas_any _ x.vs y (wr2.drewN n) (HVS.out.below (below_drewN' (Below.refl _ _) n))
            rwa [HQ1.out] at h
          have HC2 : Hid (∀ n, Calls Try.prog 18 #[.slice oa out2.length oc, .int .i64 y] (wr2.drewN n) fun e w' => e = .returned (.bool q2) ∧ w' = wr2.drewN n) := fun n => by
            have h := rtHas_any _ out2 y (wr2.drewN n) (HOS.out.below (below_drewN' (Below.refl _ _) n))
            rwa [HQ2.out] at h
          have HLEN : Hid (out2.length ≤ 1001000) := by have := HR2.out.1.2.2.2.1; have := HX.out.2.2.2.1; rw [Hid]; omega
          clear hy hc5 hbw hq1 hq2 hlt2
          by_cases hskip : q1 = true ∨ q2 = true
          · have HSK : Hid (y ∈ x.vs ∨ y ∈ out2) := by
              rcases hskip with rfl | rfl
              · exact .inl (of_decide_eq_true HQ1.out)
              · exact .inr (of_decide_eq_true HQ2.out)
            cases q1 <;> cases q2
            · simp at hskip
            all_goals
              clear hskip
              go_wp2_with fail
              go_quiet ((go_at_call 18; with_reducible (first | exact Calls.quiet_of_same (HC1.out _) | exact Calls.quiet_of_same (HC2.out _))))
              go_wp2_with fail
              go_roundw
              case rel => exact ⟨jj + 1, _, out2, _, rfl, rfl, by omega, by go_num, HR2.out.1.skip HYT.out HSK.out (below_drewN' (Below.refl _ _) _), below_drewN' HR2.out.2 _⟩
              case measure => simp [intOf]; omega
          · have HNO : Hid (y ∉ x.vs ∧ y ∉ out2) := ⟨fun h => hskip (.inl (by rw [← HQ1.out]; exact decide_eq_true h)), fun h => hskip (.inr (by rw [← HQ2.out]; exact decide_eq_true h))⟩
            obtain rfl : q1 = false := by cases q1; rfl; exact absurd (.inl rfl) hskip
            obtain rfl : q2 = false := by cases q2; rfl; exact absurd (.inr rfl) hskip
            have hol : out2.length ≤ oc := by
              obtain ⟨a', c', e, h1, -⟩ := HOS.out
              cases e; exact h1
            have hoc : oc ≤ 9223372036854775807 := by
              obtain ⟨a', c', e, -, h1, -⟩ := HOS.out
              cases e; exact h1
            clear hskip
            go_wp2_with fail
            go_quiet ((go_at_call 18; with_reducible (first | exact Calls.quiet_of_same (HC1.out _) | exact Calls.quiet_of_same (HC2.out _))))
            have HB9 : Hid (Below wr2.heap.size wr2 (wr2.drewN nq)) := below_drewN' (Below.refl _ _) _
            go_wp2_with fail
            go_loopw [7] (fun i wx => ∃ (k : Nat) (wk : World), wk = wx ∧ k ≤ out2.length ∧ i = .int .i64 k ∧ Hid ((∀ z ∈ out2.take k, z < y) ∧ Below wr2.heap.size wr2 wk)) (fun i _ => out2.length - (intOf i).toNat)
            case atStart => exact ⟨0, _, rfl, Nat.zero_le _, rfl, by simp, HB9.out⟩
            case round =>
              obtain ⟨k, wk, rfl, hk, rfl, HK⟩ := hrel
              clear HB9
              have cyk : wk.cell? ⟨g5, off5 + jj, none⟩ = some (.int .i64 y) := (HK.out.2.cell (p := ⟨g5, off5 + jj, none⟩) (Em.cell_lt cy)).trans cy
              clear m1 cy
              have hk0 : (0 : Int) ≤ (k : Int) := by omega
              by_cases hgo : ∃ z, out2[k]? = some z ∧ z < y
              · obtain ⟨z, hz, hzy⟩ := hgo
                have hkl : k < out2.length := (List.getElem?_eq_some_iff.1 hz).1
                obtain ⟨gb, goff, gcap, ge, -, -, -, gc⟩ := (HOS.out.below HK.out.2).plain (by omega)
                cases ge
                have cz := gc k z hz
                have HZ : Hid (out2[k]? = some z ∧ z < y) := ⟨hz, hzy⟩
                have hd1 : decide ((k : Int) < (out2.length : Int)) = true := decide_eq_true (by omega)
                have hd2 : decide (z < y) = true := decide_eq_true hzy
                have hkI : (k : Int) < (out2.length : Int) := by omega
                have hoI : (out2.length : Int) ≤ 1001000 := by have := HLEN.out; omega
                clear gc hz hzy
                go_wp2_with fail
                go_quiet (fail)
                go_wp2_with fail
                go_roundw
                case rel =>
                  refine ⟨k + 1, _, rfl, by omega, by go_num, fun z' hz' => ?_, below_drewN' HK.out.2 _⟩
                  rw [List.take_succ_eq_append_getElem hkl] at hz'
                  rcases List.mem_append.1 hz' with h | h
                  · exact HK.out.1 z' h
                  · rw [(List.getElem?_eq_some_iff.1 HZ.out.1).2] at h
                    simp at h
                    subst h
                    exact HZ.out.2
                case measure => simp [intOf]; omega
              · have HE : Hid (∀ z, out2[k]? = some z → ¬ z < y) := fun z h1 h2 => hgo ⟨z, h1, h2⟩
                clear hgo
                by_cases hkl : k < out2.length
                · obtain ⟨z, hz⟩ : ∃ z, out2[k]? = some z := ⟨_, List.getElem?_eq_getElem hkl⟩
                  obtain ⟨gb, goff, gcap, ge, -, -, -, gc⟩ := (HOS.out.below HK.out.2).plain (by omega)
                  cases ge
                  have cz := gc k z hz
                  have hd1 : decide ((k : Int) < (out2.length : Int)) = true := decide_eq_true (by omega)
                  have hd2 : decide (z < y) = false := decide_eq_false (HE.out z hz)
                  have hkI : (k : Int) < (out2.length : Int) := by omega
                  have hoI : (out2.length : Int) ≤ 1001000 := by have := HLEN.out; omega
                  clear gc hz
                  go_wp2_with fail
                  go_quiet (fail)
                  clear cz hd1 hd2
                  have hck : ¬ oc = k := by omega
                  obtain ⟨X, hX⟩ : ∃ X, X = wk.drewN nq := ⟨_, rfl⟩
                  have HXK : Hid (Below wr2.heap.size wr2 X) := by rw [hX]; exact below_drewN' HK.out.2 _
                  have cyx : X.cell? ⟨g5, off5 + jj, none⟩ = some (.int .i64 y) := by rw [hX]; exact cyk
                  have HO : Hid (SrcInts X (.slice (some ⟨gb, goff, none⟩) out2.length oc) out2) := (HO2.out.src HR2.out.1.2.2.1).below HXK.out
                  have HS : Hid (∀ w', Below X.heap.size X w' → w'.cell? ⟨g5, off5 + jj, none⟩ = some (.int .i64 y)) := fun w' hb => (hb.cell (p := ⟨g5, off5 + jj, none⟩) (Em.cell_lt cyx)).trans cyx
                  have HFX : Hid (FreeI w l j x (j * 2000) jj (.slice (some ⟨gb, goff, none⟩) out2.length oc) out2 X) := HR2.out.1.below HXK.out
                  have HWX : Hid (Below w5.heap.size w5 X) := HR2.out.2.trans (HXK.out.mono HR2.out.2.size)
                  have hkc : (k : Int) ≤ (oc : Int) := by omega
                  have hkl2 : (k : Int) ≤ (out2.length : Int) := by omega
                  have hol2 : (out2.length : Int) ≤ (oc : Int) := by omega
                  rw [← hX]
                  clear hX cyk cyx HVS HOS HC1 HC2 HQ1 HQ2
                  go_wp2_with fail
                  refine wp_region_held_drew (S := fun w' => w'.cell? ⟨g5, off5 + jj, none⟩ = some (.int .i64 y)) (by kernel_rfl) (HS.out _ (Below.refl _ _).drew) (fun hHeld => ?_)
                  obtain ⟨x0, hx0⟩ : ∃ x0, x0 = X.drew := ⟨_, rfl⟩
                  have b0 : Below X.heap.size X x0 := by rw [hx0]; exact (Below.refl _ _).drew
                  rw [← hx0]
                  rw [← hx0] at hHeld
                  clear hx0
                  refine wpAnyH_take (i := 1) (v := ?_) rfl (by kernel_rfl) (by kernel_rfl) (by kernel_rfl) (fun _ _ _ h => h) (Or.inl ⟨by rfl, ?_⟩) (by assumption) ?_
                  rotate_left
                  · (intro w hSw; (try dsimp only at hSw); go_simp); all_goals (with_reducible rfl)
                  simp only [List.getElem_toArray, List.getElem_cons_succ, List.getElem_cons_zero, Act.put, List.setIfInBounds_toArray, List.set_cons_zero, List.set_cons_succ]
                  refine wpAnyH_take (i := 2) (v := ?_) rfl (by kernel_rfl) (by kernel_rfl) (by kernel_rfl) (fun _ _ _ h => h) (Or.inl ⟨by rfl, ?_⟩) (by assumption) ?_
                  rotate_left
                  · (intro w hSw; (try dsimp only at hSw); go_simp); all_goals (with_reducible rfl)
                  simp only [List.getElem_toArray, List.getElem_cons_succ, List.getElem_cons_zero, Act.put, List.setIfInBounds_toArray, List.set_cons_zero, List.set_cons_succ]
                  refine wpAnyH_take (i := 3) (v := ?_) rfl (by kernel_rfl) (by kernel_rfl) (by kernel_rfl) (fun _ _ _ h => h) (Or.inl ⟨by rfl, ?_⟩) (by assumption) ?_
                  rotate_left
                  · (intro w hSw; (try dsimp only at hSw); first | exact hsl1 _ | exact hsl2 _ | go_simp); all_goals (with_reducible rfl)
                  simp only [List.getElem_toArray, List.getElem_cons_succ, List.getElem_cons_zero, Act.put, List.setIfInBounds_toArray, List.set_cons_zero, List.set_cons_succ]
                  refine wpAnyH_take (i := 5) (v := ?_) rfl (by kernel_rfl) (by kernel_rfl) (by kernel_rfl) (fun _ _ _ h => h) (Or.inl ⟨by rfl, ?_⟩) (by assumption) ?_
                  rotate_left
                  · (intro w hSw; (try dsimp only at hSw); go_simp); all_goals (with_reducible rfl)
                  simp only [List.getElem_toArray, List.getElem_cons_succ, List.getElem_cons_zero, Act.put, List.setIfInBounds_toArray, List.set_cons_zero, List.set_cons_succ]
                  refine wpAnyH_take (i := 6) (v := ?_) rfl (by kernel_rfl) (by kernel_rfl) (by kernel_rfl) (fun _ _ _ h => h) (Or.inl ⟨by rfl, ?_⟩) (by assumption) ?_
                  rotate_left
                  · (intro w hSw; (try dsimp only at hSw); go_simp); all_goals (with_reducible rfl)
                  simp only [List.getElem_toArray, List.getElem_cons_succ, List.getElem_cons_zero, Act.put, List.setIfInBounds_toArray, List.set_cons_zero, List.set_cons_succ]
                  refine wpAnyH_take (i := 7) (v := ?_) rfl (by kernel_rfl) (by kernel_rfl) (by kernel_rfl) (fun _ _ _ h => h) (Or.inl ⟨by rfl, ?_⟩) (by assumption) ?_
                  rotate_left
                  · (intro w hSw; (try dsimp only at hSw); go_simp); all_goals (with_reducible rfl)
                  simp only [List.getElem_toArray, List.getElem_cons_succ, List.getElem_cons_zero, Act.put, List.setIfInBounds_toArray, List.set_cons_zero, List.set_cons_succ]
                  refine wpAnyH_take (i := 8) (v := ?_) rfl (by kernel_rfl) (by kernel_rfl) (by kernel_rfl) (fun _ _ _ h => h) (Or.inl ⟨by rfl, ?_⟩) (by assumption) ?_
                  rotate_left
                  · (intro w hSw; (try dsimp only at hSw); go_simp); all_goals (with_reducible rfl)
                  simp only [List.getElem_toArray, List.getElem_cons_succ, List.getElem_cons_zero, Act.put, List.setIfInBounds_toArray, List.set_cons_zero, List.set_cons_succ]
                  refine wpAnyH_take (i := 11) (v := ?_) rfl (by kernel_rfl) (by kernel_rfl) (by kernel_rfl) (fun _ _ _ h => h) (Or.inl ⟨by rfl, ?_⟩) (by assumption) ?_
                  rotate_left
                  · (intro w hSw; (try dsimp only at hSw); go_simp); all_goals (with_reducible rfl)
                  simp only [List.getElem_toArray, List.getElem_cons_succ, List.getElem_cons_zero, Act.put, List.setIfInBounds_toArray, List.set_cons_zero, List.set_cons_succ]
                  refine wpAnyH_take (i := 12) (v := ?_) rfl (by kernel_rfl) (by kernel_rfl) (by kernel_rfl) (fun _ _ _ h => h) (Or.inl ⟨by rfl, ?_⟩) (by assumption) ?_
                  rotate_left
                  · (intro w hSw; (try dsimp only at hSw); go_simp); all_goals (with_reducible rfl)
                  simp only [List.getElem_toArray, List.getElem_cons_succ, List.getElem_cons_zero, Act.put, List.setIfInBounds_toArray, List.set_cons_zero, List.set_cons_succ]
                  refine wpAnyH_take (i := 13) (v := ?_) rfl (by kernel_rfl) (by kernel_rfl) (by kernel_rfl) (fun _ _ _ h => h) (Or.inl ⟨by rfl, ?_⟩) (by assumption) ?_
                  rotate_left
                  · (intro w hSw; (try dsimp only at hSw); first | exact hsl1 _ | exact hsl2 _ | go_simp); all_goals (with_reducible rfl)
                  simp only [List.getElem_toArray, List.getElem_cons_succ, List.getElem_cons_zero, Act.put, List.setIfInBounds_toArray, List.set_cons_zero, List.set_cons_succ]
                  refine wpAnyH_ready (rs := [0, 9]) (by kernel_rfl) (by simp) (AllReadyH.cons rfl (fun K hK => ?_) (AllReadyH.cons rfl (fun K hK => ?_) AllReadyH.nil))
                  ·
                    go_simp
                    have b1 := b0.alloc b0.size (.cells #[] 3)
                    obtain ⟨x1, hx1⟩ : ∃ x1, x1 = x0.alloc (.cells #[] 3) := ⟨_, rfl⟩
                    have o1 : OwnInts x1 X.heap.size (.slice (some ⟨x0.heap.size, 0, none⟩) 0 0) [] := by rw [hx1]; exact own_empty x0 b0.size
                    obtain ⟨v63, hv63⟩ : ∃ v63, v63 = (Value.slice (some ⟨x0.heap.size, 0, none⟩) 0 0) := ⟨_, rfl⟩
                    rw [← hx1, ← hv63]
                    rw [← hx1] at b1
                    rw [← hv63] at o1
                    clear hx1 hv63
                    refine hK.out _ _ (HS.out _ b1) (fun hHeld => ?_)
                    clear hK K
                    refine wpAnyH_ready (rs := [4, 9]) (by kernel_rfl) (by simp) (AllReadyH.cons rfl (fun K hK => ?_) (AllReadyH.cons rfl (fun K hK => ?_) AllReadyH.nil))
                    ·
                      refine step_app_ints (by rfl) _ _ (by rfl) X.heap.size v63 [] (by rfl) o1 (.slice (some ⟨gb, goff, none⟩) k oc) (out2.take k) (by rfl) (src_head (HO.out.below b1) hk) (by have := HLEN.out; simp; omega) b1.size ?_
                      intro v67 x2 o2 g2 e2 d2
                      have b2 := b1.trans d2
                      rw [List.nil_append] at o2
                      refine hK.out _ _ (HS.out _ b2) (fun hHeld => ?_)
                      clear hK K g2 e2 d2
                      refine wpAnyH_ready (rs := [9]) (by kernel_rfl) (by simp) (AllReadyH.cons rfl (fun K hK => ?_) AllReadyH.nil)
                      go_simp
                      have b3 := b2.alloc b2.size (.cells #[.int .i64 y] 3)
                      obtain ⟨x3, hx3⟩ : ∃ x3, x3 = x2.alloc (.cells #[.int .i64 y] 3) := ⟨_, rfl⟩
                      obtain ⟨g72, hg72⟩ : ∃ g72, g72 = x2.heap.size := ⟨_, rfl⟩
                      have c3 : x3.cell? ⟨g72, 0, none⟩ = some (.int .i64 y) := by rw [hx3, hg72]; simp
                      have n67 : some g72 ≠ v67.ownBlock := by
                        intro e
                        have := (World.ownsRow.lt (show x2.ownsRow X.heap.size 3 1 v67 _ (ints (out2.take k)) from o2) g72 e.symm).2
                        omega
                      have o3 : OwnInts x3 X.heap.size v67 (out2.take k) := by rw [hx3]; exact o2.below ((Below.refl _ _).alloc (Nat.le_refl _) _)
                      rw [← hx3, ← hg72]
                      rw [← hx3] at b3
                      clear hx3 hg72
                      refine hK.out _ _ (HS.out _ b3) (fun hHeld => ?_)
                      clear hK K
                      refine wpAnyH_ready (rs := [10]) (by kernel_rfl) (by simp) (AllReadyH.cons rfl (fun K hK => ?_) AllReadyH.nil)
                      refine step_app_ints (by rfl) _ _ (by rfl) X.heap.size v67 (out2.take k) (by rfl) o3 (.slice (some ⟨g72, 0, none⟩) 1 1) [y] (by rfl) (src_one c3 HY.out) (by have := HLEN.out; simp; omega) b3.size ?_
                      intro v73 x4 o4 g4 e4 d4
                      have b4 := b3.trans d4
                      refine hK.out _ _ (HS.out _ b4) (fun hHeld => ?_)
                      clear hK K g4 e4 d4
                      refine wpAnyH_ready (rs := [14]) (by kernel_rfl) (by simp) (AllReadyH.cons rfl (fun K hK => ?_) AllReadyH.nil)
                      refine step_app_ints (by rfl) _ _ (by rfl) X.heap.size v73 (out2.take k ++ [y]) (by rfl) o4 _ (out2.drop k) (by rfl) (by have h := src_tail (HO.out.below b4) hk; first | exact h | (rw [if_neg hck, Option.map_some, addr_add] at h; exact h)) (by have := HLEN.out; simp; omega) b4.size ?_
                      intro v77 x5 o5 g5 e5 d5
                      have b5 := b4.trans d5
                      have HEND : Hid (OwnInts x5 X.heap.size v77 (insAt out2 k y) ∧ Below X.heap.size X x5) := ⟨o5, b5⟩
                      refine hK.out _ _ (HS.out _ b5) (fun hHeld => ?_)
                      clear hK K g5 e5 d5
                      refine wpAnyH_take (i := 15) (v := ?_) rfl (by kernel_rfl) (by kernel_rfl) (by kernel_rfl) (fun _ _ _ h => h) (Or.inl ⟨by rfl, ?_⟩) (by assumption) ?_
                      rotate_left
                      · (intro w hSw; (try dsimp only at hSw); go_simp); all_goals (with_reducible rfl)
                      simp only [List.getElem_toArray, List.getElem_cons_succ, List.getElem_cons_zero, Act.put, List.setIfInBounds_toArray, List.set_cons_zero, List.set_cons_succ]
                      refine wpAnyH_done (by kernel_rfl) ?_ _
                      go_wp2_with fail
                      go_roundw
                      case rel => exact ⟨jj + 1, _, insAt out2 k y, _, rfl, rfl, by omega, by go_num, HFX.out.put HYT.out HY.out HNO.out.1 HNO.out.2 HK.out.1 (fun z h1 h2 => by have := HE.out z h1; omega) HEND.out.1 HEND.out.2, HWX.out.trans (HEND.out.2.mono HWX.out.size)⟩
                      case measure => simp [intOf]; omega
                    ·
                      go_simp
                      have b2 := b1.alloc b1.size (.cells #[.int .i64 y] 3)
                      obtain ⟨x2, hx2⟩ : ∃ x2, x2 = x1.alloc (.cells #[.int .i64 y] 3) := ⟨_, rfl⟩
                      obtain ⟨g72, hg72⟩ : ∃ g72, g72 = x1.heap.size := ⟨_, rfl⟩
                      have c2 : x2.cell? ⟨g72, 0, none⟩ = some (.int .i64 y) := by rw [hx2, hg72]; simp
                      have n63 : some g72 ≠ v63.ownBlock := by
                        intro e
                        have := (World.ownsRow.lt (show x1.ownsRow X.heap.size 3 1 v63 _ (ints []) from o1) g72 e.symm).2
                        omega
                      have o2 : OwnInts x2 X.heap.size v63 [] := by rw [hx2]; exact o1.below ((Below.refl _ _).alloc (Nat.le_refl _) _)
                      rw [← hx2, ← hg72]
                      rw [← hx2] at b2
                      clear hx2 hg72
                      refine hK.out _ _ (HS.out _ b2) (fun hHeld => ?_)
                      clear hK K
                      refine wpAnyH_ready (rs := [4]) (by kernel_rfl) (by simp) (AllReadyH.cons rfl (fun K hK => ?_) AllReadyH.nil)
                      refine step_app_ints (by rfl) _ _ (by rfl) X.heap.size v63 [] (by rfl) o2 (.slice (some ⟨gb, goff, none⟩) k oc) (out2.take k) (by rfl) (src_head (HO.out.below b2) hk) (by have := HLEN.out; simp; omega) b2.size ?_
                      intro v67 x3 o3 g3 e3 d3
                      have b3 := b2.trans d3
                      have c3 := g3.cell c2 n63
                      have n67 : some g72 ≠ v67.ownBlock := by
                        rcases e3 with e | e
                        · rw [e]; exact n63
                        · rw [e]; intro e2; have hlt : g72 < x2.heap.size := Em.cell_lt c2; simp at e2; omega
                      rw [List.nil_append] at o3
                      refine hK.out _ _ (HS.out _ b3) (fun hHeld => ?_)
                      clear hK K g3 e3 d3
                      refine wpAnyH_ready (rs := [10]) (by kernel_rfl) (by simp) (AllReadyH.cons rfl (fun K hK => ?_) AllReadyH.nil)
                      refine step_app_ints (by rfl) _ _ (by rfl) X.heap.size v67 (out2.take k) (by rfl) o3 (.slice (some ⟨g72, 0, none⟩) 1 1) [y] (by rfl) (src_one c3 HY.out) (by have := HLEN.out; simp; omega) b3.size ?_
                      intro v73 x4 o4 g4 e4 d4
                      have b4 := b3.trans d4
                      refine hK.out _ _ (HS.out _ b4) (fun hHeld => ?_)
                      clear hK K g4 e4 d4
                      refine wpAnyH_ready (rs := [14]) (by kernel_rfl) (by simp) (AllReadyH.cons rfl (fun K hK => ?_) AllReadyH.nil)
                      refine step_app_ints (by rfl) _ _ (by rfl) X.heap.size v73 (out2.take k ++ [y]) (by rfl) o4 _ (out2.drop k) (by rfl) (by have h := src_tail (HO.out.below b4) hk; first | exact h | (rw [if_neg hck, Option.map_some, addr_add] at h; exact h)) (by have := HLEN.out; simp; omega) b4.size ?_
                      intro v77 x5 o5 g5 e5 d5
                      have b5 := b4.trans d5
                      have HEND : Hid (OwnInts x5 X.heap.size v77 (insAt out2 k y) ∧ Below X.heap.size X x5) := ⟨o5, b5⟩
                      refine hK.out _ _ (HS.out _ b5) (fun hHeld => ?_)
                      clear hK K g5 e5 d5
                      refine wpAnyH_take (i := 15) (v := ?_) rfl (by kernel_rfl) (by kernel_rfl) (by kernel_rfl) (fun _ _ _ h => h) (Or.inl ⟨by rfl, ?_⟩) (by assumption) ?_
                      rotate_left
                      · (intro w hSw; (try dsimp only at hSw); go_simp); all_goals (with_reducible rfl)
                      simp only [List.getElem_toArray, List.getElem_cons_succ, List.getElem_cons_zero, Act.put, List.setIfInBounds_toArray, List.set_cons_zero, List.set_cons_succ]
                      refine wpAnyH_done (by kernel_rfl) ?_ _
                      go_wp2_with fail
                      go_roundw
                      case rel => exact ⟨jj + 1, _, insAt out2 k y, _, rfl, rfl, by omega, by go_num, HFX.out.put HYT.out HY.out HNO.out.1 HNO.out.2 HK.out.1 (fun z h1 h2 => by have := HE.out z h1; omega) HEND.out.1 HEND.out.2, HWX.out.trans (HEND.out.2.mono HWX.out.size)⟩
                      case measure => simp [intOf]; omega
                  ·
                    go_simp
                    have b1 := b0.alloc b0.size (.cells #[.int .i64 y] 3)
                    obtain ⟨x1, hx1⟩ : ∃ x1, x1 = x0.alloc (.cells #[.int .i64 y] 3) := ⟨_, rfl⟩
                    obtain ⟨g72, hg72⟩ : ∃ g72, g72 = x0.heap.size := ⟨_, rfl⟩
                    have c1 : x1.cell? ⟨g72, 0, none⟩ = some (.int .i64 y) := by rw [hx1, hg72]; simp
                    rw [← hx1, ← hg72]
                    rw [← hx1] at b1
                    clear hx1 hg72
                    refine hK.out _ _ (HS.out _ b1) (fun hHeld => ?_)
                    clear hK K
                    refine wpAnyH_ready (rs := [0]) (by kernel_rfl) (by simp) (AllReadyH.cons rfl (fun K hK => ?_) AllReadyH.nil)
                    go_simp
                    have b2 := b1.alloc b1.size (.cells #[] 3)
                    obtain ⟨x2, hx2⟩ : ∃ x2, x2 = x1.alloc (.cells #[] 3) := ⟨_, rfl⟩
                    have o2 : OwnInts x2 X.heap.size (.slice (some ⟨x1.heap.size, 0, none⟩) 0 0) [] := by rw [hx2]; exact own_empty x1 b1.size
                    have c2 : x2.cell? ⟨g72, 0, none⟩ = some (.int .i64 y) := by rw [hx2]; exact Lib.cell?_alloc_some _ c1
                    obtain ⟨v63, hv63⟩ : ∃ v63, v63 = (Value.slice (some ⟨x1.heap.size, 0, none⟩) 0 0) := ⟨_, rfl⟩
                    have n63 : some g72 ≠ v63.ownBlock := by rw [hv63]; intro e; have hlt : g72 < x1.heap.size := Em.cell_lt c1; simp [Value.ownBlock] at e; omega
                    rw [← hx2, ← hv63]
                    rw [← hx2] at b2
                    rw [← hv63] at o2
                    clear hx2 hv63
                    refine hK.out _ _ (HS.out _ b2) (fun hHeld => ?_)
                    clear hK K
                    refine wpAnyH_ready (rs := [4]) (by kernel_rfl) (by simp) (AllReadyH.cons rfl (fun K hK => ?_) AllReadyH.nil)
                    refine step_app_ints (by rfl) _ _ (by rfl) X.heap.size v63 [] (by rfl) o2 (.slice (some ⟨gb, goff, none⟩) k oc) (out2.take k) (by rfl) (src_head (HO.out.below b2) hk) (by have := HLEN.out; simp; omega) b2.size ?_
                    intro v67 x3 o3 g3 e3 d3
                    have b3 := b2.trans d3
                    have c3 := g3.cell c2 n63
                    have n67 : some g72 ≠ v67.ownBlock := by
                      rcases e3 with e | e
                      · rw [e]; exact n63
                      · rw [e]; intro e2; have hlt : g72 < x2.heap.size := Em.cell_lt c2; simp at e2; omega
                    rw [List.nil_append] at o3
                    refine hK.out _ _ (HS.out _ b3) (fun hHeld => ?_)
                    clear hK K g3 e3 d3
                    refine wpAnyH_ready (rs := [10]) (by kernel_rfl) (by simp) (AllReadyH.cons rfl (fun K hK => ?_) AllReadyH.nil)
                    refine step_app_ints (by rfl) _ _ (by rfl) X.heap.size v67 (out2.take k) (by rfl) o3 (.slice (some ⟨g72, 0, none⟩) 1 1) [y] (by rfl) (src_one c3 HY.out) (by have := HLEN.out; simp; omega) b3.size ?_
                    intro v73 x4 o4 g4 e4 d4
                    have b4 := b3.trans d4
                    refine hK.out _ _ (HS.out _ b4) (fun hHeld => ?_)
                    clear hK K g4 e4 d4
                    refine wpAnyH_ready (rs := [14]) (by kernel_rfl) (by simp) (AllReadyH.cons rfl (fun K hK => ?_) AllReadyH.nil)
                    refine step_app_ints (by rfl) _ _ (by rfl) X.heap.size v73 (out2.take k ++ [y]) (by rfl) o4 _ (out2.drop k) (by rfl) (by have h := src_tail (HO.out.below b4) hk; first | exact h | (rw [if_neg hck, Option.map_some, addr_add] at h; exact h)) (by have := HLEN.out; simp; omega) b4.size ?_
                    intro v77 x5 o5 g5 e5 d5
                    have b5 := b4.trans d5
                    have HEND : Hid (OwnInts x5 X.heap.size v77 (insAt out2 k y) ∧ Below X.heap.size X x5) := ⟨o5, b5⟩
                    refine hK.out _ _ (HS.out _ b5) (fun hHeld => ?_)
                    clear hK K g5 e5 d5
                    refine wpAnyH_take (i := 15) (v := ?_) rfl (by kernel_rfl) (by kernel_rfl) (by kernel_rfl) (fun _ _ _ h => h) (Or.inl ⟨by rfl, ?_⟩) (by assumption) ?_
                    rotate_left
                    · (intro w hSw; (try dsimp only at hSw); go_simp); all_goals (with_reducible rfl)
                    simp only [List.getElem_toArray, List.getElem_cons_succ, List.getElem_cons_zero, Act.put, List.setIfInBounds_toArray, List.set_cons_zero, List.set_cons_succ]
                    refine wpAnyH_done (by kernel_rfl) ?_ _
                    go_wp2_with fail
                    go_roundw
                    case rel => exact ⟨jj + 1, _, insAt out2 k y, _, rfl, rfl, by omega, by go_num, HFX.out.put HYT.out HY.out HNO.out.1 HNO.out.2 HK.out.1 (fun z h1 h2 => by have := HE.out z h1; omega) HEND.out.1 HEND.out.2, HWX.out.trans (HEND.out.2.mono HWX.out.size)⟩
                    case measure => simp [intOf]; omega
                · have hd1 : decide ((k : Int) < (out2.length : Int)) = false := decide_eq_false (by omega)
                  go_wp2_with fail
                  go_quiet (fail)
                  clear hd1
                  obtain ⟨X, hX⟩ : ∃ X, X = wk.drewN nq := ⟨_, rfl⟩
                  have HXK : Hid (Below wr2.heap.size wr2 X) := by rw [hX]; exact below_drewN' HK.out.2 _
                  have cyx : X.cell? ⟨g5, off5 + jj, none⟩ = some (.int .i64 y) := by rw [hX]; exact cyk
                  have HO : Hid (SrcInts X (.slice oa out2.length oc) out2) := (HO2.out.src HR2.out.1.2.2.1).below HXK.out
                  have HS : Hid (∀ w', Below X.heap.size X w' → w'.cell? ⟨g5, off5 + jj, none⟩ = some (.int .i64 y)) := fun w' hb => (hb.cell (p := ⟨g5, off5 + jj, none⟩) (Em.cell_lt cyx)).trans cyx
                  have HFX : Hid (FreeI w l j x (j * 2000) jj (.slice oa out2.length oc) out2 X) := HR2.out.1.below HXK.out
                  have HWX : Hid (Below w5.heap.size w5 X) := HR2.out.2.trans (HXK.out.mono HR2.out.2.size)
                  have hkc : (k : Int) ≤ (oc : Int) := by omega
                  have hkl2 : (k : Int) ≤ (out2.length : Int) := by omega
                  have hol2 : (out2.length : Int) ≤ (oc : Int) := by omega
                  rw [← hX]
                  clear hX cyk cyx HVS HOS HC1 HC2 HQ1 HQ2
                  go_wp2_with fail
                  refine wp_region_held_drew (S := fun w' => w'.cell? ⟨g5, off5 + jj, none⟩ = some (.int .i64 y)) (by kernel_rfl) (HS.out _ (Below.refl _ _).drew) (fun hHeld => ?_)
                  obtain ⟨x0, hx0⟩ : ∃ x0, x0 = X.drew := ⟨_, rfl⟩
                  have b0 : Below X.heap.size X x0 := by rw [hx0]; exact (Below.refl _ _).drew
                  rw [← hx0]
                  rw [← hx0] at hHeld
                  clear hx0
                  refine wpAnyH_take (i := 1) (v := ?_) rfl (by kernel_rfl) (by kernel_rfl) (by kernel_rfl) (fun _ _ _ h => h) (Or.inl ⟨by rfl, ?_⟩) (by assumption) ?_
                  rotate_left
                  · (intro w hSw; (try dsimp only at hSw); go_simp); all_goals (with_reducible rfl)
                  simp only [List.getElem_toArray, List.getElem_cons_succ, List.getElem_cons_zero, Act.put, List.setIfInBounds_toArray, List.set_cons_zero, List.set_cons_succ]
                  refine wpAnyH_take (i := 2) (v := ?_) rfl (by kernel_rfl) (by kernel_rfl) (by kernel_rfl) (fun _ _ _ h => h) (Or.inl ⟨by rfl, ?_⟩) (by assumption) ?_
                  rotate_left
                  · (intro w hSw; (try dsimp only at hSw); go_simp); all_goals (with_reducible rfl)
                  simp only [List.getElem_toArray, List.getElem_cons_succ, List.getElem_cons_zero, Act.put, List.setIfInBounds_toArray, List.set_cons_zero, List.set_cons_succ]
                  refine wpAnyH_take (i := 3) (v := ?_) rfl (by kernel_rfl) (by kernel_rfl) (by kernel_rfl) (fun _ _ _ h => h) (Or.inl ⟨by rfl, ?_⟩) (by assumption) ?_
                  rotate_left
                  · (intro w hSw; (try dsimp only at hSw); first | exact hsl1 _ | exact hsl2 _ | go_simp); all_goals (with_reducible rfl)
                  simp only [List.getElem_toArray, List.getElem_cons_succ, List.getElem_cons_zero, Act.put, List.setIfInBounds_toArray, List.set_cons_zero, List.set_cons_succ]
                  refine wpAnyH_take (i := 5) (v := ?_) rfl (by kernel_rfl) (by kernel_rfl) (by kernel_rfl) (fun _ _ _ h => h) (Or.inl ⟨by rfl, ?_⟩) (by assumption) ?_
                  rotate_left
                  · (intro w hSw; (try dsimp only at hSw); go_simp); all_goals (with_reducible rfl)
                  simp only [List.getElem_toArray, List.getElem_cons_succ, List.getElem_cons_zero, Act.put, List.setIfInBounds_toArray, List.set_cons_zero, List.set_cons_succ]
                  refine wpAnyH_take (i := 6) (v := ?_) rfl (by kernel_rfl) (by kernel_rfl) (by kernel_rfl) (fun _ _ _ h => h) (Or.inl ⟨by rfl, ?_⟩) (by assumption) ?_
                  rotate_left
                  · (intro w hSw; (try dsimp only at hSw); go_simp); all_goals (with_reducible rfl)
                  simp only [List.getElem_toArray, List.getElem_cons_succ, List.getElem_cons_zero, Act.put, List.setIfInBounds_toArray, List.set_cons_zero, List.set_cons_succ]
                  refine wpAnyH_take (i := 7) (v := ?_) rfl (by kernel_rfl) (by kernel_rfl) (by kernel_rfl) (fun _ _ _ h => h) (Or.inl ⟨by rfl, ?_⟩) (by assumption) ?_
                  rotate_left
                  · (intro w hSw; (try dsimp only at hSw); go_simp); all_goals (with_reducible rfl)
                  simp only [List.getElem_toArray, List.getElem_cons_succ, List.getElem_cons_zero, Act.put, List.setIfInBounds_toArray, List.set_cons_zero, List.set_cons_succ]
                  refine wpAnyH_take (i := 8) (v := ?_) rfl (by kernel_rfl) (by kernel_rfl) (by kernel_rfl) (fun _ _ _ h => h) (Or.inl ⟨by rfl, ?_⟩) (by assumption) ?_
                  rotate_left
                  · (intro w hSw; (try dsimp only at hSw); go_simp); all_goals (with_reducible rfl)
                  simp only [List.getElem_toArray, List.getElem_cons_succ, List.getElem_cons_zero, Act.put, List.setIfInBounds_toArray, List.set_cons_zero, List.set_cons_succ]
                  refine wpAnyH_take (i := 11) (v := ?_) rfl (by kernel_rfl) (by kernel_rfl) (by kernel_rfl) (fun _ _ _ h => h) (Or.inl ⟨by rfl, ?_⟩) (by assumption) ?_
                  rotate_left
                  · (intro w hSw; (try dsimp only at hSw); go_simp); all_goals (with_reducible rfl)
                  simp only [List.getElem_toArray, List.getElem_cons_succ, List.getElem_cons_zero, Act.put, List.setIfInBounds_toArray, List.set_cons_zero, List.set_cons_succ]
                  refine wpAnyH_take (i := 12) (v := ?_) rfl (by kernel_rfl) (by kernel_rfl) (by kernel_rfl) (fun _ _ _ h => h) (Or.inl ⟨by rfl, ?_⟩) (by assumption) ?_
                  rotate_left
                  · (intro w hSw; (try dsimp only at hSw); go_simp); all_goals (with_reducible rfl)
                  simp only [List.getElem_toArray, List.getElem_cons_succ, List.getElem_cons_zero, Act.put, List.setIfInBounds_toArray, List.set_cons_zero, List.set_cons_succ]
                  refine wpAnyH_take (i := 13) (v := ?_) rfl (by kernel_rfl) (by kernel_rfl) (by kernel_rfl) (fun _ _ _ h => h) (Or.inl ⟨by rfl, ?_⟩) (by assumption) ?_
                  rotate_left
                  · (intro w hSw; (try dsimp only at hSw); first | exact hsl1 _ | exact hsl2 _ | go_simp); all_goals (with_reducible rfl)
                  simp only [List.getElem_toArray, List.getElem_cons_succ, List.getElem_cons_zero, Act.put, List.setIfInBounds_toArray, List.set_cons_zero, List.set_cons_succ]
                  refine wpAnyH_ready (rs := [0, 9]) (by kernel_rfl) (by simp) (AllReadyH.cons rfl (fun K hK => ?_) (AllReadyH.cons rfl (fun K hK => ?_) AllReadyH.nil))
                  ·
                    go_simp
                    have b1 := b0.alloc b0.size (.cells #[] 3)
                    obtain ⟨x1, hx1⟩ : ∃ x1, x1 = x0.alloc (.cells #[] 3) := ⟨_, rfl⟩
                    have o1 : OwnInts x1 X.heap.size (.slice (some ⟨x0.heap.size, 0, none⟩) 0 0) [] := by rw [hx1]; exact own_empty x0 b0.size
                    obtain ⟨v63, hv63⟩ : ∃ v63, v63 = (Value.slice (some ⟨x0.heap.size, 0, none⟩) 0 0) := ⟨_, rfl⟩
                    rw [← hx1, ← hv63]
                    rw [← hx1] at b1
                    rw [← hv63] at o1
                    clear hx1 hv63
                    refine hK.out _ _ (HS.out _ b1) (fun hHeld => ?_)
                    clear hK K
                    refine wpAnyH_ready (rs := [4, 9]) (by kernel_rfl) (by simp) (AllReadyH.cons rfl (fun K hK => ?_) (AllReadyH.cons rfl (fun K hK => ?_) AllReadyH.nil))
                    ·
                      refine step_app_ints (by rfl) _ _ (by rfl) X.heap.size v63 [] (by rfl) o1 (.slice oa k oc) (out2.take k) (by rfl) (src_head (HO.out.below b1) hk) (by have := HLEN.out; simp; omega) b1.size ?_
                      intro v67 x2 o2 g2 e2 d2
                      have b2 := b1.trans d2
                      rw [List.nil_append] at o2
                      refine hK.out _ _ (HS.out _ b2) (fun hHeld => ?_)
                      clear hK K g2 e2 d2
                      refine wpAnyH_ready (rs := [9]) (by kernel_rfl) (by simp) (AllReadyH.cons rfl (fun K hK => ?_) AllReadyH.nil)
                      go_simp
                      have b3 := b2.alloc b2.size (.cells #[.int .i64 y] 3)
                      obtain ⟨x3, hx3⟩ : ∃ x3, x3 = x2.alloc (.cells #[.int .i64 y] 3) := ⟨_, rfl⟩
                      obtain ⟨g72, hg72⟩ : ∃ g72, g72 = x2.heap.size := ⟨_, rfl⟩
                      have c3 : x3.cell? ⟨g72, 0, none⟩ = some (.int .i64 y) := by rw [hx3, hg72]; simp
                      have n67 : some g72 ≠ v67.ownBlock := by
                        intro e
                        have := (World.ownsRow.lt (show x2.ownsRow X.heap.size 3 1 v67 _ (ints (out2.take k)) from o2) g72 e.symm).2
                        omega
                      have o3 : OwnInts x3 X.heap.size v67 (out2.take k) := by rw [hx3]; exact o2.below ((Below.refl _ _).alloc (Nat.le_refl _) _)
                      rw [← hx3, ← hg72]
                      rw [← hx3] at b3
                      clear hx3 hg72
                      refine hK.out _ _ (HS.out _ b3) (fun hHeld => ?_)
                      clear hK K
                      refine wpAnyH_ready (rs := [10]) (by kernel_rfl) (by simp) (AllReadyH.cons rfl (fun K hK => ?_) AllReadyH.nil)
                      refine step_app_ints (by rfl) _ _ (by rfl) X.heap.size v67 (out2.take k) (by rfl) o3 (.slice (some ⟨g72, 0, none⟩) 1 1) [y] (by rfl) (src_one c3 HY.out) (by have := HLEN.out; simp; omega) b3.size ?_
                      intro v73 x4 o4 g4 e4 d4
                      have b4 := b3.trans d4
                      refine hK.out _ _ (HS.out _ b4) (fun hHeld => ?_)
                      clear hK K g4 e4 d4
                      refine wpAnyH_ready (rs := [14]) (by kernel_rfl) (by simp) (AllReadyH.cons rfl (fun K hK => ?_) AllReadyH.nil)
                      refine step_app_ints (by rfl) _ _ (by rfl) X.heap.size v73 (out2.take k ++ [y]) (by rfl) o4 _ (out2.drop k) (by rfl) (by have h := src_tail (HO.out.below b4) hk; first | exact h | (rw [if_neg hck, Option.map_some, addr_add] at h; exact h)) (by have := HLEN.out; simp; omega) b4.size ?_
                      intro v77 x5 o5 g5 e5 d5
                      have b5 := b4.trans d5
                      have HEND : Hid (OwnInts x5 X.heap.size v77 (insAt out2 k y) ∧ Below X.heap.size X x5) := ⟨o5, b5⟩
                      refine hK.out _ _ (HS.out _ b5) (fun hHeld => ?_)
                      clear hK K g5 e5 d5
                      refine wpAnyH_take (i := 15) (v := ?_) rfl (by kernel_rfl) (by kernel_rfl) (by kernel_rfl) (fun _ _ _ h => h) (Or.inl ⟨by rfl, ?_⟩) (by assumption) ?_
                      rotate_left
                      · (intro w hSw; (try dsimp only at hSw); go_simp); all_goals (with_reducible rfl)
                      simp only [List.getElem_toArray, List.getElem_cons_succ, List.getElem_cons_zero, Act.put, List.setIfInBounds_toArray, List.set_cons_zero, List.set_cons_succ]
                      refine wpAnyH_done (by kernel_rfl) ?_ _
                      go_wp2_with fail
                      go_roundw
                      case rel => exact ⟨jj + 1, _, insAt out2 k y, _, rfl, rfl, by omega, by go_num, HFX.out.put HYT.out HY.out HNO.out.1 HNO.out.2 HK.out.1 (fun z h1 h2 => by have := HE.out z h1; omega) HEND.out.1 HEND.out.2, HWX.out.trans (HEND.out.2.mono HWX.out.size)⟩
                      case measure => simp [intOf]; omega
                    ·
                      go_simp
                      have b2 := b1.alloc b1.size (.cells #[.int .i64 y] 3)
                      obtain ⟨x2, hx2⟩ : ∃ x2, x2 = x1.alloc (.cells #[.int .i64 y] 3) := ⟨_, rfl⟩
                      obtain ⟨g72, hg72⟩ : ∃ g72, g72 = x1.heap.size := ⟨_, rfl⟩
                      have c2 : x2.cell? ⟨g72, 0, none⟩ = some (.int .i64 y) := by rw [hx2, hg72]; simp
                      have n63 : some g72 ≠ v63.ownBlock := by
                        intro e
                        have := (World.ownsRow.lt (show x1.ownsRow X.heap.size 3 1 v63 _ (ints []) from o1) g72 e.symm).2
                        omega
                      have o2 : OwnInts x2 X.heap.size v63 [] := by rw [hx2]; exact o1.below ((Below.refl _ _).alloc (Nat.le_refl _) _)
                      rw [← hx2, ← hg72]
                      rw [← hx2] at b2
                      clear hx2 hg72
                      refine hK.out _ _ (HS.out _ b2) (fun hHeld => ?_)
                      clear hK K
                      refine wpAnyH_ready (rs := [4]) (by kernel_rfl) (by simp) (AllReadyH.cons rfl (fun K hK => ?_) AllReadyH.nil)
                      refine step_app_ints (by rfl) _ _ (by rfl) X.heap.size v63 [] (by rfl) o2 (.slice oa k oc) (out2.take k) (by rfl) (src_head (HO.out.below b2) hk) (by have := HLEN.out; simp; omega) b2.size ?_
                      intro v67 x3 o3 g3 e3 d3
                      have b3 := b2.trans d3
                      have c3 := g3.cell c2 n63
                      have n67 : some g72 ≠ v67.ownBlock := by
                        rcases e3 with e | e
                        · rw [e]; exact n63
                        · rw [e]; intro e2; have hlt : g72 < x2.heap.size := Em.cell_lt c2; simp at e2; omega
                      rw [List.nil_append] at o3
                      refine hK.out _ _ (HS.out _ b3) (fun hHeld => ?_)
                      clear hK K g3 e3 d3
                      refine wpAnyH_ready (rs := [10]) (by kernel_rfl) (by simp) (AllReadyH.cons rfl (fun K hK => ?_) AllReadyH.nil)
                      refine step_app_ints (by rfl) _ _ (by rfl) X.heap.size v67 (out2.take k) (by rfl) o3 (.slice (some ⟨g72, 0, none⟩) 1 1) [y] (by rfl) (src_one c3 HY.out) (by have := HLEN.out; simp; omega) b3.size ?_
                      intro v73 x4 o4 g4 e4 d4
                      have b4 := b3.trans d4
                      refine hK.out _ _ (HS.out _ b4) (fun hHeld => ?_)
                      clear hK K g4 e4 d4
                      refine wpAnyH_ready (rs := [14]) (by kernel_rfl) (by simp) (AllReadyH.cons rfl (fun K hK => ?_) AllReadyH.nil)
                      refine step_app_ints (by rfl) _ _ (by rfl) X.heap.size v73 (out2.take k ++ [y]) (by rfl) o4 _ (out2.drop k) (by rfl) (by have h := src_tail (HO.out.below b4) hk; first | exact h | (rw [if_neg hck, Option.map_some, addr_add] at h; exact h)) (by have := HLEN.out; simp; omega) b4.size ?_
                      intro v77 x5 o5 g5 e5 d5
                      have b5 := b4.trans d5
                      have HEND : Hid (OwnInts x5 X.heap.size v77 (insAt out2 k y) ∧ Below X.heap.size X x5) := ⟨o5, b5⟩
                      refine hK.out _ _ (HS.out _ b5) (fun hHeld => ?_)
                      clear hK K g5 e5 d5
                      refine wpAnyH_take (i := 15) (v := ?_) rfl (by kernel_rfl) (by kernel_rfl) (by kernel_rfl) (fun _ _ _ h => h) (Or.inl ⟨by rfl, ?_⟩) (by assumption) ?_
                      rotate_left
                      · (intro w hSw; (try dsimp only at hSw); go_simp); all_goals (with_reducible rfl)
                      simp only [List.getElem_toArray, List.getElem_cons_succ, List.getElem_cons_zero, Act.put, List.setIfInBounds_toArray, List.set_cons_zero, List.set_cons_succ]
                      refine wpAnyH_done (by kernel_rfl) ?_ _
                      go_wp2_with fail
                      go_roundw
                      case rel => exact ⟨jj + 1, _, insAt out2 k y, _, rfl, rfl, by omega, by go_num, HFX.out.put HYT.out HY.out HNO.out.1 HNO.out.2 HK.out.1 (fun z h1 h2 => by have := HE.out z h1; omega) HEND.out.1 HEND.out.2, HWX.out.trans (HEND.out.2.mono HWX.out.size)⟩
                      case measure => simp [intOf]; omega
                  ·
                    go_simp
                    have b1 := b0.alloc b0.size (.cells #[.int .i64 y] 3)
                    obtain ⟨x1, hx1⟩ : ∃ x1, x1 = x0.alloc (.cells #[.int .i64 y] 3) := ⟨_, rfl⟩
                    obtain ⟨g72, hg72⟩ : ∃ g72, g72 = x0.heap.size := ⟨_, rfl⟩
                    have c1 : x1.cell? ⟨g72, 0, none⟩ = some (.int .i64 y) := by rw [hx1, hg72]; simp
                    rw [← hx1, ← hg72]
                    rw [← hx1] at b1
                    clear hx1 hg72
                    refine hK.out _ _ (HS.out _ b1) (fun hHeld => ?_)
                    clear hK K
                    refine wpAnyH_ready (rs := [0]) (by kernel_rfl) (by simp) (AllReadyH.cons rfl (fun K hK => ?_) AllReadyH.nil)
                    go_simp
                    have b2 := b1.alloc b1.size (.cells #[] 3)
                    obtain ⟨x2, hx2⟩ : ∃ x2, x2 = x1.alloc (.cells #[] 3) := ⟨_, rfl⟩
                    have o2 : OwnInts x2 X.heap.size (.slice (some ⟨x1.heap.size, 0, none⟩) 0 0) [] := by rw [hx2]; exact own_empty x1 b1.size
                    have c2 : x2.cell? ⟨g72, 0, none⟩ = some (.int .i64 y) := by rw [hx2]; exact Lib.cell?_alloc_some _ c1
                    obtain ⟨v63, hv63⟩ : ∃ v63, v63 = (Value.slice (some ⟨x1.heap.size, 0, none⟩) 0 0) := ⟨_, rfl⟩
                    have n63 : some g72 ≠ v63.ownBlock := by rw [hv63]; intro e; have hlt : g72 < x1.heap.size := Em.cell_lt c1; simp [Value.ownBlock] at e; omega
                    rw [← hx2, ← hv63]
                    rw [← hx2] at b2
                    rw [← hv63] at o2
                    clear hx2 hv63
                    refine hK.out _ _ (HS.out _ b2) (fun hHeld => ?_)
                    clear hK K
                    refine wpAnyH_ready (rs := [4]) (by kernel_rfl) (by simp) (AllReadyH.cons rfl (fun K hK => ?_) AllReadyH.nil)
                    refine step_app_ints (by rfl) _ _ (by rfl) X.heap.size v63 [] (by rfl) o2 (.slice oa k oc) (out2.take k) (by rfl) (src_head (HO.out.below b2) hk) (by have := HLEN.out; simp; omega) b2.size ?_
                    intro v67 x3 o3 g3 e3 d3
                    have b3 := b2.trans d3
                    have c3 := g3.cell c2 n63
                    have n67 : some g72 ≠ v67.ownBlock := by
                      rcases e3 with e | e
                      · rw [e]; exact n63
                      · rw [e]; intro e2; have hlt : g72 < x2.heap.size := Em.cell_lt c2; simp at e2; omega
                    rw [List.nil_append] at o3
                    refine hK.out _ _ (HS.out _ b3) (fun hHeld => ?_)
                    clear hK K g3 e3 d3
                    refine wpAnyH_ready (rs := [10]) (by kernel_rfl) (by simp) (AllReadyH.cons rfl (fun K hK => ?_) AllReadyH.nil)
                    refine step_app_ints (by rfl) _ _ (by rfl) X.heap.size v67 (out2.take k) (by rfl) o3 (.slice (some ⟨g72, 0, none⟩) 1 1) [y] (by rfl) (src_one c3 HY.out) (by have := HLEN.out; simp; omega) b3.size ?_
                    intro v73 x4 o4 g4 e4 d4
                    have b4 := b3.trans d4
                    refine hK.out _ _ (HS.out _ b4) (fun hHeld => ?_)
                    clear hK K g4 e4 d4
                    refine wpAnyH_ready (rs := [14]) (by kernel_rfl) (by simp) (AllReadyH.cons rfl (fun K hK => ?_) AllReadyH.nil)
                    refine step_app_ints (by rfl) _ _ (by rfl) X.heap.size v73 (out2.take k ++ [y]) (by rfl) o4 _ (out2.drop k) (by rfl) (by have h := src_tail (HO.out.below b4) hk; first | exact h | (rw [if_neg hck, Option.map_some, addr_add] at h; exact h)) (by have := HLEN.out; simp; omega) b4.size ?_
                    intro v77 x5 o5 g5 e5 d5
                    have b5 := b4.trans d5
                    have HEND : Hid (OwnInts x5 X.heap.size v77 (insAt out2 k y) ∧ Below X.heap.size X x5) := ⟨o5, b5⟩
                    refine hK.out _ _ (HS.out _ b5) (fun hHeld => ?_)
                    clear hK K g5 e5 d5
                    refine wpAnyH_take (i := 15) (v := ?_) rfl (by kernel_rfl) (by kernel_rfl) (by kernel_rfl) (fun _ _ _ h => h) (Or.inl ⟨by rfl, ?_⟩) (by assumption) ?_
                    rotate_left
                    · (intro w hSw; (try dsimp only at hSw); go_simp); all_goals (with_reducible rfl)
                    simp only [List.getElem_toArray, List.getElem_cons_succ, List.getElem_cons_zero, Act.put, List.setIfInBounds_toArray, List.set_cons_zero, List.set_cons_succ]
                    refine wpAnyH_done (by kernel_rfl) ?_ _
                    go_wp2_with fail
                    go_roundw
                    case rel => exact ⟨jj + 1, _, insAt out2 k y, _, rfl, rfl, by omega, by go_num, HFX.out.put HYT.out HY.out HNO.out.1 HNO.out.2 HK.out.1 (fun z h1 h2 => by have := HE.out z h1; omega) HEND.out.1 HEND.out.2, HWX.out.trans (HEND.out.2.mono HWX.out.size)⟩
                    case measure => simp [intOf]; omega
        · have hje : jj = T.length := by omega
          subst hje
          have HEND : Hid (OwnInts wr2 w.heap.size ov2 out2 ∧ FreeAt (OwnVar (l.take (j + 1))) out2 ∧ (∀ z ∈ out2, Em5.I64 z) ∧ out2.length ≤ (j + 1) * 2000 ∧ Below w.heap.size w wr2) := by
            obtain ⟨h1, h2, h3, h4, h5⟩ := HR2.out.1
            refine ⟨h1, h2.iff fun z => ?_, h3, by omega, h5⟩
            rw [HTT.out, List.take_length]
            exact inP_all l HX.out.1 z
          clear HR2
          go_wp2_with fail
          go_roundw
          case rel => exact ⟨j + 1, _, out2, rfl, by omega, by go_num, HEND.out⟩
          case measure => simp [intOf]; omega
    · have hje : j = l.length := by omega
      subst hje
      have HEND : Hid (OwnInts wr w.heap.size ov (freeP l) ∧ (∀ z ∈ freeP l, Em5.I64 z) ∧ Below w.heap.size w wr) := by
        obtain ⟨h1, h2, h3, h4, h5⟩ := HR.out
        rw [List.take_length] at h2
        have e := h2.eq (freeP_at l) fun z => Iff.rfl
        rw [e] at h1 h3
        exact ⟨h1, h3, h5⟩
      clear HR
      go_wp2_with fail
      go_ret
      exact ⟨_, rfl, HEND.out⟩
end Go.Proofs.Ytbiihiibebdjgaa

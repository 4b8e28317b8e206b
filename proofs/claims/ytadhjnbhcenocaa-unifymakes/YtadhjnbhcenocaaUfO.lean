/- What 'Of' of a Sub answers (package unify). -/
import Derived.Test.YtadhjnbhcenocaaUfV
import Derived.Test.YtadhjnbhcenocaaUfK
import Derived.Test.YtadhjnbhcenocaaUfL
import Derived.Deep.RegionWith
import Derived.Deep.RegionHeld
namespace Go.Proofs.Ytadhjnbhcenocaa
open Go.RowKit Go.Em8 Go.Em9
set_option linter.unusedSimpArgs false
set_option linter.unusedVariables false

/-- A Sub that is ready: what it says is M's terms as types. -/
structure Ready (w : World) (sb : Nat) (d : Int → Ty) : Prop where
  ex : ∃ (K : Nat → Prop) (F : Fo) (is : Nat → Option Nat) (cm sn : Nat → Int) (E D : Nat → Nat) (T : Nat → Ty) (mv : Option Nat) (fr N : Int) (M : Int → Option Nat) (n : Nat),
    FoOk F ∧ EndOk F E ∧ TOk F E T ∧ Tms w K F is cm sn ∧ Leads F.L is E D ∧ (∀ k, K k → k < w.heap.size) ∧ F.L.length ≤ 100000 ∧ SubS w sb mv fr N M n ∧ MapOk F M ∧ d = ofM M T
theorem Ready.below {w w' : World} {sb : Nat} {d : Int → Ty} (h : Ready w sb d) (hb : Below w.heap.size w w') : Ready w' sb d := by
  obtain ⟨K, F, is, cm, sn, E, D, T, mv, fr, N, M, n, h1, h2, h3, h4, h5, h6, h7, h8, h9, h10⟩ := h.ex
  exact ⟨K, F, is, cm, sn, E, D, T, mv, fr, N, M, n, h1, h2, h3, h4.below hb, h5, fun k hk => Nat.lt_of_lt_of_le (h6 k hk) hb.size, h7, h8.below hb, h9, h10⟩
/-- .. and it says what the var n is: the term x. -/
structure Found (w : World) (sb : Nat) (d : Int → Ty) (n : Int) (x : Nat) : Prop where
  ex : ∃ (K : Nat → Prop) (F : Fo) (is : Nat → Option Nat) (cm sn : Nat → Int) (E D : Nat → Nat) (T : Nat → Ty) (mv : Option Nat) (fr N : Int) (M : Int → Option Nat) (m : Nat),
    FoOk F ∧ EndOk F E ∧ TOk F E T ∧ Tms w K F is cm sn ∧ Leads F.L is E D ∧ (∀ k, K k → k < w.heap.size) ∧ F.L.length ≤ 100000 ∧ SubS w sb mv fr N M m ∧ MapOk F M ∧ d = ofM M T ∧ M n = some x
/-- What a Sub's cells are, and what the look-up of n says, from here on. -/
theorem Ready.look {w : World} {sb : Nat} {d : Int → Ty} (h : Ready w sb d) {n : Int} (hn : Em5.I64 n) : ∃ (mv : Option Nat) (o : Option Nat), (∀ w', Below w.heap.size w w' → w'.cell? ⟨sb, 1, none⟩ = some (.map mv) ∧ Sem.run Try.prog (Instr.lookup 51 (.map mv) (.int .i64 n) false) w' = .ok (ptrV o) w') ∧
    ((o = none ∧ d n = tv n) ∨ ∃ x, o = some x ∧ ∀ w', Below w.heap.size w w' → Found w' sb d n x) := by
  obtain ⟨K, F, is, cm, sn, E, D, T, mv, fr, N, M, m, h1, h2, h3, h4, h5, h6, h7, h8, h9, h10⟩ := h.ex
  refine ⟨mv, M n, fun w' hb => ⟨(h8.below hb).get.2.1, (h8.below hb).look hn⟩, ?_⟩
  cases hM : M n with
  | none => exact .inl ⟨rfl, by rw [h10]; exact ofM_none hM⟩
  | some x => exact .inr ⟨x, rfl, fun w' hb => ⟨K, F, is, cm, sn, E, D, T, mv, fr, N, M, m, h1, h2, h3, h4.below hb, h5, fun k hk => Nat.lt_of_lt_of_le (h6 k hk) hb.size, h7, h8.below hb, h9, h10, hM⟩⟩
/-- Of a nil Sub, or one that is ready. -/
def Rdy (w : World) (sp : Option Nat) (d : Int → Ty) : Prop := match sp with
  | none => d = tv
  | some sb => Ready w sb d
theorem Rdy.below {w w' : World} {sp : Option Nat} {d : Int → Ty} (h : Rdy w sp d) (hb : Below w.heap.size w w') : Rdy w' sp d := by
  cases sp with
  | none => exact h
  | some sb => exact Ready.below h hb
def UOfOk (sp : Option Nat) (d : Int → Ty) (T : Ty) : Prop := ∀ (v : Value) (w : World), IsTy w T v → Rdy w sp d →
  Calls Try.prog 16 #[ptrV sp, v] w fun e w' => ∃ u, e = .returned u ∧ IsTyP (fun b => w.heap.size ≤ b) w' (tsub d T) u ∧ Below w.heap.size w w'
/-- While kids are copied. -/
structure OfI (w wr : World) (op : List Int) (n : Int) (sv kv : Value) (dn : List Ty) : Prop where
  t0 : wr.cell? ⟨w.heap.size, 0, none⟩ = some (.string (Em.str op))
  t1 : wr.cell? ⟨w.heap.size, 1, none⟩ = some (.int .i64 n)
  t2 : wr.cell? ⟨w.heap.size, 2, none⟩ = some sv
  z : ZeroAt wr (w.heap.size + 1) 0
  own : OwnTys (fun b => w.heap.size + 2 ≤ b) 25 wr (w.heap.size + 2) kv dn
  bel : Below w.heap.size w wr
  size : w.heap.size + 2 ≤ wr.heap.size
theorem ZeroAt.below {w w' : World} {b off B : Nat} (h : ZeroAt w b off) (hb : Below B w w') (hB : b < B) : ZeroAt w' b off := by
  obtain ⟨z0, z1, z2, z3⟩ := h
  have key : ∀ o, w'.cell? ⟨b, o, none⟩ = w.cell? ⟨b, o, none⟩ := fun o => hb.cell (p := ⟨b, o, none⟩) hB
  exact ⟨by rw [key]; exact z0, by rw [key]; exact z1, by rw [key]; exact z2, fun o => by rw [hb.frozen (p := ⟨b, o, none⟩) hB]; exact z3 o⟩
theorem OfI.below {w wr w' : World} {op : List Int} {n : Int} {sv kv : Value} {dn : List Ty} (h : OfI w wr op n sv kv dn) (hb : Below wr.heap.size wr w') : OfI w w' op n sv kv dn := by
  have hs := h.size
  have key : ∀ o, w'.cell? ⟨w.heap.size, o, none⟩ = wr.cell? ⟨w.heap.size, o, none⟩ := fun o => hb.cell (p := ⟨w.heap.size, o, none⟩) (by simp only; omega)
  exact ⟨by rw [key]; exact h.t0, by rw [key]; exact h.t1, by rw [key]; exact h.t2, h.z.below hb (by omega), ownTys_below h.own hb, h.bel.trans (hb.mono h.bel.size), Nat.le_trans h.size hb.size⟩
theorem OfI.grew {w wr w' : World} {op : List Int} {n : Int} {sv kv kv' : Value} {dn dn' : List Ty} (h : OfI w wr op n sv kv dn) (hb : Below (w.heap.size + 2) wr w') (ho : OwnTys (fun b => w.heap.size + 2 ≤ b) 25 w' (w.heap.size + 2) kv' dn') : OfI w w' op n sv kv' dn' := by
  have key : ∀ o, w'.cell? ⟨w.heap.size, o, none⟩ = wr.cell? ⟨w.heap.size, o, none⟩ := fun o => hb.cell (p := ⟨w.heap.size, o, none⟩) (by simp only; omega)
  exact ⟨by rw [key]; exact h.t0, by rw [key]; exact h.t1, by rw [key]; exact h.t2, h.z.below hb (by omega), ho, h.bel.trans (hb.mono (by omega)), Nat.le_trans h.size hb.size⟩

set_option maxRecDepth 100000 in
set_option maxHeartbeats 8000000 in
theorem uOf_any (sp : Option Nat) (d : Int → Ty) (T : Ty) : Em8.teach T = true → UOfOk sp d T := by
  induction T using Ty.ind with
  | h op n l ih =>
    intro ht v w hv hS
    have HI : Hid (∀ t ∈ l, UOfOk sp d t) := fun t hm => ih t hm (teach_kids ht t hm)
    have HT : Hid (Em8.teach (.mk op n l) = true) := ht
    have HS : Hid (Rdy w sp d) := hS
    have HV : Hid (IsTy w (.mk op n l) v) := hv
    unfold IsTy at hv
    obtain ⟨a, cap, rfl, t1, i1, hc1, hc2, hk⟩ := hv
    have HTX : Hid (Em5.Txt op ∧ Em5.I64 n) := ⟨t1, i1⟩
    have HK : Hid (0 < l.length → ∃ b off, a = some ⟨b, off, none⟩ ∧ b < w.heap.size ∧ TysAt w b off l) := hk
    obtain ⟨W, hW⟩ : ∃ W, W = (w.alloc (.cells #[.string (Em.str op), .int .i64 n, .slice a l.length cap] 25)).alloc (.cells #[.string ⟨#[]⟩, .int .i64 0, .slice none 0 0] 25) := ⟨_, rfl⟩
    have HO0 : Hid (OfI w W op n (.slice a l.length cap) (.slice none 0 0) []) := by
      rw [Hid, hW]
      exact ⟨by simp [go_sem], by simp [go_sem], by simp [go_sem], ⟨by simp [go_sem], by simp [go_sem], by simp [go_sem], fun o => by simp [go_sem]⟩, OwnTys.nil _ _ _ _, ((Below.refl _ _).alloc (Nat.le_refl _) _).alloc (by simp) _, by simp⟩
    have HWE : Hid ((w.alloc (.cells #[.string (Em.str op), .int .i64 n, .slice a l.length cap] 25)).alloc (.cells #[.string ⟨#[]⟩, .int .i64 0, .slice none 0 0] 25) = W) := hW.symm
    have HIV : Hid (∀ w5, Below W.heap.size W w5 → Calls Try.prog 32 #[.agg #[.string (Em.str op), .int .i64 n, .slice a l.length cap]] w5 fun e w' => e = .returned (.bool (decide (op = tVar))) ∧ Below w5.heap.size w5 w') := fun w5 h5 =>
      uisv_any (T := .mk op n l) (isTy_below (HO0.out.bel.trans (h5.mono HO0.out.bel.size)) _ _ HV.out) ht
    clear ih hS ht hW t1 i1 hk
    have b0 := HO0.out.t0
    have b1 := HO0.out.t1
    have b2 := HO0.out.t2
    go_enter Try.func16, Try.ntmps16
    go_upto_region 1 with fail
    rw [HWE.out]
    go_cut [23] (fun c wx => ∃ q, c = .bool q ∧ Below W.heap.size W wx ∧ Hid ((q = true ∧ ∃ sb x, sp = some sb ∧ op = tVar ∧ ∀ w', Below wx.heap.size wx w' → Found w' sb d n x) ∨ (q = false ∧ tsub d (.mk op n l) = .mk op n (l.map (tsub d)))))
    case first =>
      cases sp with
      | none =>
        have HD : Hid (tsub d (.mk op n l) = .mk op n (l.map (tsub d))) := by
          have e : d = tv := HS.out
          by_cases ho : op = tVar
          · subst ho
            obtain rfl := var_nil HT.out
            rw [tsub_var d rfl, e]; rfl
          · exact tsub_else d ho
        rw [ptr_none]
        clear b0 b1 b2
        go_wp2_with fail
        go_quiet (fail)
        go_wp2
        go_meet
        exact ⟨false, rfl, below_drewN (Below.refl _ _) _, .inr ⟨rfl, HD.out⟩⟩
      | some sb =>
        obtain ⟨mv, o, hlk, hfd⟩ := Ready.look (Ready.below HS.out HO0.out.bel) HTX.out.2
        have HLK : Hid (∀ w', Below W.heap.size W w' → w'.cell? ⟨sb, 1, none⟩ = some (.map mv) ∧ Sem.run Try.prog (Instr.lookup 51 (.map mv) (.int .i64 n) false) w' = .ok (ptrV o) w') := hlk
        have HB1 : Hid (∀ w', Below W.heap.size W w' → w'.cell? ⟨w.heap.size, 1, none⟩ = some (.int .i64 n)) := fun w' hb => by
          rw [hb.cell (p := ⟨w.heap.size, 1, none⟩) (Em.cell_lt b1)]; exact b1
        rw [ptr_some]
        clear hlk
        by_cases ho : op = tVar
        · have HO : Hid (op = tVar) := ho
          rw [decide_eq_true ho] at HIV
          have hl0 : l = [] := by have h := HT.out; rw [ho] at h; exact var_nil h
          have HL0 : Hid (l = []) := hl0
          clear ho hl0
          rcases hfd with ⟨rfl, hd⟩ | ⟨x, rfl, hf⟩
          · have HD : Hid (tsub d (.mk op n l) = .mk op n (l.map (tsub d))) := by
              rw [Hid, HL0.out, HO.out, tsub_var d rfl, hd]; rfl
            clear hd
            rw [ptr_none] at HLK
            go_wp2_with fail
            go_region_with (go_at_call 32; refine (HIV.out _ (Below.refl _ _).drew).mono ?_; rintro e w5 ⟨rfl, hb5⟩; have H5 : Hid (Below W.heap.size W w5) := (Below.refl _ _).drew.trans hb5; obtain ⟨s15, hl5⟩ := HLK.out w5 H5.out; have b15 := HB1.out w5 H5.out; clear hb5)
            all_goals
              go_wp2
              go_meet
              exact ⟨false, rfl, H5.out, .inr ⟨rfl, HD.out⟩⟩
          · have HF : Hid (∀ w', Below W.heap.size W w' → Found w' sb d n x) := hf
            clear hf
            rw [ptr_some] at HLK
            go_wp2_with fail
            go_region_with (go_at_call 32; refine (HIV.out _ (Below.refl _ _).drew).mono ?_; rintro e w5 ⟨rfl, hb5⟩; have H5 : Hid (Below W.heap.size W w5) := (Below.refl _ _).drew.trans hb5; obtain ⟨s15, hl5⟩ := HLK.out w5 H5.out; have b15 := HB1.out w5 H5.out; clear hb5)
            all_goals
              go_wp2
              go_meet
              exact ⟨true, rfl, H5.out, .inl ⟨rfl, sb, x, rfl, HO.out, fun w' hb => HF.out w' (H5.out.trans (hb.mono H5.out.size))⟩⟩
        · have HD : Hid (tsub d (.mk op n l) = .mk op n (l.map (tsub d))) := tsub_else d ho
          rw [decide_eq_false ho] at HIV
          clear ho hfd
          have HBX : Hid (∀ w5, Below W.heap.size W w5 → (fun w' => w'.cell? ⟨w.heap.size, 0, none⟩ = some (.string (Em.str op)) ∧ w'.cell? ⟨w.heap.size, 1, none⟩ = some (.int .i64 n) ∧ w'.cell? ⟨w.heap.size, 2, none⟩ = some (.slice a l.length cap)) w5) := fun w5 h5 => ⟨by rw [h5.cell (p := ⟨w.heap.size, 0, none⟩) (Em.cell_lt b0)]; exact b0, by rw [h5.cell (p := ⟨w.heap.size, 1, none⟩) (Em.cell_lt b1)]; exact b1, by rw [h5.cell (p := ⟨w.heap.size, 2, none⟩) (Em.cell_lt b2)]; exact b2⟩
          have d0 : Below W.heap.size W W.drew := (Below.refl _ _).drew
          go_wp2_with fail
          refine wp_region_held_drew (S := (fun w' => w'.cell? ⟨w.heap.size, 0, none⟩ = some (.string (Em.str op)) ∧ w'.cell? ⟨w.heap.size, 1, none⟩ = some (.int .i64 n) ∧ w'.cell? ⟨w.heap.size, 2, none⟩ = some (.slice a l.length cap))) (by kernel_rfl) (HBX.out _ d0) (fun hHeld => ?_)
          refine wpAnyH_take (i := 0) (v := ?_) rfl (by kernel_rfl) (by kernel_rfl) (by kernel_rfl) (fun _ _ _ h => h) (Or.inl ⟨by rfl, ?_⟩) (by assumption) ?_
          rotate_left
          · (intro w hSw; (try dsimp only at hSw); go_simp); all_goals (with_reducible rfl)
          simp only [List.getElem_toArray, List.getElem_cons_succ, List.getElem_cons_zero, Act.put, List.setIfInBounds_toArray, List.set_cons_zero, List.set_cons_succ]
          refine wpAnyH_take (i := 1) (v := ?_) rfl (by kernel_rfl) (by kernel_rfl) (by kernel_rfl) (fun _ _ _ h => h) (Or.inl ⟨by rfl, ?_⟩) (by assumption) ?_
          rotate_left
          · (intro w hSw; (try dsimp only at hSw); go_simp); all_goals (with_reducible rfl)
          simp only [List.getElem_toArray, List.getElem_cons_succ, List.getElem_cons_zero, Act.put, List.setIfInBounds_toArray, List.set_cons_zero, List.set_cons_succ]
          refine wpAnyH_take (i := 2) (v := ?_) rfl (by kernel_rfl) (by kernel_rfl) (by kernel_rfl) (fun _ _ _ h => h) (Or.inl ⟨by rfl, ?_⟩) (by assumption) ?_
          rotate_left
          · (intro w hSw; (try dsimp only at hSw); go_simp); all_goals (with_reducible rfl)
          simp only [List.getElem_toArray, List.getElem_cons_succ, List.getElem_cons_zero, Act.put, List.setIfInBounds_toArray, List.set_cons_zero, List.set_cons_succ]
          refine wpAnyH_take (i := 3) (v := ?_) rfl (by kernel_rfl) (by kernel_rfl) (by kernel_rfl) (fun _ _ _ h => h) (Or.inl ⟨by rfl, ?_⟩) (by assumption) ?_
          rotate_left
          · (intro w hSw; (try dsimp only at hSw); go_simp); all_goals (with_reducible rfl)
          simp only [List.getElem_toArray, List.getElem_cons_succ, List.getElem_cons_zero, Act.put, List.setIfInBounds_toArray, List.set_cons_zero, List.set_cons_succ]
          refine wpAnyH_ready (rs := [4]) (by kernel_rfl) (by simp) (AllReadyH.cons rfl (fun K hK => ?_) AllReadyH.nil)
          go_simp
          go_at_call 32; refine (HIV.out _ d0).mono ?_; rintro e w5 ⟨rfl, hb5⟩; have H5 : Hid (Below W.heap.size W w5) := (Below.refl _ _).drew.trans hb5; clear hb5
          (try dsimp only)
          refine hK.out _ _ (HBX.out _ H5.out) (fun hHeld => ?_)
          clear hK K
          refine wpAnyH_take (i := 5) (v := ?_) rfl (by kernel_rfl) (by kernel_rfl) (by kernel_rfl) (fun _ _ _ h => h) (Or.inl ⟨by rfl, ?_⟩) (by assumption) ?_
          rotate_left
          · (intro w hSw; (try dsimp only at hSw); go_simp); all_goals (with_reducible rfl)
          simp only [List.getElem_toArray, List.getElem_cons_succ, List.getElem_cons_zero, Act.put, List.setIfInBounds_toArray, List.set_cons_zero, List.set_cons_succ]
          refine wpAnyH_take (i := 6) (v := ?_) rfl (by kernel_rfl) (by kernel_rfl) (by kernel_rfl) (fun _ _ _ h => h) (Or.inl ⟨by rfl, ?_⟩) (by assumption) ?_
          rotate_left
          · (intro w hSw; (try dsimp only at hSw); go_simp); all_goals (with_reducible rfl)
          simp only [List.getElem_toArray, List.getElem_cons_succ, List.getElem_cons_zero, Act.put, List.setIfInBounds_toArray, List.set_cons_zero, List.set_cons_succ]
          refine wpAnyH_take (i := 7) (v := undef) rfl (by kernel_rfl) (by kernel_rfl) (by kernel_rfl) (fun _ _ _ h => h) (Or.inr ⟨by rfl, rfl⟩) (by assumption) ?_
          simp only [List.getElem_toArray, List.getElem_cons_succ, List.getElem_cons_zero, Act.put, List.setIfInBounds_toArray, List.set_cons_zero, List.set_cons_succ]
          refine wpAnyH_take (i := 8) (v := undef) rfl (by kernel_rfl) (by kernel_rfl) (by kernel_rfl) (fun _ _ _ h => h) (Or.inr ⟨by rfl, rfl⟩) (by assumption) ?_
          simp only [List.getElem_toArray, List.getElem_cons_succ, List.getElem_cons_zero, Act.put, List.setIfInBounds_toArray, List.set_cons_zero, List.set_cons_succ]
          refine wpAnyH_take (i := 9) (v := undef) rfl (by kernel_rfl) (by kernel_rfl) (by kernel_rfl) (fun _ _ _ h => h) (Or.inr ⟨by rfl, rfl⟩) (by assumption) ?_
          simp only [List.getElem_toArray, List.getElem_cons_succ, List.getElem_cons_zero, Act.put, List.setIfInBounds_toArray, List.set_cons_zero, List.set_cons_succ]
          refine wpAnyH_take (i := 10) (v := undef) rfl (by kernel_rfl) (by kernel_rfl) (by kernel_rfl) (fun _ _ _ h => h) (Or.inr ⟨by rfl, rfl⟩) (by assumption) ?_
          simp only [List.getElem_toArray, List.getElem_cons_succ, List.getElem_cons_zero, Act.put, List.setIfInBounds_toArray, List.set_cons_zero, List.set_cons_succ]
          refine wpAnyH_take (i := 11) (v := undef) rfl (by kernel_rfl) (by kernel_rfl) (by kernel_rfl) (fun _ _ _ h => h) (Or.inr ⟨by rfl, rfl⟩) (by assumption) ?_
          simp only [List.getElem_toArray, List.getElem_cons_succ, List.getElem_cons_zero, Act.put, List.setIfInBounds_toArray, List.set_cons_zero, List.set_cons_succ]
          refine wpAnyH_take (i := 12) (v := undef) rfl (by kernel_rfl) (by kernel_rfl) (by kernel_rfl) (fun _ _ _ h => h) (Or.inr ⟨by rfl, rfl⟩) (by assumption) ?_
          simp only [List.getElem_toArray, List.getElem_cons_succ, List.getElem_cons_zero, Act.put, List.setIfInBounds_toArray, List.set_cons_zero, List.set_cons_succ]
          refine wpAnyH_take (i := 13) (v := undef) rfl (by kernel_rfl) (by kernel_rfl) (by kernel_rfl) (fun _ _ _ h => h) (Or.inr ⟨by rfl, rfl⟩) (by assumption) ?_
          simp only [List.getElem_toArray, List.getElem_cons_succ, List.getElem_cons_zero, Act.put, List.setIfInBounds_toArray, List.set_cons_zero, List.set_cons_succ]
          refine wpAnyH_take (i := 14) (v := undef) rfl (by kernel_rfl) (by kernel_rfl) (by kernel_rfl) (fun _ _ _ h => h) (Or.inr ⟨by rfl, rfl⟩) (by assumption) ?_
          simp only [List.getElem_toArray, List.getElem_cons_succ, List.getElem_cons_zero, Act.put, List.setIfInBounds_toArray, List.set_cons_zero, List.set_cons_succ]
          refine wpAnyH_take (i := 15) (v := ?_) rfl (by kernel_rfl) (by kernel_rfl) (by kernel_rfl) (fun _ _ _ h => h) (Or.inl ⟨by rfl, ?_⟩) (by assumption) ?_
          rotate_left
          · (intro w hSw; (try dsimp only at hSw); go_simp); all_goals (with_reducible rfl)
          simp only [List.getElem_toArray, List.getElem_cons_succ, List.getElem_cons_zero, Act.put, List.setIfInBounds_toArray, List.set_cons_zero, List.set_cons_succ]
          refine wpAnyH_done (by kernel_rfl) ?_ _
          all_goals
            go_wp2_with fail
            go_meet
            exact ⟨false, rfl, H5.out, .inr ⟨rfl, HD.out⟩⟩
    case rest =>
      obtain ⟨q, rfl, hbV, HQ⟩ := hcut
      obtain ⟨V, hV⟩ : ∃ V, V = wc := ⟨_, rfl⟩
      rw [← hV] at hbV HQ ⊢
      have HOV : Hid (OfI w V op n (.slice a l.length cap) (.slice none 0 0) []) := HO0.out.below hbV
      clear hV hbV b0 b1 b2 HO0
      have b0 := HOV.out.t0
      have b1 := HOV.out.t1
      have b2 := HOV.out.t2
      cases q with
      | true =>
        have hq : ∃ sb x, sp = some sb ∧ op = tVar ∧ ∀ w', Below V.heap.size V w' → Found w' sb d n x := by
          rcases HQ.out with ⟨-, h⟩ | ⟨h, -⟩
          · exact h
          · cases h
        obtain ⟨sb, x, hsp, hop, hfd⟩ := hq
        have HOP : Hid (op = tVar) := hop
        have HF : Hid (∀ w', Below V.heap.size V w' → Found w' sb d n x) := hfd
        obtain ⟨K, F, is, cm, sn, E, D, T, mv, fr, N, M, m, g1, g2, g3, g4, g5, g6, g7, g8, g9, g10, g11⟩ := (hfd V (Below.refl _ _)).ex
        have hlk := (g8.below (Below.refl _ _).drew).look (w := V.drew) HTX.out.2
        rw [g11, ptr_some] at hlk
        have s1 := g8.get.2.1
        have hxL := (g9.mem n x g11).1
        have HTD := utold_any g1 g2 g3 (g4.below (Below.refl _ _).drew) g5 (w := V.drew) g6 g7 hxL
        have HDN : Hid (tsub d (.mk op n l) = T x) := by rw [Hid, hop, tsub_var d rfl, g10]; exact ofM_some g11
        subst hsp
        rw [ptr_some]
        clear hfd g1 g2 g3 g4 g5 g6 g7 g8 g9 g10 g11 hop hxL
        go_wp2_with fail
        go_region_with (go_at_call 33; refine HTD.mono ?_; rintro e w5 ⟨u, rfl, hu, hb5⟩; obtain ⟨y0, y1, ya, yk, yc, rfl⟩ := isTyP_form hu; have H5 : Hid (IsTyP (fun k => V.drew.heap.size ≤ k) w5 (T x) (.agg #[.string y0, .int .i64 y1, .slice ya yk yc]) ∧ Below V.heap.size V w5) := ⟨hu, (Below.refl _ _).drew.trans hb5⟩; obtain ⟨z0, z1, z2, z3⟩ := HOV.out.z.below H5.out.2 (by have := HOV.out.size; omega); clear hu hb5)
        all_goals
          go_wp2
          refine bodyPost_ret (v := .agg #[.string y0, .int .i64 y1, .slice ya yk yc]) (by simp [results, Try.results16, go_sem, z0, z1, z2]) rfl ⟨_, rfl, ?_, ?_⟩
          · rw [HDN.out]
            refine isTyP_keep (by simp) (fun k hp hl => ⟨?_, ?_⟩) _ _ H5.out.1
            · have hz := HOV.out.size
              have hne : ¬ k = w.heap.size + 1 := by have : V.heap.size ≤ k := hp; omega
              rw [Below.heap_setCell _ _ _ _ (by simp; exact hne), Below.heap_setCell _ _ _ _ (by simp; exact hne), Below.heap_setCell _ _ _ _ (by simp; exact hne)]
            · have hz := HOV.out.size
              have : V.heap.size ≤ k := hp
              omega
          · exact below_set3 (g := w.heap.size + 1) (HOV.out.bel.trans (H5.out.2.mono HOV.out.bel.size)) (by omega) _ _ _
      | false =>
        have HD : Hid (tsub d (.mk op n l) = .mk op n (l.map (tsub d))) := by
          rcases HQ.out with ⟨h, -⟩ | ⟨-, h⟩
          · cases h
          · exact h
        clear HQ
        go_wp2_with fail
        go_loopw [5, 35] (fun kv i wr => ∃ (j : Nat), j ≤ l.length ∧ i = .int .i64 j ∧ Hid (OfI w wr op n (.slice a l.length cap) kv ((l.take j).map (tsub d)))) (fun _ i _ => l.length - (intOf i).toNat)
        case atStart => exact ⟨0, Nat.zero_le _, rfl, by rw [List.take_zero]; exact HOV⟩
        case round =>
          obtain ⟨j, hj, rfl, HR⟩ := hrel
          clear b0 b1 b2
          obtain ⟨ka, kc, hkv, hkc1, hkc2⟩ := ownTys_form HR.out.own
          obtain ⟨m, hm⟩ : ∃ m, m = ((l.take j).map (tsub d)).length := ⟨_, rfl⟩
          rw [← hm] at hkv
          by_cases hlt : j < l.length
          · obtain ⟨b, off, rfl, hb, hat⟩ := HK.out (by omega)
            obtain ⟨t, ht⟩ : ∃ t, l[j]? = some t := ⟨_, List.getElem?_eq_getElem hlt⟩
            obtain ⟨y0, y1, y2, m0, m1, m2, kn⟩ := tysAt_get l off j t hat ht
            obtain ⟨x0, x1, xa, xk, xc, hxe⟩ := isTyP_form (isTy_isP _ _ kn)
            simp only [Value.agg.injEq, Array.mk.injEq, List.cons.injEq, and_true] at hxe
            obtain ⟨rfl, rfl, rfl⟩ := hxe
            have key : ∀ o, wr.cell? ⟨b, o, none⟩ = w.cell? ⟨b, o, none⟩ := fun o => HR.out.bel.cell (p := ⟨b, o, none⟩) hb
            rw [← key] at m0 m1 m2
            have HTJ : Hid (l[j]? = some t ∧ t ∈ l) := ⟨ht, List.mem_of_getElem? ht⟩
            subst hkv
            have bA : Below wr.heap.size wr (wr.alloc (.cells #[.string x0, .int .i64 x1, .slice xa xk xc] 25)) := (Below.refl _ _).alloc (Nat.le_refl _) _
            have HCALL := HI.out t HTJ.out.2 _ _ (isTy_below (HR.out.bel.trans (bA.mono HR.out.bel.size)) _ _ kn) (HS.out.below (HR.out.bel.trans (bA.mono HR.out.bel.size)))
            have HBA : Hid (OfI w (wr.alloc (.cells #[.string x0, .int .i64 x1, .slice xa xk xc] 25)) op n (.slice (some ⟨b, off, none⟩) l.length cap) (.slice ka m kc) ((l.take j).map (tsub d))) := HR.out.below bA
            have hj0 : (0 : Int) ≤ (j : Int) := by omega
            have hjl : (j : Int) < (l.length : Int) := by omega
            have HNX : Hid ((l.take (j + 1)).map (tsub d) = (l.take j).map (tsub d) ++ [tsub d t]) := by
              have hjl' := (List.getElem?_eq_some_iff.1 ht).1
              rw [Hid, List.take_succ_eq_append_getElem hjl', List.map_append, (List.getElem?_eq_some_iff.1 ht).2]; rfl
            have hml : ((l.take j).map (tsub d)).length ≤ 1000000 := by have := teach_len HT.out; simp; omega
            have HM : Hid (m = ((l.take j).map (tsub d)).length) := hm
            clear key kn hat ht hm bA hkc1 hkc2
            have HL4 : Hid (((l.take j).map (tsub d) ++ [tsub d t]).length = j + 1) := by rw [Hid]; simp; omega
            have HRW : Hid (∀ k, some k = (Value.slice ka m kc).ownBlock → k < wr.heap.size) := fun k hk => by
              obtain ⟨cs, hcs, hown, hel⟩ := HR.out.own
              exact (World.ownsRow.lt hown k hk.symm).2
            go_wp2_with (first
              | (go_at_call 16; refine HCALL.mono ?_; rintro e w3 ⟨u3, rfl, hu3, hb3⟩; obtain ⟨z0, z1, za, zk, zc, rfl⟩ := isTyP_form hu3; have hI3 : Hid (OfI w w3 op n (.slice (some ⟨b, off, none⟩) l.length cap) (.slice ka m kc) ((l.take j).map (tsub d))) := HBA.out.below hb3; have HU3 : Hid (IsTyP (fun q => (w.heap.size + 2 ≤ q) ∧ some q ≠ (Value.slice ka m kc).ownBlock) w3 (tsub d t) (.agg #[.string z0, .int .i64 z1, .slice za zk zc])) := isTyP_wide hu3 (fun q hq _ => ⟨by have h1 : wr.heap.size + 1 ≤ q := (by simpa using hq); have h2 := HR.out.size; omega, fun e => by have h1 : wr.heap.size + 1 ≤ q := (by simpa using hq); have := HRW.out q e; omega⟩); clear hu3 hb3)
              | (at_builtin; refine wpList_app_ty (P := fun q => w.heap.size + 2 ≤ q) rfl _ _ rfl (w.heap.size + 2) (.slice ka m kc) ((l.take j).map (tsub d)) rfl hI3.out.own (tsub d t) _ _ _ HU3.out _ (by simp) rfl hml hI3.out.size ?_; intro v4 w4 o4 hb4; obtain ⟨va4, vc4, hv4, -, -⟩ := ownTys_form o4; rw [HL4.out] at hv4; subst hv4; have HS4 : Hid (OfI w w4 op n (.slice (some ⟨b, off, none⟩) l.length cap) (.slice va4 (j + 1) vc4) ((l.take j).map (tsub d) ++ [tsub d t])) := hI3.out.grew hb4 o4; clear o4 hb4))
            go_roundw
            case rel => exact ⟨j + 1, by omega, by go_num, by rw [HNX.out]; exact HS4.out⟩
            case measure => simp [intOf]; omega
          · have hje : j = l.length := by omega
            have hTA : l.take j = l := by rw [hje, List.take_length]
            rw [hTA] at HR hm
            rw [List.length_map] at hm
            subst hkv
            have HF : Hid (IsTyP (fun q => w.heap.size + 2 ≤ q) wr (.mk op n (l.map (tsub d))) (.agg #[.string (Em.str op), .int .i64 n, .slice ka m kc])) := Em8.OwnTys.is HR.out.own hkc2 (fun q hq => hq) HTX.out.1 HTX.out.2
            have b0 := HR.out.t0
            have b1 := HR.out.t1
            obtain ⟨z0, z1, z2, z3⟩ := HR.out.z
            clear hTA hm hkc1 hkc2
            go_wp2_with fail
            refine bodyPost_ret (v := .agg #[.string (Em.str op), .int .i64 n, .slice ka m kc]) (by simp [results, Try.results16, go_sem, z0, z1, z2]) rfl ⟨_, rfl, ?_, ?_⟩
            · rw [HD.out]
              refine isTyP_keep (by simp) (fun k hp hl => ⟨?_, by omega⟩) _ _ HF.out
              have hne : ¬ k = w.heap.size + 1 := by omega
              rw [Below.heap_setCell _ _ _ _ (by simp; exact hne), Below.heap_setCell _ _ _ _ (by simp; exact hne), Below.heap_setCell _ _ _ _ (by simp; exact hne)]
            · exact below_set3 (g := w.heap.size + 1) HR.out.bel (by omega) _ _ _
end Go.Proofs.Ytadhjnbhcenocaa

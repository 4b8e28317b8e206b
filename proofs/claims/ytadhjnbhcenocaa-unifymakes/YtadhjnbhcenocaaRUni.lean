/- What the document's own 'Unify' (of a Sub) makes. -/
import Derived.Test.YtadhjnbhcenocaaRSay
import Derived.Test.YtadhjnbhcenocaaMath9e
import Derived.Deep.RegionLaw
import Derived.Deep.RegionHeld
namespace Go.Proofs.Ytadhjnbhcenocaa
open Go.RowKit Go.Em8 Go.Em9
set_option linter.unusedSimpArgs false
set_option linter.unusedVariables false

/-- What Unify of two types does, from what D says on. -/
def UOk (U : List Int) (B : Nat) (Z : Nat → Prop) (sb : Nat) (N : Int) (D : Said) (a b : Ty) : Prop := ∀ (va vb : Value) (w : World) (vv tt : Value), Sub9 w B Z sb vv tt D N → (∀ k, w.heap.size ≤ k → Z k) → IsTyP (fun k => ¬ SubOf sb vv tt k) w a va → IsTyP (fun k => ¬ SubOf sb vv tt k) w b vb →
  Calls Try.prog 13 #[.pointer (some ⟨sb, 0, none⟩), va, vb] w fun e w' => Below B w w' ∧ (∀ k, k < w.heap.size → ¬ SubOf sb vv tt k → w'.heap[k]? = w.heap[k]?) ∧
    ((e = .returned (.bool false) ∧ Never D (fun t => tsub t a = tsub t b)) ∨
     (e = .returned (.bool true) ∧ ∃ v' t' D', Sub9 w' B Z sb v' t' D' N ∧ Made D D' (fun t => tsub t a = tsub t b) ∧ Din U D' ∧ (left U D' < left U D ∨ D' = D) ∧ (∀ k, SubOf sb v' t' k → SubOf sb vv tt k ∨ w.heap.size ≤ k)))
/-- Six stores into two boxes. -/
def put6 (w : World) (h : Nat) (x0 x1 x2 y0 y1 y2 : Value) : World := (((((w.setCell ⟨h, 0, none⟩ x0).setCell ⟨h, 1, none⟩ x1).setCell ⟨h, 2, none⟩ x2).setCell ⟨h + 1, 0, none⟩ y0).setCell ⟨h + 1, 1, none⟩ y1).setCell ⟨h + 1, 2, none⟩ y2

/-- Behind the first statement: both boxes hold types as they are by then, in memory of the call's own. -/
def Boxes (w : World) (A C : Ty) (X : World) : Prop := ∃ (xa ya : Option Addr) (xc yc : Nat),
  (X.cell? ⟨w.heap.size, 0, none⟩ = some (.string (Em.str A.op)) ∧ X.cell? ⟨w.heap.size, 1, none⟩ = some (.int .i64 A.n) ∧ X.cell? ⟨w.heap.size, 2, none⟩ = some (.slice xa A.kids.length xc)) ∧
  (X.cell? ⟨w.heap.size + 1, 0, none⟩ = some (.string (Em.str C.op)) ∧ X.cell? ⟨w.heap.size + 1, 1, none⟩ = some (.int .i64 C.n) ∧ X.cell? ⟨w.heap.size + 1, 2, none⟩ = some (.slice ya C.kids.length yc)) ∧
  IsTyP (fun k => w.heap.size + 2 ≤ k) X A (.agg #[.string (Em.str A.op), .int .i64 A.n, .slice xa A.kids.length xc]) ∧ IsTyP (fun k => w.heap.size + 2 ≤ k) X C (.agg #[.string (Em.str C.op), .int .i64 C.n, .slice ya C.kids.length yc]) ∧ Below w.heap.size w X ∧ w.heap.size + 2 ≤ X.heap.size
theorem isTyP_vals {P : Nat → Prop} {w : World} {A : Ty} {x0 : ByteArray} {x1 : Int} {xa : Option Addr} {xk xc : Nat} (h : IsTyP P w A (.agg #[.string x0, .int .i64 x1, .slice xa xk xc])) : x0 = Em.str A.op ∧ x1 = A.n ∧ xk = A.kids.length := by
  obtain ⟨op, n, l⟩ := A
  unfold IsTyP at h
  obtain ⟨a, cap, e, -⟩ := h
  simp only [Value.agg.injEq, Array.mk.injEq, List.cons.injEq, and_true, Value.string.injEq, Value.int.injEq, Value.slice.injEq, true_and] at e
  exact ⟨e.1, e.2.1, e.2.2.2.1⟩
theorem boxes_mk {w W w3 w4 : World} {A C : Ty} {x0 y0 : ByteArray} {x1 y1 : Int} {xa ya : Option Addr} {xk xc yk yc : Nat} {c0 c1 c2 e0 e1 e2 : Value} (hW : Below w.heap.size w W ∧ W.heap.size = w.heap.size + 2) (d3 : Below W.heap.size W w3) (h3 : IsTyP (fun k => W.heap.size ≤ k) w3 A (.agg #[.string x0, .int .i64 x1, .slice xa xk xc])) (h4 : IsTyP (fun k => w3.heap.size ≤ k) w4 C (.agg #[.string y0, .int .i64 y1, .slice ya yk yc]) ∧ Below w3.heap.size w3 w4)
    (k0 : w4.cell? ⟨w.heap.size, 0, none⟩ = some c0) (k1 : w4.cell? ⟨w.heap.size, 1, none⟩ = some c1) (k2 : w4.cell? ⟨w.heap.size, 2, none⟩ = some c2) (l0 : w4.cell? ⟨w.heap.size + 1, 0, none⟩ = some e0) (l1 : w4.cell? ⟨w.heap.size + 1, 1, none⟩ = some e1) (l2 : w4.cell? ⟨w.heap.size + 1, 2, none⟩ = some e2) :
    Boxes w A C (put6 w4 w.heap.size (.string x0) (.int .i64 x1) (.slice xa xk xc) (.string y0) (.int .i64 y1) (.slice ya yk yc)) := by
  obtain ⟨rfl, rfl, rfl⟩ := isTyP_vals h3
  obtain ⟨rfl, rfl, rfl⟩ := isTyP_vals h4.1
  have hz := d3.size
  have hz4 := h4.2.size
  have hz6 : (put6 w4 w.heap.size (.string (Em.str A.op)) (.int .i64 A.n) (.slice xa A.kids.length xc) (.string (Em.str C.op)) (.int .i64 C.n) (.slice ya C.kids.length yc)).heap.size = w4.heap.size := by unfold put6; simp
  have hk6 : ∀ k, k ≠ w.heap.size → k ≠ w.heap.size + 1 → (put6 w4 w.heap.size (.string (Em.str A.op)) (.int .i64 A.n) (.slice xa A.kids.length xc) (.string (Em.str C.op)) (.int .i64 C.n) (.slice ya C.kids.length yc)).heap[k]? = w4.heap[k]? := fun k h1 h2 => by
    unfold put6
    rw [Below.heap_setCell _ _ _ _ (by simpa using h2), Below.heap_setCell _ _ _ _ (by simpa using h2), Below.heap_setCell _ _ _ _ (by simpa using h2), Below.heap_setCell _ _ _ _ (by simpa using h1), Below.heap_setCell _ _ _ _ (by simpa using h1), Below.heap_setCell _ _ _ _ (by simpa using h1)]
  have b04 : Below w.heap.size w w4 := (hW.1.trans (d3.mono hW.1.size)).trans (h4.2.mono (by omega))
  refine ⟨xa, ya, xc, yc, ⟨?_, ?_, ?_⟩, ⟨?_, ?_, ?_⟩, ?_, ?_, ?_, by omega⟩
  · unfold put6; simp [go_sem, k0, k1, k2, l0, l1, l2]
  · unfold put6; simp [go_sem, k0, k1, k2, l0, l1, l2]
  · unfold put6; simp [go_sem, k0, k1, k2, l0, l1, l2]
  · unfold put6; simp [go_sem, k0, k1, k2, l0, l1, l2]
  · unfold put6; simp [go_sem, k0, k1, k2, l0, l1, l2]
  · unfold put6; simp [go_sem, k0, k1, k2, l0, l1, l2]
  · exact isTyP_keep (by omega) (fun k hp hl => ⟨(hk6 k (by omega) (by omega)).trans (h4.2.block k hl), by omega⟩) _ _ h3
  · exact isTyP_keep (by omega) (fun k hp hl => ⟨hk6 k (by omega) (by omega), by omega⟩) _ _ h4.1
  · unfold put6
    exact below_set3 (below_set3 b04 (Nat.le_refl _) _ _ _) (by omega) _ _ _

/-- What is to be shown at a true end. -/
theorem uok_true {U : List Int} {B : Nat} {Z : Nat → Prop} {sb : Nat} {N : Int} {D D' : Said} {a b : Ty} {w w' : World} {vv tt v' t' : Value} {e : Ending} (h0 : Below B w w') (he : e = .returned (.bool true)) (h1 : Sub9 w' B Z sb v' t' D' N) (h2 : Made D D' (fun t => tsub t a = tsub t b)) (h3 : Din U D') (h4 : left U D' < left U D ∨ D' = D) (h5 : ∀ k, SubOf sb v' t' k → SubOf sb vv tt k ∨ w.heap.size ≤ k) (h6 : ∀ k, k < w.heap.size → ¬ SubOf sb vv tt k → w'.heap[k]? = w.heap[k]?) :
    Below B w w' ∧ (∀ k, k < w.heap.size → ¬ SubOf sb vv tt k → w'.heap[k]? = w.heap[k]?) ∧ ((e = .returned (.bool false) ∧ Never D (fun t => tsub t a = tsub t b)) ∨ (e = .returned (.bool true) ∧ ∃ v' t' D', Sub9 w' B Z sb v' t' D' N ∧ Made D D' (fun t => tsub t a = tsub t b) ∧ Din U D' ∧ (left U D' < left U D ∨ D' = D) ∧ (∀ k, SubOf sb v' t' k → SubOf sb vv tt k ∨ w.heap.size ≤ k))) :=
  ⟨h0, h6, .inr ⟨he, v', t', D', h1, h2, h3, h4, h5⟩⟩
/-- A var on the left: what 'say' did is what was to be done. -/
theorem uok_say {U : List Int} {B : Nat} {Z : Nat → Prop} {sb : Nat} {N : Int} {D : Said} {a b : Ty} {w X w' : World} {vv tt : Value} {e : Ending} (hg : Em9.Good D) (hd : Din U D) (ha : teach a = true) (hb : teach b = true) (hva : Vin U a) (hvb : Vin U b) (ho : (tsub (ofD D) a).op = tVar) (hB : B ≤ w.heap.size) (hX : Below w.heap.size w X)
    (h : (tocc (tsub (ofD D) a).n (tsub (ofD D) b) ∧ e = .returned (.bool (decide ((tsub (ofD D) b).op = tVar))) ∧ Sub9 w' B Z sb vv tt D N ∧ Below X.heap.size X w') ∨
      (¬ tocc (tsub (ofD D) a).n (tsub (ofD D) b) ∧ e = .returned (.bool true) ∧ (∃ v' t', Sub9 w' B Z sb v' t' (D ++ [((tsub (ofD D) a).n, tsub (ofD D) b)]) N ∧ ∀ k, SubOf sb v' t' k → SubOf sb vv tt k ∨ X.heap.size ≤ k) ∧ Below B X w' ∧ ∀ k, k < X.heap.size → ¬ SubOf sb vv tt k → w'.heap[k]? = X.heap[k]?)) :
    Below B w w' ∧ (∀ k, k < w.heap.size → ¬ SubOf sb vv tt k → w'.heap[k]? = w.heap[k]?) ∧ ((e = .returned (.bool false) ∧ Never D (fun t => tsub t a = tsub t b)) ∨ (e = .returned (.bool true) ∧ ∃ v' t' D', Sub9 w' B Z sb v' t' D' N ∧ Made D D' (fun t => tsub t a = tsub t b) ∧ Din U D' ∧ (left U D' < left U D ∨ D' = D) ∧ (∀ k, SubOf sb v' t' k → SubOf sb vv tt k ∨ w.heap.size ≤ k))) := by
  have hx := var_form (of_teach hg ha) ho
  have hz := hX.size
  rcases h with ⟨h1, h2, h3, h4⟩ | ⟨h1, h2, ⟨v', t', h3, h4⟩, h5, h6⟩
  · have hbel : Below B w w' := (hX.mono hB).trans (h4.mono (Nat.le_trans hB hz))
    by_cases hv : (tsub (ofD D) b).op = tVar
    · rw [decide_eq_true hv] at h2
      exact uok_true hbel h2 h3 (uni_same hg hx hb h1 hv) hd (.inr rfl) (fun k hk => .inl hk) (fun k hk _ => (h4.block k (by omega)).trans (hX.block k hk))
    · rw [decide_eq_false hv] at h2
      exact ⟨hbel, fun k hk _ => (h4.block k (by omega)).trans (hX.block k hk), .inl ⟨h2, uni_within hg hx hb h1 hv⟩⟩
  · obtain ⟨g1, g2⟩ := uni_left hg hd ha hx hb hva hvb
    exact uok_true ((hX.mono hB).trans h5) h2 h3 (uni_say hg ha hx hb h1) g1 (.inl g2) (fun k hk => (h4 k hk).imp id (fun e => Nat.le_trans hz e)) (fun k hk hn => (h6 k (by omega) hn).trans (hX.block k hk))
theorem uok_flip {U : List Int} {B : Nat} {Z : Nat → Prop} {sb : Nat} {N : Int} {D : Said} {a b : Ty} {w w' : World} {vv tt : Value} {e : Ending}
    (h : Below B w w' ∧ (∀ k, k < w.heap.size → ¬ SubOf sb vv tt k → w'.heap[k]? = w.heap[k]?) ∧ ((e = .returned (.bool false) ∧ Never D (fun t => tsub t b = tsub t a)) ∨ (e = .returned (.bool true) ∧ ∃ v' t' D', Sub9 w' B Z sb v' t' D' N ∧ Made D D' (fun t => tsub t b = tsub t a) ∧ Din U D' ∧ (left U D' < left U D ∨ D' = D) ∧ (∀ k, SubOf sb v' t' k → SubOf sb vv tt k ∨ w.heap.size ≤ k)))) :
    Below B w w' ∧ (∀ k, k < w.heap.size → ¬ SubOf sb vv tt k → w'.heap[k]? = w.heap[k]?) ∧ ((e = .returned (.bool false) ∧ Never D (fun t => tsub t a = tsub t b)) ∨ (e = .returned (.bool true) ∧ ∃ v' t' D', Sub9 w' B Z sb v' t' D' N ∧ Made D D' (fun t => tsub t a = tsub t b) ∧ Din U D' ∧ (left U D' < left U D ∨ D' = D) ∧ (∀ k, SubOf sb v' t' k → SubOf sb vv tt k ∨ w.heap.size ≤ k))) := by
  obtain ⟨h0, hf, h1 | ⟨h1, v', t', D', g1, g2, g3⟩⟩ := h
  · exact ⟨h0, hf, .inl ⟨h1.1, h1.2.flip⟩⟩
  · exact ⟨h0, hf, .inr ⟨h1, v', t', D', g1, g2.flip, g3⟩⟩
theorem isTyP_txt {P : Nat → Prop} {w : World} {A : Ty} {v : Value} (h : IsTyP P w A v) : Em5.Txt A.op ∧ Em5.I64 A.n := by
  obtain ⟨op, n, l⟩ := A
  unfold IsTyP at h
  obtain ⟨a, cap, -, h1, h2, -⟩ := h
  exact ⟨h1, h2⟩

set_option maxRecDepth 100000 in
set_option maxHeartbeats 8000000 in
theorem rUni_step (U : List Int) (hU : U.length ≤ 900000) (B : Nat) (Z : Nat → Prop) (sb : Nat) (N : Int) (D : Said) (hD : Em9.Good D) (hd : Din U D) (a b : Ty) (ha : teach a = true) (hb : teach b = true) (hva : Vin U a) (hvb : Vin U b)
    (ih : ∀ (D' : Said) (x y : Ty), Em9.Good D' → Din U D' → teach x = true → teach y = true → Vin U x → Vin U y → (left U D' < left U D ∨ (D' = D ∧ (tsub (ofD D) x).size < (tsub (ofD D) a).size)) → UOk U B Z sb N D' x y) : UOk U B Z sb N D a b := by
  intro va vb w vv tt hS hZ hA hB
  have HZ : Hid (∀ k, w.heap.size ≤ k → Z k) := hZ
  clear hZ
  have HS : Hid (Sub9 w B Z sb vv tt D N) := hS
  have HTA : Hid (teach a = true ∧ teach b = true ∧ Vin U a ∧ Vin U b ∧ Em9.Good D ∧ Din U D) := ⟨ha, hb, hva, hvb, hD, hd⟩
  have HAA : Hid (IsTyP (fun k => ¬ SubOf sb vv tt k) w a va ∧ IsTyP (fun k => ¬ SubOf sb vv tt k) w b vb) := ⟨hA, hB⟩
  obtain ⟨p0, p1, pa, pk, pc, rfl⟩ := isTyP_form hA
  obtain ⟨r0, r1, ra, rk, rc, rfl⟩ := isTyP_form hB
  obtain ⟨W, hW⟩ : ∃ W, W = (w.alloc (.cells #[.string p0, .int .i64 p1, .slice pa pk pc] 25)).alloc (.cells #[.string r0, .int .i64 r1, .slice ra rk rc] 25) := ⟨_, rfl⟩
  have hbW : Below w.heap.size w W := by rw [hW]; exact ((Below.refl _ _).alloc (Nat.le_refl _) _).alloc (by simp) _
  have hWz : W.heap.size = w.heap.size + 2 := by rw [hW]; simp
  have a0 : W.cell? ⟨w.heap.size, 0, none⟩ = some (.string p0) := by rw [hW]; simp
  have a1 : W.cell? ⟨w.heap.size, 1, none⟩ = some (.int .i64 p1) := by rw [hW]; simp
  have a2 : W.cell? ⟨w.heap.size, 2, none⟩ = some (.slice pa pk pc) := by rw [hW]; simp
  have b0 : W.cell? ⟨w.heap.size + 1, 0, none⟩ = some (.string r0) := by rw [hW]; simp
  have b1 : W.cell? ⟨w.heap.size + 1, 1, none⟩ = some (.int .i64 r1) := by rw [hW]; simp
  have b2 : W.cell? ⟨w.heap.size + 1, 2, none⟩ = some (.slice ra rk rc) := by rw [hW]; simp
  have fa : ∀ o, W.frozen? ⟨w.heap.size, o, none⟩ = false := by intro o; rw [hW]; simp [go_sem]
  have fb : ∀ o, W.frozen? ⟨w.heap.size + 1, o, none⟩ = false := by intro o; rw [hW]; simp [go_sem]
  have HC : Hid (∀ w', Below W.heap.size W w' → (w'.cell? ⟨w.heap.size, 0, none⟩ = some (.string p0) ∧ w'.cell? ⟨w.heap.size, 1, none⟩ = some (.int .i64 p1) ∧ w'.cell? ⟨w.heap.size, 2, none⟩ = some (.slice pa pk pc)) ∧ (w'.cell? ⟨w.heap.size + 1, 0, none⟩ = some (.string r0) ∧ w'.cell? ⟨w.heap.size + 1, 1, none⟩ = some (.int .i64 r1) ∧ w'.cell? ⟨w.heap.size + 1, 2, none⟩ = some (.slice ra rk rc)) ∧ (∀ o, w'.frozen? ⟨w.heap.size, o, none⟩ = false) ∧ (∀ o, w'.frozen? ⟨w.heap.size + 1, o, none⟩ = false)) := fun w' hb => by
    have e1 : ∀ o, w'.cell? ⟨w.heap.size, o, none⟩ = W.cell? ⟨w.heap.size, o, none⟩ := fun o => hb.cell (p := ⟨w.heap.size, o, none⟩) (by simp only; omega)
    have e2 : ∀ o, w'.cell? ⟨w.heap.size + 1, o, none⟩ = W.cell? ⟨w.heap.size + 1, o, none⟩ := fun o => hb.cell (p := ⟨w.heap.size + 1, o, none⟩) (by simp only; omega)
    exact ⟨⟨by rw [e1]; exact a0, by rw [e1]; exact a1, by rw [e1]; exact a2⟩, ⟨by rw [e2]; exact b0, by rw [e2]; exact b1, by rw [e2]; exact b2⟩, fun o => by rw [hb.frozen (p := ⟨w.heap.size, o, none⟩) (by simp only; omega)]; exact fa o, fun o => by rw [hb.frozen (p := ⟨w.heap.size + 1, o, none⟩) (by simp only; omega)]; exact fb o⟩
  have HW : Hid (Below w.heap.size w W ∧ W.heap.size = w.heap.size + 2) := ⟨hbW, hWz⟩
  have HWE : Hid ((w.alloc (.cells #[.string p0, .int .i64 p1, .slice pa pk pc] 25)).alloc (.cells #[.string r0, .int .i64 r1, .slice ra rk rc] 25) = W) := hW.symm
  have HOA : Hid (OfOk D sb a ∧ OfOk D sb b) := ⟨rOf_any D hD sb a ha, rOf_any D hD sb b hb⟩
  have HRD : Hid (∀ w', Below W.heap.size W w' → SubR w' sb D ∧ IsTy w' a (.agg #[.string p0, .int .i64 p1, .slice pa pk pc]) ∧ IsTy w' b (.agg #[.string r0, .int .i64 r1, .slice ra rk rc])) := fun w' h => by
    have h2 := hbW.trans (h.mono hbW.size)
    exact ⟨(hS.below h2).r, isTy_below h2 _ _ (isTyP_is _ _ hA), isTy_below h2 _ _ (isTyP_is _ _ hB)⟩
  have d0 : Below W.heap.size W W.drew := (Below.refl _ _).drew
  clear hW hbW hWz hS hA hB fa fb
  go_enter Try.func13, Try.ntmps13
  go_upto_region 1 with fail
  rw [HWE.out]
  clear HWE
  go_cut [4, 5, 6] from 7 (fun s4 s5 s6 wx => s4 = .pointer (some ⟨w.heap.size, 0, none⟩) ∧ s5 = .pointer (some ⟨w.heap.size + 1, 0, none⟩) ∧ s6 = .bool false ∧ Hid (Boxes w (tsub (ofD D) a) (tsub (ofD D) b) wx))
  case first =>
    go_region_law (first
      | (go_simp; go_at_call 19; have dq := d3; clear dq; refine (HOA.out.2 _ _ (HRD.out _ d3).2.2 (HRD.out _ d3).1).mono ?_; rintro e w4 ⟨u4, rfl, hu4, hc4⟩; obtain ⟨y0, y1, ya, yk, yc, rfl⟩ := isTyP_form hu4; have d4 := d3.trans (hc4.mono d3.size); obtain ⟨⟨a04, a14, a24⟩, ⟨b04, b14, b24⟩, fa4, fb4⟩ := HC.out _ d4; have H4 : Hid (IsTyP (fun k => w3.heap.size ≤ k) w4 (tsub (ofD D) b) (.agg #[.string y0, .int .i64 y1, .slice ya yk yc]) ∧ Below w3.heap.size w3 w4) := ⟨hu4, hc4⟩; clear hu4 hc4)
      | (go_simp; go_at_call 19; refine (HOA.out.1 _ _ (HRD.out _ d0).2.1 (HRD.out _ d0).1).mono ?_; rintro e w3 ⟨u3, rfl, hu3, hc3⟩; obtain ⟨x0, x1, xa, xk, xc, rfl⟩ := isTyP_form hu3; have d3 := d0.trans (hc3.mono d0.size); obtain ⟨-, ⟨b03, b13, b23⟩, -, -⟩ := HC.out _ d3; have H3 : Hid (IsTyP (fun k => W.heap.size ≤ k) w3 (tsub (ofD D) a) (.agg #[.string x0, .int .i64 x1, .slice xa xk xc])) := hu3; clear hu3 hc3))
    all_goals
      go_wp2_with fail
      go_meet
      exact ⟨rfl, rfl, rfl, boxes_mk HW.out d3 H3.out H4.out a04 a14 a24 b04 b14 b24⟩
  case rest =>
    obtain ⟨rfl, rfl, rfl, HBX⟩ := hcut
    obtain ⟨X, hX⟩ : ∃ X, X = wc := ⟨_, rfl⟩
    rw [← hX] at HBX
    rw [← hX]
    clear hX a0 a1 a2 b0 b1 b2 d0 HC HRD HOA
    obtain ⟨A, hA⟩ : ∃ A, A = tsub (ofD D) a := ⟨_, rfl⟩
    obtain ⟨C, hC⟩ : ∃ C, C = tsub (ofD D) b := ⟨_, rfl⟩
    rw [← hA, ← hC] at HBX
    have HAE : Hid (tsub (ofD D) a = A ∧ tsub (ofD D) b = C) := ⟨hA.symm, hC.symm⟩
    clear hA hC
    obtain ⟨xa, ya, xc, yc, ⟨k0, k1, k2⟩, ⟨l0, l1, l2⟩, hA', hC', hbX, hzX⟩ := HBX.out
    have HSX : Hid (Sub9 X B Z sb vv tt D N) := HS.out.below hbX
    have HBw : Hid (B ≤ w.heap.size) := Nat.le_trans HS.out.hsb (Nat.le_of_lt HS.out.lt)
    have HBel : Hid (Below w.heap.size w X) := hbX
    have HNS : Hid (∀ k, w.heap.size ≤ k → ¬ SubOf sb vv tt k) := fun k hk h => absurd (HS.out.of_lt h).2 (by omega)
    have HPA : Hid (IsTyP (fun b => Z b ∧ ¬ SubOf sb vv tt b) X A (.agg #[.string (Em.str A.op), .int .i64 A.n, .slice xa A.kids.length xc])) := isTyP_wide hA' fun b hb _ => ⟨HZ.out b (by omega), HNS.out b (by omega)⟩
    have HPC : Hid (IsTyP (fun b => Z b ∧ ¬ SubOf sb vv tt b) X C (.agg #[.string (Em.str C.op), .int .i64 C.n, .slice ya C.kids.length yc])) := isTyP_wide hC' fun b hb _ => ⟨HZ.out b (by omega), HNS.out b (by omega)⟩
    have hDl : D.length < 1000000 := by have := len_left HTA.out.2.2.2.2.1 HTA.out.2.2.2.2.2; omega
    have HVA : Hid ((tvars A []).length ≤ 1000000 ∧ (tvars C []).length ≤ 1000000) := by
      obtain ⟨g1, g2, g3, g4, g5, g6⟩ := HTA.out
      have e1 := vars_len (g6.sub g5 g1 g3)
      have e2 := vars_len (g6.sub g5 g2 g4)
      rw [HAE.out.1] at e1
      rw [HAE.out.2] at e2
      exact ⟨by omega, by omega⟩
    obtain ⟨q1, hq1⟩ : ∃ q, q = decide (A.op = tVar) := ⟨_, rfl⟩
    obtain ⟨q2, hq2⟩ : ∃ q, q = decide (C.op = tVar) := ⟨_, rfl⟩
    have t1 : ((Em.str A.op).toList == [118, 97, 114]) = q1 := by rw [Em5.str_eq (isTyP_txt hA').1.1, hq1]; rfl
    have t2 : ((Em.str C.op).toList == [118, 97, 114]) = q2 := by rw [Em5.str_eq (isTyP_txt hC').1.1, hq2]; rfl
    have t3 := tstr_beq (isTyP_txt hA').1 (isTyP_txt hC').1
    have HI6 : Hid (Em5.I64 A.n ∧ Em5.I64 C.n) := ⟨(isTyP_txt hA').2, (isTyP_txt hC').2⟩
    have HQ : Hid (q1 = decide (A.op = tVar) ∧ q2 = decide (C.op = tVar)) := ⟨hq1, hq2⟩
    clear hA' hC' hbX hq1 hq2
    cases q1 with
    | true =>
      have HO : Hid (A.op = tVar) := by rw [Hid]; exact of_decide_eq_true HQ.out.1.symm
      clear t3
      go_wp2_with fail
      refine (rsay_any X B Z sb vv tt D N HSX.out A.n HI6.out.1 C _ HPC.out HVA.out.2 hDl).mono ?_
      intro e w' hsay
      have HE : Hid _ := hsay
      have hret : ∃ r, e = .returned (.bool r) := by rcases hsay with ⟨-, h, -⟩ | ⟨-, h, -⟩ <;> exact ⟨_, h⟩
      obtain ⟨r, rfl⟩ := hret
      clear hsay k0 k1 k2 l0 l1 l2
      go_wp2_with fail
      go_ret
      obtain ⟨g1, g2, g3, g4, g5, g6⟩ := HTA.out
      refine uok_say g5 g6 g1 g2 g3 g4 (by rw [HAE.out.1]; exact HO.out) HBw.out HBel.out ?_
      rw [HAE.out.1, HAE.out.2]
      exact HE.out
    | false =>
      cases q2 with
      | true =>
        have HO : Hid (C.op = tVar) := by rw [Hid]; exact of_decide_eq_true HQ.out.2.symm
        clear t3
        go_wp2_with fail
        refine (rsay_any X B Z sb vv tt D N HSX.out C.n HI6.out.2 A _ HPA.out HVA.out.1 hDl).mono ?_
        intro e w' hsay
        have HE : Hid _ := hsay
        have hret : ∃ r, e = .returned (.bool r) := by rcases hsay with ⟨-, h, -⟩ | ⟨-, h, -⟩ <;> exact ⟨_, h⟩
        obtain ⟨r, rfl⟩ := hret
        clear hsay k0 k1 k2 l0 l1 l2
        go_wp2_with fail
        go_ret
        obtain ⟨g1, g2, g3, g4, g5, g6⟩ := HTA.out
        refine uok_flip (uok_say g5 g6 g2 g1 g4 g3 (by rw [HAE.out.2]; exact HO.out) HBw.out HBel.out ?_)
        rw [HAE.out.1, HAE.out.2]
        exact HE.out
      | false =>
        have HO : Hid (A.op ≠ tVar ∧ C.op ≠ tVar) := ⟨of_decide_eq_false HQ.out.1.symm, of_decide_eq_false HQ.out.2.symm⟩
        have HFR : Hid (∀ k, k < w.heap.size → X.heap[k]? = w.heap[k]?) := fun k hk => HBel.out.block k hk
        have HBX2 : Hid (Below B w X) := HBel.out.mono HBw.out
        clear HQ
        obtain ⟨op, n, l⟩ := A
        obtain ⟨op', n', l'⟩ := C
        replace t1 : ((Em.str op).toList == [118, 97, 114]) = false := t1
        replace t2 : ((Em.str op').toList == [118, 97, 114]) = false := t2
        replace t3 : ((Em.str op).toList == (Em.str op').toList) = decide (op = op') := t3
        replace HO : Hid (op ≠ tVar ∧ op' ≠ tVar) := HO
        replace HPA : Hid (IsTyP (fun b => Z b ∧ ¬ SubOf sb vv tt b) X (.mk op n l) (.agg #[.string (Em.str op), .int .i64 n, .slice xa l.length xc])) := HPA
        replace HPC : Hid (IsTyP (fun b => Z b ∧ ¬ SubOf sb vv tt b) X (.mk op' n' l') (.agg #[.string (Em.str op'), .int .i64 n', .slice ya l'.length yc])) := HPC
        replace k0 : X.cell? ⟨w.heap.size, 0, none⟩ = some (.string (Em.str op)) := k0
        replace k1 : X.cell? ⟨w.heap.size, 1, none⟩ = some (.int .i64 n) := k1
        replace k2 : X.cell? ⟨w.heap.size, 2, none⟩ = some (.slice xa l.length xc) := k2
        replace l0 : X.cell? ⟨w.heap.size + 1, 0, none⟩ = some (.string (Em.str op')) := l0
        replace l1 : X.cell? ⟨w.heap.size + 1, 1, none⟩ = some (.int .i64 n') := l1
        replace l2 : X.cell? ⟨w.heap.size + 1, 2, none⟩ = some (.slice ya l'.length yc) := l2
        clear HVA HI6 HBX
        have hlx : l.length ≤ 9223372036854775807 ∧ l'.length ≤ 9223372036854775807 := by
          have g1 := HPA.out
          have g2 := HPC.out
          unfold IsTyP at g1 g2
          obtain ⟨_, _, _, _, _, e1, e2, -⟩ := g1
          obtain ⟨_, _, _, _, _, e3, e4, -⟩ := g2
          exact ⟨Nat.le_trans e1 e2, Nat.le_trans e3 e4⟩
        obtain ⟨hlx1, hlx2⟩ := hlx
        by_cases e1 : op = op'
        case neg =>
          rw [decide_eq_false e1] at t3
          have HNV : Hid (Never D (fun t => tsub t a = tsub t b)) := uni_kinds HAE.out.1 HAE.out.2 HO.out.1 HO.out.2 (.inl e1)
          clear e1
          go_wp2_with fail
          go_ret
          exact ⟨HBX2.out, fun k hk _ => HFR.out k hk, .inl ⟨rfl, HNV.out⟩⟩
        rw [decide_eq_true e1] at t3
        by_cases e2 : l.length = l'.length
        case neg =>
          have q5 : ((l.length : Int) == (l'.length : Int)) = false := by rw [beq_eq_false_iff_ne]; omega
          have q5' : ((l.length : Int) != (l'.length : Int)) = true := by rw [bne, q5]; rfl
          have HNV : Hid (Never D (fun t => tsub t a = tsub t b)) := uni_kinds HAE.out.1 HAE.out.2 HO.out.1 HO.out.2 (.inr e2)
          clear e1 e2
          go_wp2_with fail
          go_ret
          exact ⟨HBX2.out, fun k hk _ => HFR.out k hk, .inl ⟨rfl, HNV.out⟩⟩
        have q5 : ((l.length : Int) == (l'.length : Int)) = true := by rw [beq_iff_eq, e2]
        have q5' : ((l.length : Int) != (l'.length : Int)) = false := by rw [bne, q5]; rfl
        have HLL : Hid (l.length = l'.length ∧ op = op') := ⟨e2, e1⟩
        clear e1 e2
        go_wp2_with fail
        go_loopw [7] (fun i wr => ∃ (j : Nat) (Dj : Said) (vj tj : Value), j ≤ l.length ∧ i = .int .i64 j ∧ Hid (Sub9 wr B Z sb vj tj Dj N ∧ Made D Dj (kidsEq l l' j) ∧ Din U Dj ∧ (left U Dj < left U D ∨ Dj = D) ∧ (∀ k, SubOf sb vj tj k → SubOf sb vv tt k ∨ X.heap.size ≤ k) ∧ (∀ k, k < X.heap.size → ¬ SubOf sb vv tt k → wr.heap[k]? = X.heap[k]?) ∧ Below B w wr ∧ X.heap.size ≤ wr.heap.size)) (fun i _ => l.length - (intOf i).toNat)
        case atStart => exact ⟨0, D, vv, tt, Nat.zero_le _, rfl, HSX.out, uni_zero HTA.out.2.2.2.2.1, HTA.out.2.2.2.2.2, .inr rfl, fun k hk => .inl hk, fun _ _ _ => rfl, HBX2.out, Nat.le_refl _⟩
        case round =>
          obtain ⟨j, Dj, vj, tj, hj, rfl, HR⟩ := hrel
          have key : ∀ k o, k < X.heap.size → ¬ SubOf sb vv tt k → wr.cell? ⟨k, o, none⟩ = X.cell? ⟨k, o, none⟩ := fun k o h1 h2 => World.cell?_of_block (w := X) (a := ⟨k, o, none⟩) (HR.out.2.2.2.2.2.1 k h1 h2)
          rw [← key _ _ (by omega) (HNS.out _ (Nat.le_refl _))] at k2
          rw [← key _ _ (by omega) (HNS.out _ (by omega))] at l2
          clear k0 k1 l0 l1
          by_cases hlt : j < l.length
          · have hlt' : j < l'.length := by rw [← HLL.out.1]; exact hlt
            obtain ⟨x, hx⟩ : ∃ x, l[j]? = some x := ⟨_, List.getElem?_eq_getElem hlt⟩
            obtain ⟨y, hy⟩ : ∃ y, l'[j]? = some y := ⟨_, List.getElem?_eq_getElem hlt'⟩
            have gA := HPA.out
            have gC := HPC.out
            unfold IsTyP at gA gC
            obtain ⟨xa', xc', eA, -, -, -, -, gA⟩ := gA
            obtain ⟨ya', yc', eC, -, -, -, -, gC⟩ := gC
            obtain ⟨ab, aoff, ea, hab, hpab, hata⟩ := gA (by omega)
            obtain ⟨cb, coff, ec, hcb, hpcb, hatc⟩ := gC (by omega)
            simp only [Value.agg.injEq, Array.mk.injEq, List.cons.injEq, and_true, true_and, Value.slice.injEq] at eA eC
            obtain ⟨rfl, rfl⟩ := eA
            obtain ⟨rfl, rfl⟩ := eC
            subst ea ec
            obtain ⟨x0, x1, x2, m0, m1, m2, kx⟩ := tysAtP_get l aoff j x hata hx
            obtain ⟨y0, y1, y2, o0, o1, o2, ky⟩ := tysAtP_get l' coff j y hatc hy
            obtain ⟨s0, s1, sa, sk, sc, hse⟩ := isTyP_form kx
            obtain ⟨u0, u1, ua, uk, uc, hue⟩ := isTyP_form ky
            simp only [Value.agg.injEq, Array.mk.injEq, List.cons.injEq, and_true] at hse hue
            obtain ⟨rfl, rfl, rfl⟩ := hse
            obtain ⟨rfl, rfl, rfl⟩ := hue
            rw [← key _ _ hab hpab.2] at m0 m1 m2
            rw [← key _ _ hcb hpcb.2] at o0 o1 o2
            have hns : ∀ k, k < X.heap.size → ¬ SubOf sb vv tt k → ¬ SubOf sb vj tj k := fun k h1 h2 h3 => (HR.out.2.2.2.2.1 k h3).elim h2 (fun h => by omega)
            have HKX : Hid (IsTyP (fun k => ¬ SubOf sb vj tj k) wr.drew x (.agg #[.string s0, .int .i64 s1, .slice sa sk sc]) ∧ IsTyP (fun k => ¬ SubOf sb vj tj k) wr.drew y (.agg #[.string u0, .int .i64 u1, .slice ua uk uc])) :=
              ⟨isTyP_keep (w := X) (w' := wr.drew) HR.out.2.2.2.2.2.2.2 (fun k hp hl => ⟨HR.out.2.2.2.2.2.1 k hl hp.2, hns k hl hp.2⟩) _ _ kx, isTyP_keep (w := X) (w' := wr.drew) HR.out.2.2.2.2.2.2.2 (fun k hp hl => ⟨HR.out.2.2.2.2.2.1 k hl hp.2, hns k hl hp.2⟩) _ _ ky⟩
            have HXY : Hid (l[j]? = some x ∧ l'[j]? = some y) := ⟨hx, hy⟩
            have HSJ : Hid (Sub9 wr.drew B Z sb vj tj Dj N) := HR.out.1.below (Below.refl _ _).drew
            have HZJ : Hid (∀ k, wr.drew.heap.size ≤ k → Z k) := fun k hk => HZ.out k (Nat.le_trans HBel.out.size (Nat.le_trans HR.out.2.2.2.2.2.2.2 hk))
            have HIH : Hid (UOk U B Z sb N Dj x y) := by
              obtain ⟨g1, g2, g3, g4, g5, g6⟩ := HTA.out
              obtain ⟨r1, r2, r3, r4, -⟩ := HR.out
              have tA := of_teach g5 g1
              have tC := of_teach g5 g2
              have vA := g6.sub g5 g1 g3
              have vC := g6.sub g5 g2 g4
              rw [HAE.out.1] at tA vA
              rw [HAE.out.2] at tC vC
              have mx := List.mem_of_getElem? hx
              have my := List.mem_of_getElem? hy
              refine ih Dj x y r2.1 r3 (teach_kids tA x mx) (teach_kids tC y my) (fun z hz => vA z ((tocc_eq z op n l).2 (.inr ⟨x, mx, hz⟩))) (fun z hz => vC z ((tocc_eq z op' n' l').2 (.inr ⟨y, my, hz⟩))) ?_
              rcases r4 with r4 | r4
              · exact .inl r4
              · exact .inr ⟨r4, uni_smaller g5 HAE.out.1 HO.out.1 mx⟩
            have HSS : Hid (∀ w' : World, (∀ k, k < wr.drew.heap.size → ¬ SubOf sb vj tj k → w'.heap[k]? = wr.drew.heap[k]?) → w'.cell? ⟨w.heap.size, 2, none⟩ = some (.slice (some ⟨ab, aoff, none⟩) l.length xc) ∧ w'.cell? ⟨w.heap.size + 1, 2, none⟩ = some (.slice (some ⟨cb, coff, none⟩) l'.length yc) ∧ w'.cell? ⟨ab, aoff + j * 3, none⟩ = some (.string s0) ∧ w'.cell? ⟨ab, aoff + j * 3 + 1, none⟩ = some (.int .i64 s1) ∧ w'.cell? ⟨ab, aoff + j * 3 + 2, none⟩ = some (.slice sa sk sc) ∧ w'.cell? ⟨cb, coff + j * 3, none⟩ = some (.string u0) ∧ w'.cell? ⟨cb, coff + j * 3 + 1, none⟩ = some (.int .i64 u1) ∧ w'.cell? ⟨cb, coff + j * 3 + 2, none⟩ = some (.slice ua uk uc)) := fun w' h => by
              have hzr := HR.out.2.2.2.2.2.2.2
              have kk : ∀ k o, k < X.heap.size → ¬ SubOf sb vv tt k → w'.cell? ⟨k, o, none⟩ = wr.cell? ⟨k, o, none⟩ := fun k o h1 h2 => World.cell?_of_block (w := wr) (a := ⟨k, o, none⟩) (h k (Nat.lt_of_lt_of_le h1 hzr) (hns k h1 h2))
              have n1 := HNS.out _ (Nat.le_refl _)
              have n2 := HNS.out (w.heap.size + 1) (by omega)
              exact ⟨by rw [kk _ _ (by omega) n1]; exact k2, by rw [kk _ _ (by omega) n2]; exact l2, by rw [kk _ _ hab hpab.2]; exact m0, by rw [kk _ _ hab hpab.2]; exact m1, by rw [kk _ _ hab hpab.2]; exact m2, by rw [kk _ _ hcb hpcb.2]; exact o0, by rw [kk _ _ hcb hpcb.2]; exact o1, by rw [kk _ _ hcb hpcb.2]; exact o2⟩
            have hj0 : (0 : Int) ≤ (j : Int) := by omega
            have hjl : (j : Int) < (l.length : Int) := by omega
            have hjl' : (j : Int) < (l'.length : Int) := by omega
            clear gA gC hata hatc kx ky hx hy hns key m0 m1 m2 o0 o1 o2
            go_wp2_with fail
            go_region_held (fun w' => w'.cell? ⟨w.heap.size, 2, none⟩ = some (.slice (some ⟨ab, aoff, none⟩) l.length xc) ∧ w'.cell? ⟨w.heap.size + 1, 2, none⟩ = some (.slice (some ⟨cb, coff, none⟩) l'.length yc) ∧ w'.cell? ⟨ab, aoff + j * 3, none⟩ = some (.string s0) ∧ w'.cell? ⟨ab, aoff + j * 3 + 1, none⟩ = some (.int .i64 s1) ∧ w'.cell? ⟨ab, aoff + j * 3 + 2, none⟩ = some (.slice sa sk sc) ∧ w'.cell? ⟨cb, coff + j * 3, none⟩ = some (.string u0) ∧ w'.cell? ⟨cb, coff + j * 3 + 1, none⟩ = some (.int .i64 u1) ∧ w'.cell? ⟨cb, coff + j * 3 + 2, none⟩ = some (.slice ua uk uc))
              (with_reducible (first | exact HSS.out _ hfr5 | exact HSS.out _ (fun _ _ _ => rfl)))
              (first | (go_at_call 13; refine (HIH.out _ _ _ vj tj HSJ.out HZJ.out HKX.out.1 HKX.out.2).mono ?_; intro e w5 h5; have hret : ∃ r, e = .returned (.bool r) := (by rcases h5.2.2 with ⟨h, -⟩ | ⟨h, -⟩ <;> exact ⟨_, h⟩); obtain ⟨r, rfl⟩ := hret; have H5 : Hid _ := h5; have hfr5 := h5.2.1; clear h5))
            all_goals
              cases r with
              | false =>
                have HNV : Hid (Never D (fun t => tsub t a = tsub t b)) := by
                  obtain ⟨g1, g2, g3, g4, g5, g6⟩ := HTA.out
                  have hAE2 := HAE.out.2
                  rw [← HLL.out.2] at hAE2
                  rcases H5.out.2.2 with ⟨-, h⟩ | ⟨h, -⟩
                  · exact uni_never g5 g1 g2 HAE.out.1 hAE2 HO.out.1 HLL.out.1 HXY.out.1 HXY.out.2 HR.out.2.1 h
                  · cases h
                go_wp2_with fail
                go_ret
                obtain ⟨r1, r2, r3, r4, r5, r6, r7, r8⟩ := HR.out
                have hz := HBel.out.size
                refine ⟨r7.drew.trans H5.out.1, fun k hk hn => ?_, .inl ⟨rfl, HNV.out⟩⟩
                have hkX : k < X.heap.size := by omega
                rw [hfr5 k (Nat.lt_of_lt_of_le hkX r8) (fun h => (r5 k h).elim hn (fun h => by omega))]
                exact (r6 k hkX hn).trans (HFR.out k hk)
              | true =>
                have HN5 : Hid (∃ v' t' D', Sub9 w5 B Z sb v' t' D' N ∧ Made D D' (kidsEq l l' (j + 1)) ∧ Din U D' ∧ (left U D' < left U D ∨ D' = D) ∧ (∀ k, SubOf sb v' t' k → SubOf sb vv tt k ∨ X.heap.size ≤ k) ∧ (∀ k, k < X.heap.size → ¬ SubOf sb vv tt k → w5.heap[k]? = X.heap[k]?) ∧ Below B w w5 ∧ X.heap.size ≤ w5.heap.size) := by
                  obtain ⟨r1, r2, r3, r4, r5, r6, r7, r8⟩ := HR.out
                  obtain ⟨h1, h2, h3⟩ := H5.out
                  rcases h3 with ⟨h, -⟩ | ⟨-, v', t', D', g1, g2, g3, g4, g5⟩
                  · cases h
                  · refine ⟨v', t', D', g1, uni_step HXY.out.1 HXY.out.2 r2 g2, g3, ?_, fun k hk => ?_, fun k hk hn => ?_, r7.drew.trans h1, Nat.le_trans r8 h1.size⟩
                    · rcases g4 with g4 | rfl
                      · rcases r4 with r4 | rfl
                        · exact .inl (Nat.lt_trans g4 r4)
                        · exact .inl g4
                      · exact r4
                    · rcases g5 k hk with h | h
                      · exact r5 k h
                      · exact .inr (Nat.le_trans r8 h)
                    · rw [h2 k (Nat.lt_of_lt_of_le hk r8) (fun h => (r5 k h).elim hn (fun h => by omega))]
                      exact r6 k hk hn
                clear hfr5
                go_wp2
                go_roundw
                case rel =>
                  obtain ⟨v', t', D', hh⟩ := HN5.out
                  exact ⟨j + 1, D', v', t', by omega, by go_num, hh⟩
                case measure => simp [intOf]; omega
          · have hje : j = l.length := by omega
            subst hje
            go_wp2_with fail
            go_ret
            obtain ⟨g1, g2, g3, g4, g5, g6⟩ := HTA.out
            obtain ⟨r1, r2, r3, r4, r5, r6, r7, r8⟩ := HR.out
            have hz := HBel.out.size
            have hAE1 := HAE.out.1
            have hAE2 := HAE.out.2
            rw [← HLL.out.2] at hAE2
            exact uok_true r7 rfl r1 (uni_all g5 g1 g2 hAE1 hAE2 HO.out.1 HLL.out.1 r2) r3 r4 (fun k hk => (r5 k hk).imp id (fun e => Nat.le_trans hz e)) (fun k hk hn => (r6 k (by omega) hn).trans (HFR.out k hk))

theorem rUni_rank (U : List Int) (hU : U.length ≤ 900000) (B : Nat) (Z : Nat → Prop) (sb : Nat) (N : Int) : ∀ (p q : Nat) (D : Said) (a b : Ty), left U D = p → (tsub (ofD D) a).size = q → Em9.Good D → Din U D → teach a = true → teach b = true → Vin U a → Vin U b → UOk U B Z sb N D a b := by
  intro p
  induction p using Nat.strongRecOn with
  | ind p ihp =>
    intro q
    induction q using Nat.strongRecOn with
    | ind q ihq =>
      intro D a b hp hq hg hd ha hb hva hvb
      refine rUni_step U hU B Z sb N D hg hd a b ha hb hva hvb fun D' x y hg' hd' hx hy hvx hvy hm => ?_
      rcases hm with hm | ⟨rfl, hm⟩
      · exact ihp (left U D') (by omega) _ D' x y rfl rfl hg' hd' hx hy hvx hvy
      · exact ihq _ (by omega) D' x y hp rfl hg' hd' hx hy hvx hvy
/-- Unify, from whatever was said on. -/
theorem rUnify_any (U : List Int) (hU : U.length ≤ 900000) (B : Nat) (Z : Nat → Prop) (sb : Nat) (N : Int) (D : Said) (a b : Ty) (hg : Em9.Good D) (hd : Din U D) (ha : teach a = true) (hb : teach b = true) (hva : Vin U a) (hvb : Vin U b) : UOk U B Z sb N D a b := rUni_rank U hU B Z sb N _ _ D a b rfl rfl hg hd ha hb hva hvb
end Go.Proofs.Ytadhjnbhcenocaa

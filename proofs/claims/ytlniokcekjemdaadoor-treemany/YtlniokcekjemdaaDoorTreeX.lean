/- What (*scope).walk does. -/
import Derived.Test.YtlniokcekjemdaaDoorTreeM
import Derived.Test.YtlniokcekjemdaaDoorNdV
import Derived.Deep.QuietTactic
import Derived.BigQuiet
import Derived.Deep.RegionHeld
import Derived.Deep.DeepCutAuto
import Derived.Deep.CutBlock
namespace Go.Proofs.YtlniokcekjemdaaDoor
open Go.RowKit
set_option linter.unusedSimpArgs false

/-- The cells of a node in the block g. -/
structure Node6 (w : World) (g : Nat) (c0 c1 c2 c3 c4 c5 : Value) : Prop where
  c0 : w.cell? ⟨g, 0, none⟩ = some c0
  c1 : w.cell? ⟨g, 1, none⟩ = some c1
  c2 : w.cell? ⟨g, 2, none⟩ = some c2
  c3 : w.cell? ⟨g, 3, none⟩ = some c3
  c4 : w.cell? ⟨g, 4, none⟩ = some c4
  c5 : w.cell? ⟨g, 5, none⟩ = some c5
theorem Node6.lt {w : World} {g : Nat} {c0 c1 c2 c3 c4 c5 : Value} (h : Node6 w g c0 c1 c2 c3 c4 c5) : g < w.heap.size := Em.cell_lt h.c0
theorem Node6.bes {w w' : World} {g mb mf : Nat} {c0 c1 c2 c3 c4 c5 : Value} (h : Node6 w g c0 c1 c2 c3 c4 c5) (hb : Bes2 mb mf w w') (h1 : g ≠ mb) (h2 : g ≠ mf) : Node6 w' g c0 c1 c2 c3 c4 c5 := by
  have key : ∀ o, w'.cell? ⟨g, o, none⟩ = w.cell? ⟨g, o, none⟩ := fun o => hb.cell (p := ⟨g, o, none⟩) h.lt h1 h2
  exact ⟨by rw [key]; exact h.c0, by rw [key]; exact h.c1, by rw [key]; exact h.c2, by rw [key]; exact h.c3, by rw [key]; exact h.c4, by rw [key]; exact h.c5⟩
theorem Node6.made (w : World) (c0 c1 c2 c3 c4 c5 : Value) (t : TypeId) : Node6 (w.alloc (.cells #[c0, c1, c2, c3, c4, c5] t)) w.heap.size c0 c1 c2 c3 c4 c5 :=
  ⟨by simp, by simp, by simp, by simp, by simp, by simp⟩
theorem Scope.drewN {w : World} {sb mb mf : Nat} {C : List Int → Int} {F : List (List Int)} {n : Nat} (h : Scope w sb mb mf C F n) (q : Nat) : Scope (w.drewN q) sb mb mf C F n := h.below (Em.below_drewN (Below.refl _ _) q)

set_option maxRecDepth 100000 in
set_option maxHeartbeats 4000000 in
theorem twalk_any (T : Em5.Nd) : ∀ (v : Value) (w0 w : World) (sb mb mf : Nat) (bound F : List (List Int)) (n : Nat), Em5.IsNd w0 T v → Below w0.heap.size w0 w → Scope w sb mb mf (fun x => (bound.count x : Int)) F n → w0.heap.size ≤ mb → w0.heap.size ≤ mf →
    bound.length + 2 * T.size ≤ 100000000 → n + 5 * T.size ≤ 100000000000 →
    Calls Tryd.prog 23 #[.pointer (some ⟨sb, 0, none⟩), v] w fun e w' => e = .returned (.tuple #[]) ∧ Scope w' sb mb mf (fun x => (bound.count x : Int)) (F ++ Em5.freeS T bound) (n + (5 * T.size - 4)) ∧ Bes2 mb mf w w' := by
  induction T using Em5.Nd.ind with
  | h op nm ar nn p l ih =>
    intro v w0 w sb mb mf bound F n hv0 hbw hs hmb hmf hbd hnn
    have hv := Em5.isNd_below hbw _ _ hv0
    have HV : Hid (∀ w', Below w0.heap.size w0 w' → Em5.IsNd w' (.mk op nm ar nn p l) v) := fun w' h => Em5.isNd_below h _ _ hv0
    unfold Em5.IsNd at hv0
    obtain ⟨a, cap, rfl, t1, t2, t3, -, -, hc1, hc2, hk⟩ := hv0
    have HI : Hid (∀ t ∈ l, ∀ (v : Value) (w0 w : World) (sb mb mf : Nat) (bound F : List (List Int)) (n : Nat), Em5.IsNd w0 t v → Below w0.heap.size w0 w → Scope w sb mb mf (fun x => (bound.count x : Int)) F n → w0.heap.size ≤ mb → w0.heap.size ≤ mf →
      bound.length + 2 * t.size ≤ 100000000 → n + 5 * t.size ≤ 100000000000 →
      Calls Tryd.prog 23 #[.pointer (some ⟨sb, 0, none⟩), v] w fun e w' => e = .returned (.tuple #[]) ∧ Scope w' sb mb mf (fun x => (bound.count x : Int)) (F ++ Em5.freeS t bound) (n + (5 * t.size - 4)) ∧ Bes2 mb mf w w') := ih
    have HK : Hid (0 < l.length → ∃ b off, a = some ⟨b, off, none⟩ ∧ b < w0.heap.size ∧ Em5.KidsAt w0 b off l) := hk
    have HT : Hid (Em5.Txt nm ∧ Em5.Txt ar) := ⟨t2, t3⟩
    have HSZ : Hid (bound.length + 2 * (Em5.sizes l + 1) ≤ 100000000 ∧ n + 5 * (Em5.sizes l + 1) ≤ 100000000000) := by
      rw [Em5.Nd.size] at hbd hnn; exact ⟨hbd, hnn⟩
    have HB0 : Hid (Below w0.heap.size w0 w ∧ w0.heap.size ≤ mb ∧ w0.heap.size ≤ mf) := ⟨hbw, hmb, hmf⟩
    obtain ⟨b0, hb0⟩ : ∃ b0, b0 = decide (op = Em5.oVar) := ⟨_, rfl⟩
    have hq : ((Em.str op).toList == [118, 97, 114]) = b0 := by rw [Em5.str_eq t1.1, hb0]; rfl
    obtain ⟨b1, hb1⟩ : ∃ b1, b1 = decide (nm ∉ bound) := ⟨_, rfl⟩
    obtain ⟨c, hc⟩ : ∃ c : Nat, c = bound.count nm := ⟨_, rfl⟩
    have hcb : ((c : Int) == 0) = b1 := by
      rw [hb1, hc, Bool.eq_iff_iff, beq_iff_eq, decide_eq_true_iff, ← List.count_eq_zero]; omega
    have hcl : c ≤ 100000000 := by rw [hc]; have := List.count_le_length (a := nm) (l := bound); omega
    have HFR : Hid (Em5.freeS (.mk op nm ar nn p l) bound = (if (b0 && b1) = true then [nm] else []) ++ Em5.freeSs op nm ar 0 l bound) := by
      rw [Hid, Em5.freeS, hb0, hb1]
      congr 1
      simp
    obtain ⟨W, hW⟩ : ∃ W, W = w.alloc (.cells #[.string (Em.str op), .string (Em.str nm), .string (Em.str ar), .int .i64 nn, .int .i64 p, .slice a l.length cap] 24) := ⟨_, rfl⟩
    have hbW : Below w.heap.size w W := by rw [hW]; exact (Below.refl _ _).alloc (Nat.le_refl _) _
    have h6 : Node6 W w.heap.size (.string (Em.str op)) (.string (Em.str nm)) (.string (Em.str ar)) (.int .i64 nn) (.int .i64 p) (.slice a l.length cap) := by rw [hW]; exact Node6.made _ _ _ _ _ _ _ _
    have hsW := hs.below hbW
    have hne1 : w.heap.size ≠ mb := by have := hs.lt; omega
    have hne2 : w.heap.size ≠ mf := by have := hs.lt; omega
    have HNE : Hid (w.heap.size ≠ mb ∧ w.heap.size ≠ mf ∧ mb < w.heap.size ∧ mf < w.heap.size ∧ sb < w.heap.size) := ⟨hne1, hne2, hs.lt.2.1, hs.lt.2.2, hs.lt.1⟩
    have k0 := hsW.c0
    have k1 := hsW.c1
    have q0 := h6.c0
    have q1 := h6.c1
    have hlook : ∀ q, Sem.run Tryd.prog (Instr.lookup 35 (.map (some mb)) (.string (Em.str nm)) false) (W.drewN q) = .ok (.int .i64 (c : Int)) (W.drewN q) := fun q => by
      rw [hc]; exact (hsW.drewN q).look t2
    have HSW : Hid (Scope W sb mb mf (fun x => (bound.count x : Int)) F n ∧ Node6 W w.heap.size (.string (Em.str op)) (.string (Em.str nm)) (.string (Em.str ar)) (.int .i64 nn) (.int .i64 p) (.slice a l.length cap) ∧ Below w.heap.size w W) := ⟨hsW, h6, hbW⟩
    clear ih hk t1 t2 t3 hv hs hbw hmb hmf hbd hnn hb0 hb1 hc h6 hsW hbW hne1 hne2
    go_enter Tryd.func23, Tryd.ntmps23
    go_upto_region 1 with fail
    rw [← hW]
    clear hW
    go_cut [19] from 7 (fun cv wx => cv = .bool (b0 && b1) ∧ ∃ q, wx = W.drewN q)
    case first =>
      cases b0 with
      | false =>
        go_quiet (fail)
        go_wp2_with fail
        go_meet
        exact ⟨rfl, _, rfl⟩
      | true =>
        go_quiet (fail)
        go_wp2_with fail
        go_meet
        exact ⟨rfl, _, rfl⟩
    case rest =>
      obtain ⟨rfl, q, rfl⟩ := hcut
      clear hlook hcb hcl hq k0 q0
      have hWq : Below w.heap.size w (W.drewN q) := Em.below_drewN HSW.out.2.2 q
      have hsq := HSW.out.1.drewN q
      have h6q : Node6 (W.drewN q) w.heap.size (.string (Em.str op)) (.string (Em.str nm)) (.string (Em.str ar)) (.int .i64 nn) (.int .i64 p) (.slice a l.length cap) := HSW.out.2.1.bes (mb := mb) (mf := mf) (Bes2.of (Em.below_drewN (Below.refl _ _) q)) HNE.out.1 HNE.out.2.1
      obtain ⟨X, hX⟩ : ∃ X, X = W.drewN q := ⟨_, rfl⟩
      rw [← hX] at hWq hsq h6q
      rw [← hX]
      have HX : Hid (Scope X sb mb mf (fun x => (bound.count x : Int)) F n ∧ Node6 X w.heap.size (.string (Em.str op)) (.string (Em.str nm)) (.string (Em.str ar)) (.int .i64 nn) (.int .i64 p) (.slice a l.length cap) ∧ Below w.heap.size w X) := ⟨hsq, h6q, hWq⟩
      clear hX k1 q1 HSW hWq hsq h6q
      go_upto_if 19 with fail
      go_cut [3] from 7 (fun s wx => s = .pointer (some ⟨w.heap.size, 0, none⟩) ∧ Hid (Scope wx sb mb mf (fun x => (bound.count x : Int)) (F ++ (if (b0 && b1) = true then [nm] else [])) (n + 1) ∧ Node6 wx w.heap.size (.string (Em.str op)) (.string (Em.str nm)) (.string (Em.str ar)) (.int .i64 nn) (.int .i64 p) (.slice a l.length cap) ∧ Bes2 mb mf w wx))
      case first =>
        cases hA : (b0 && b1) with
        | false =>
          go_wp2_with fail
          go_meet
          refine ⟨rfl, ?_, HX.out.2.1, Bes2.of HX.out.2.2⟩
          rw [hA, if_neg (by simp), List.append_nil]
          exact HX.out.1.mono (Nat.le_succ n)
        | true =>
          obtain ⟨k0, k1⟩ : X.cell? ⟨sb, 0, none⟩ = some (.map (some mb)) ∧ X.cell? ⟨sb, 1, none⟩ = some (.map (some mf)) := ⟨HX.out.1.c0, HX.out.1.c1⟩
          have q1 := HX.out.2.1.c1
          obtain ⟨w1, hrun, hsc, hgr⟩ := (HX.out.1.below (Below.refl _ _).drew).setF HT.out.1 (by have := HSZ.out.2; omega)
          have HJ : Hid (Scope w1 sb mb mf (fun x => (bound.count x : Int)) (F ++ [nm]) (n + 1) ∧ Node6 w1 w.heap.size (.string (Em.str op)) (.string (Em.str nm)) (.string (Em.str ar)) (.int .i64 nn) (.int .i64 p) (.slice a l.length cap) ∧ Bes2 mb mf w w1) := by
            have hb2 : Bes2 mb mf X w1 := (Bes2.of (Below.refl _ _).drew).grown2 hgr
            exact ⟨hsc, HX.out.2.1.bes hb2 HNE.out.1 HNE.out.2.1, (Bes2.of HX.out.2.2).trans hb2⟩
          clear hsc hgr
          go_wp2_with fail
          go_region_held (fun w' => w'.cell? ⟨sb, 1, none⟩ = some (.map (some mf)) ∧ w'.cell? ⟨w.heap.size, 1, none⟩ = some (.string (Em.str nm))) (first | exact ⟨k1, q1⟩ | exact ⟨HJ.out.1.c1, HJ.out.2.1.c1⟩) (fail)
          go_wp2_with fail
          go_meet
          exact ⟨rfl, by rw [hA, if_pos rfl]; exact HJ⟩
      case rest =>
        obtain ⟨rfl, HC⟩ := hcut
        obtain ⟨G, hG⟩ : ∃ G, G = F ++ (if (b0 && b1) = true then [nm] else []) := ⟨_, rfl⟩
        rw [← hG] at HC
        have HFG : Hid (F ++ Em5.freeS (.mk op nm ar nn p l) bound = G ++ Em5.freeSs op nm ar 0 l bound) := by
          rw [Hid, HFR.out, hG, List.append_assoc]
        clear hG HX HFR
        have q5 := HC.out.2.1.c5
        go_wp2
        go_loopw [30] (fun i wr => ∃ j : Nat, j ≤ l.length ∧ i = .int .i64 j ∧ Hid (Scope wr sb mb mf (fun x => (bound.count x : Int)) (G ++ Em5.freeSs op nm ar 0 (l.take j) bound) (n + 1 + 5 * Em5.sizes (l.take j)) ∧ Node6 wr w.heap.size (.string (Em.str op)) (.string (Em.str nm)) (.string (Em.str ar)) (.int .i64 nn) (.int .i64 p) (.slice a l.length cap) ∧ Bes2 mb mf w wr)) (fun i _ => l.length - (intOf i).toNat)
        case atStart => exact ⟨0, Nat.zero_le _, rfl, by simpa [Em5.freeSs, Em5.sizes] using HC⟩
        case round =>
          clear q5 HC
          obtain ⟨j, hj, rfl, HR⟩ := hrel
          by_cases hlt : j < l.length
          · obtain ⟨b, off, rfl, hb, hat⟩ := HK.out (by omega)
            obtain ⟨t, ht⟩ : ∃ t, l[j]? = some t := ⟨_, List.getElem?_eq_getElem hlt⟩
            obtain ⟨a', cap', k0, k1, k2, k3, k4, k5, kn⟩ := Em5.kid_get hat ht
            have hbr : Below w0.heap.size w0 wr := HB0.out.1.trans (HR.out.2.2.below HB0.out.2.1 HB0.out.2.2 HB0.out.1.size)
            have key : ∀ o, wr.cell? ⟨b, o, none⟩ = w0.cell? ⟨b, o, none⟩ := fun o => hbr.cell (p := ⟨b, o, none⟩) hb
            rw [← key] at k0 k1 k2 k3 k4 k5
            obtain ⟨W1, hW1⟩ : ∃ W1, W1 = wr.alloc (.cells #[.string (Em.str t.op), .string (Em.str t.nm), .string (Em.str t.ar), .int .i64 t.n, .int .i64 t.p, .slice a' t.kids.length cap'] 24) := ⟨_, rfl⟩
            have hb1 : Below wr.heap.size wr W1 := by rw [hW1]; exact (Below.refl _ _).alloc (Nat.le_refl _) _
            have h61 : Node6 W1 wr.heap.size (.string (Em.str t.op)) (.string (Em.str t.nm)) (.string (Em.str t.ar)) (.int .i64 t.n) (.int .i64 t.p) (.slice a' t.kids.length cap') := by rw [hW1]; exact Node6.made _ _ _ _ _ _ _ _
            have h60 := HR.out.2.1.bes (mb := mb) (mf := mf) (Bes2.of hb1) HNE.out.1 HNE.out.2.1
            have hs1 := HR.out.1.below hb1
            have hbe1 : Bes2 mb mf w W1 := HR.out.2.2.trans (Bes2.of hb1)
            have hw0 : Below w0.heap.size w0 W1 := hbr.trans (hb1.mono hbr.size)
            have HNE2 : Hid (wr.heap.size ≠ mb ∧ wr.heap.size ≠ mf) := by
              have h1 := HNE.out
              have h2 := HR.out.2.2.size
              exact ⟨by omega, by omega⟩
            have H1 : Hid (Scope W1 sb mb mf (fun x => (bound.count x : Int)) (G ++ Em5.freeSs op nm ar 0 (l.take j) bound) (n + 1 + 5 * Em5.sizes (l.take j)) ∧ Node6 W1 wr.heap.size (.string (Em.str t.op)) (.string (Em.str t.nm)) (.string (Em.str t.ar)) (.int .i64 t.n) (.int .i64 t.p) (.slice a' t.kids.length cap') ∧ Bes2 mb mf w W1 ∧ Below w0.heap.size w0 W1 ∧ Node6 W1 w.heap.size (.string (Em.str op)) (.string (Em.str nm)) (.string (Em.str ar)) (.int .i64 nn) (.int .i64 p) (.slice (some ⟨b, off, none⟩) l.length cap)) := ⟨hs1, h61, hbe1, hw0, h60⟩
            have HN : Hid (Em5.IsNd w0 t (.agg #[.string (Em.str t.op), .string (Em.str t.nm), .string (Em.str t.ar), .int .i64 t.n, .int .i64 t.p, .slice a' t.kids.length cap'])) := kn
            have HT2 : Hid (l[j]? = some t) := ht
            have hjI : (j : Int) < (l.length : Int) := by omega
            have p0 := h60.c0
            have p1 := h60.c1
            have p2 := h60.c2
            have p3 := h60.c3
            have p4 := h60.c4
            have p5 := h60.c5
            have HW1 : Hid (wr.alloc (.cells #[.string (Em.str t.op), .string (Em.str t.nm), .string (Em.str t.ar), .int .i64 t.n, .int .i64 t.p, .slice a' t.kids.length cap'] 24) = W1) := hW1.symm
            have HSZ2 : Hid (Em5.sizes (l.take (j + 1)) = Em5.sizes (l.take j) + t.size ∧ Em5.sizes (l.take (j + 1)) ≤ Em5.sizes l ∧ 1 ≤ t.size) := ⟨Em5.sizes_take l j t ht, Em5.sizes_take_le l (j + 1), Em5.size_pos t⟩
            clear key kn ht hat hbr hb1 h61 h60 hs1 hbe1 hw0 hW1
            go_upto_region 6 with fail
            rw [HW1.out]
            clear HW1 k0 k1 k2 k3 k4 k5
            go_wp2_with fail
            refine (tbinds_any (.mk op nm ar nn p l) _ j _ (HV.out _ H1.out.2.2.2.1)).mono ?_
            rintro e w2 ⟨u, rfl, hown, hb2⟩
            simp only [Em5.Nd.op, Em5.Nd.nm, Em5.Nd.ar] at hown
            clear p0 p1 p2 p3 p4 p5
            obtain ⟨names, hnames⟩ : ∃ N, N = Em5.bindsT op nm ar j := ⟨_, rfl⟩
            have HNM : Hid (Em5.bindsT op nm ar j = names) := hnames.symm
            rw [← hnames] at hown
            have hnl : names.length ≤ 2 := by rw [hnames]; exact Em5.bindsT_len _ _ _ _
            have hnt : ∀ x ∈ names, Em5.Txt x := by rw [hnames]; exact Em5.bindsT_mem HT.out.1 HT.out.2
            have his : IsStrs w2 u names := hown.is hnt
            obtain ⟨ua, uc, rfl⟩ := hown.form
            have H2 : Hid (Scope w2 sb mb mf (fun x => (bound.count x : Int)) (G ++ Em5.freeSs op nm ar 0 (l.take j) bound) (n + 1 + 5 * Em5.sizes (l.take j)) ∧ Node6 w2 wr.heap.size (.string (Em.str t.op)) (.string (Em.str t.nm)) (.string (Em.str t.ar)) (.int .i64 t.n) (.int .i64 t.p) (.slice a' t.kids.length cap') ∧ Bes2 mb mf w w2 ∧ Below w0.heap.size w0 w2 ∧ Node6 w2 w.heap.size (.string (Em.str op)) (.string (Em.str nm)) (.string (Em.str ar)) (.int .i64 nn) (.int .i64 p) (.slice (some ⟨b, off, none⟩) l.length cap) ∧ IsStrs w2 (.slice ua names.length uc) names) := by
              obtain ⟨z1, z2, z3, z4, z5⟩ := H1.out
              exact ⟨z1.below hb2, z2.bes (mb := mb) (mf := mf) (Bes2.of hb2) HNE2.out.1 HNE2.out.2, z3.trans (Bes2.of hb2), z4.trans (hb2.mono z4.size), z5.bes (mb := mb) (mf := mf) (Bes2.of hb2) HNE.out.1 HNE.out.2.1, his⟩
            clear hown hb2 his hnt hnames H1
            go_wp2_with fail
            refine (tshift_any 1 (.inl rfl) names _ _ sb mb mf _ _ _ H2.out.1 H2.out.2.2.2.2.2 hnl (fun x => by have h1 := List.count_le_length (a := x) (l := bound); have h2 := HSZ.out.1; omega) (by have h1 := HSZ.out.2; have h2 := HSZ2.out; omega)).mono ?_
            rintro e w3 ⟨rfl, hs3, hb3⟩
            have H3 : Hid (Scope w3 sb mb mf (fun x => ((bound ++ names).count x : Int)) (G ++ Em5.freeSs op nm ar 0 (l.take j) bound) (n + 1 + 5 * Em5.sizes (l.take j) + 2) ∧ Node6 w3 wr.heap.size (.string (Em.str t.op)) (.string (Em.str t.nm)) (.string (Em.str t.ar)) (.int .i64 t.n) (.int .i64 t.p) (.slice a' t.kids.length cap') ∧ Bes2 mb mf w w3 ∧ Below w0.heap.size w0 w3 ∧ Node6 w3 w.heap.size (.string (Em.str op)) (.string (Em.str nm)) (.string (Em.str ar)) (.int .i64 nn) (.int .i64 p) (.slice (some ⟨b, off, none⟩) l.length cap) ∧ IsStrs w3 (.slice ua names.length uc) names) := by
              obtain ⟨z1, z2, z3, z4, z5, z6⟩ := H2.out
              refine ⟨(hs3.mono (by omega)).congr (fun x => by rw [List.count_append]; omega), z2.bes hb3 HNE2.out.1 HNE2.out.2, z3.trans hb3, z4.trans (hb3.below HB0.out.2.1 HB0.out.2.2 z4.size), z5.bes hb3 HNE.out.1 HNE.out.2.1, strs_bes z6 hb3 z1.bes.1 z1.bes.2⟩
            clear hs3 hb3 H2
            obtain ⟨y0, y1, y2, y3, y4, y5⟩ := H3.out.2.1
            go_wp2_with fail
            refine (HI.out t (List.mem_of_getElem? HT2.out) _ w0 _ sb mb mf (bound ++ names) _ _ HN.out H3.out.2.2.2.1 H3.out.1 HB0.out.2.1 HB0.out.2.2 (by have h1 := HSZ.out.1; have h2 := HSZ2.out; rw [List.length_append]; omega) (by have h1 := HSZ.out.2; have h2 := HSZ2.out; omega)).mono ?_
            rintro e w4 ⟨rfl, hs4, hb4⟩
            have H4 : Hid (Scope w4 sb mb mf (fun x => ((bound ++ names).count x : Int)) (G ++ Em5.freeSs op nm ar 0 (l.take (j + 1)) bound) (n + 1 + 5 * Em5.sizes (l.take j) + 2 + (5 * t.size - 4)) ∧ Bes2 mb mf w w4 ∧ Node6 w4 w.heap.size (.string (Em.str op)) (.string (Em.str nm)) (.string (Em.str ar)) (.int .i64 nn) (.int .i64 p) (.slice (some ⟨b, off, none⟩) l.length cap) ∧ IsStrs w4 (.slice ua names.length uc) names) := by
              obtain ⟨z1, z2, z3, z4, z5, z6⟩ := H3.out
              refine ⟨?_, z3.trans hb4, z5.bes hb4 HNE.out.1 HNE.out.2.1, strs_bes z6 hb4 z1.bes.1 z1.bes.2⟩
              rw [Em5.freeSs_take op nm ar bound l 0 j t HT2.out, Nat.zero_add, HNM.out, ← List.append_assoc]
              exact hs4
            clear hs4 hb4 H3 y0 y1 y2 y3 y4 y5
            go_wp2_with fail
            refine (tshift_any (-1) (.inr rfl) names _ _ sb mb mf _ _ _ H4.out.1 H4.out.2.2.2 hnl (fun x => by have h1 := List.count_le_length (a := x) (l := bound ++ names); have h2 := HSZ.out.1; rw [List.length_append] at h1; omega) (by have h1 := HSZ.out.2; have h2 := HSZ2.out; omega)).mono ?_
            rintro e w5 ⟨rfl, hs5, hb5⟩
            have H5 : Hid (Scope w5 sb mb mf (fun x => (bound.count x : Int)) (G ++ Em5.freeSs op nm ar 0 (l.take (j + 1)) bound) (n + 1 + 5 * Em5.sizes (l.take (j + 1))) ∧ Node6 w5 w.heap.size (.string (Em.str op)) (.string (Em.str nm)) (.string (Em.str ar)) (.int .i64 nn) (.int .i64 p) (.slice (some ⟨b, off, none⟩) l.length cap) ∧ Bes2 mb mf w w5) := by
              obtain ⟨z1, z2, z3, z4⟩ := H4.out
              have h2 := HSZ2.out
              refine ⟨(hs5.mono (by omega)).congr (fun x => by rw [List.count_append]; omega), z3.bes hb5 HNE.out.1 HNE.out.2.1, z2.trans hb5⟩
            clear hs5 hb5 H4
            go_wp2
            go_roundw
            case rel => exact ⟨j + 1, by omega, by go_num, H5⟩
            case measure => simp [intOf]; omega
          · have HF : Hid (Scope wr sb mb mf (fun x => (bound.count x : Int)) (F ++ Em5.freeS (.mk op nm ar nn p l) bound) (n + (5 * (Em5.Nd.mk op nm ar nn p l).size - 4)) ∧ Bes2 mb mf w wr) := by
              obtain ⟨z1, z2, z3⟩ := HR.out
              rw [List.take_of_length_le (by omega)] at z1
              rw [Hid, HFG.out, Em5.Nd.size]
              exact ⟨z1.mono (by omega), z3⟩
            go_wp2
            (try simp only [Exit.inBlock, Exit.then]); refine bodyPost_end (results_none rfl _ _ _) rfl ?_
            exact ⟨rfl, HF.out⟩
end Go.Proofs.YtlniokcekjemdaaDoor

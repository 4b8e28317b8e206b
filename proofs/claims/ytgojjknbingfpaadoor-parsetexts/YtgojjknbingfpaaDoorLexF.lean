/- What lex.number answers. -/
import Derived.Test.YtgojjknbingfpaaDoorLexE
import Derived.Test.YtgojjknbingfpaaDoorRLexM1
namespace Go.Proofs.YtgojjknbingfpaaDoor
open Go.RowKit
set_option linter.unusedSimpArgs false

/-- '[]byte(s)': a new row that holds the bytes of s. -/
theorem conv_bytes (w : World) (s : ByteArray) (L : List Int) (hs : Em.IsStr s L) : ∃ cap w', (convert 9 69 (.string s)).run Tryd.prog w = .ok (.slice (some ⟨w.heap.size, 0, none⟩) s.size cap) w' ∧ Below w.heap.size w w' ∧ w'.heap.size = w.heap.size + 1 ∧ ∀ k, k < s.size → w'.cell? ⟨w.heap.size, k, none⟩ = some (.int .u8 (L[k]?.getD 0)) := by
  refine ⟨_, _, run_bytes_of_string w 9 69 5 s Tryd.underlying9 Tryd.underlying69 Tryd.underlying5, ?_, by simp, fun k hk => ?_⟩
  · exact ((Below.refl w.heap.size w).drew).alloc (Nat.le_refl _) _
  · have e : w.heap.size = w.drew.heap.size := rfl
    rw [e, World.cell?_alloc_mark]
    unfold bytesRow
    have h1 := hs.get k hk
    have h2 : k < s.data.size := hk
    rw [Array.getElem?_append_left (by simpa using h2)]
    rw [← h1, Array.getElem?_map, Array.getElem?_eq_getElem h2]
    simp [ByteArray.getElem_eq_getElem_data]

/-- A number that is being read: the result's block, the token's, the bytes'. -/
def NumI (w : World) (n : Nat) (X : List Int) (v : Int) (wr : World) : Prop :=
  (wr.cell? ⟨w.heap.size, 0, none⟩ = some (.int .i64 0) ∧ wr.cell? ⟨w.heap.size, 1, none⟩ = some (.string ⟨#[]⟩) ∧ wr.cell? ⟨w.heap.size, 2, none⟩ = some (.int .i64 0) ∧ wr.cell? ⟨w.heap.size, 3, none⟩ = some (.int .i64 0)) ∧
  (wr.cell? ⟨w.heap.size + 1, 0, none⟩ = some (.int .i64 2) ∧ wr.cell? ⟨w.heap.size + 1, 1, none⟩ = some (.string ⟨#[]⟩) ∧ wr.cell? ⟨w.heap.size + 1, 2, none⟩ = some (.int .i64 v) ∧ wr.cell? ⟨w.heap.size + 1, 3, none⟩ = some (.int .i64 0)) ∧
  (∀ o, wr.frozen? ⟨w.heap.size, o, none⟩ = false) ∧ (∀ o, wr.frozen? ⟨w.heap.size + 1, o, none⟩ = false) ∧
  (∀ j, j < n → wr.cell? ⟨w.heap.size + 2, j, none⟩ = some (.int .u8 (X[j]?.getD 0))) ∧ w.heap.size + 2 < wr.heap.size ∧ Below w.heap.size w wr
theorem NumI.set {w wr : World} {n : Nat} {X : List Int} {v : Int} (h : NumI w n X v wr) (v' : Int) : NumI w n X v' (wr.setCell ⟨w.heap.size + 1, 2, none⟩ (.int .i64 v')) := by
  obtain ⟨⟨a0, a1, a2, a3⟩, ⟨b0, b1, b2, b3⟩, f0, f1, hc, hz, hb⟩ := h
  have o1 : ∀ b o, (b, o) ≠ (w.heap.size + 1, 2) → (wr.setCell ⟨w.heap.size + 1, 2, none⟩ (.int .i64 v')).cell? ⟨b, o, none⟩ = wr.cell? ⟨b, o, none⟩ := fun b o hne =>
    World.cell?_setCell_other _ _ _ _ (by intro e; injection e with e1 e2; exact hne (by rw [e1, e2]))
  refine ⟨⟨?_, ?_, ?_, ?_⟩, ⟨?_, ?_, World.cell?_setCell_same _ _ _ b2, ?_⟩, fun o => ?_, fun o => ?_, fun j hj => ?_, ?_, hb.setCell (p := ⟨w.heap.size + 1, 2, none⟩) (by simp) _⟩
  · rw [o1 _ _ (by simp)]; exact a0
  · rw [o1 _ _ (by simp)]; exact a1
  · rw [o1 _ _ (by simp)]; exact a2
  · rw [o1 _ _ (by simp)]; exact a3
  · rw [o1 _ _ (by simp)]; exact b0
  · rw [o1 _ _ (by simp)]; exact b1
  · rw [o1 _ _ (by simp)]; exact b3
  · rw [World.frozen?_setCell]; exact f0 o
  · rw [World.frozen?_setCell]; exact f1 o
  · rw [o1 _ _ (by simp)]; exact hc j hj
  · rw [World.size_setCell]; exact hz

set_option maxRecDepth 100000 in
set_option maxHeartbeats 1000000 in
theorem lnumber_any (s : ByteArray) (c : Int) (r : List Int) (w : World) (hs : Em.IsStr s (c :: r)) (hm : s.size ≤ 9223372036854775807) :
    Calls Tryd.prog 50 #[.string s] w fun e w' => LexGot e (Em4.numAt (c :: r)) ∧ Below w.heap.size w w' := by
  have h1s : 1 ≤ s.size := by rw [hs.size]; simp
  have h0s : 0 < s.size := h1s
  have hch := hs.get 0 h0s
  simp only [List.getElem?_cons_zero, Option.getD_some] at hch
  obtain ⟨n, hn⟩ : ∃ n, n = Em4.span Em4.dgt (c :: r) := ⟨_, rfl⟩
  have hle : n ≤ s.size := by rw [hs.size, hn]; exact Em4.span_le _ _
  have HS : Hid (Em.IsStr s (c :: r)) := hs
  have HNE : Hid (Em4.span Em4.dgt (c :: r) = n) := hn.symm
  have hR : Em4.numAt (c :: r) = if 18 < n ∨ (1 < n ∧ c = 48) then none else some (2, [], Em4.dec ((c :: r).take n), n) := by
    rw [Em4.numAt, ← hn]; simp
  obtain ⟨L, hL⟩ : ∃ L, L = c :: r := ⟨_, rfl⟩
  rw [← hL] at hR hs hn ⊢
  clear HS HNE
  have HS : Hid (Em.IsStr s L) := hs
  have HNE : Hid (Em4.span Em4.dgt L = n) := hn.symm
  have HR : Hid (Em4.numAt L = if 18 < n ∨ (1 < n ∧ c = 48) then none else some (2, [], Em4.dec (L.take n), n)) := hR
  have HA : Hid (∀ j, j < n → Em4.dgt (L[j]?.getD 0) = true) := fun j hj => Em4.span_all Em4.dgt L j (by rw [← hn]; exact hj)
  have HL : Hid (n ≤ L.length) := by have h := hs.size; rw [h] at hle; exact hle
  have HX : Hid (Em.IsStr (s.extract 0 n) (L.take n)) := by simpa [Hid] using hs.extract 0 n
  have HXZ : Hid ((s.extract 0 n).size = n) := by rw [Hid, HX.out.size]; have := HL.out; simp; omega
  clear hs hn hR hL
  go_enter Tryd.func50, Tryd.ntmps50
  go_wp2_with fail
  refine (lspan_digit _ L _ HS.out hm).mono ?_
  rintro e w1 ⟨rfl, rfl⟩
  rw [HNE.out]
  by_cases h18 : 18 < n
  · have HV : Hid (Em4.numAt L = none) := by rw [Hid, HR.out, if_pos (Or.inl h18)]
    go_wp2
    refine bodyPost_ret (v := .tuple #[tokV 0 ⟨#[]⟩ 0 0, .int .i64 0]) (by simp [results, Tryd.results50, go_sem]) rfl ⟨?_, ?_⟩
    · rw [HV.out]; exact ⟨_, _, _, _, rfl, rfl⟩
    · first | exact Em.below_set4 ((Below.refl _ _).alloc (Nat.le_refl _) _) (Nat.le_refl _) _ _ _ _ | exact (Below.refl _ _).alloc (Nat.le_refl _) _
  by_cases hbad : 1 < n ∧ c = 48
  · have HV : Hid (Em4.numAt L = none) := by rw [Hid, HR.out, if_pos (Or.inr hbad)]
    have h1n := hbad.1
    have hq : (c == 48) = true := by simpa using hbad.2
    clear hbad
    go_wp2
    refine bodyPost_ret (v := .tuple #[tokV 0 ⟨#[]⟩ 0 0, .int .i64 0]) (by simp [results, Tryd.results50, go_sem]) rfl ⟨?_, ?_⟩
    · rw [HV.out]; exact ⟨_, _, _, _, rfl, rfl⟩
    · first | exact Em.below_set4 ((Below.refl _ _).alloc (Nat.le_refl _) _) (Nat.le_refl _) _ _ _ _ | exact (Below.refl _ _).alloc (Nat.le_refl _) _
  have HV : Hid (Em4.numAt L = some (2, [], Em4.dec (L.take n), n)) := by rw [Hid, HR.out, if_neg (by omega)]
  have hcase : (1 < n ∧ (c == 48) = false) ∨ n ≤ 1 := by
    by_cases h : 1 < n
    · exact .inl ⟨h, by rw [beq_eq_false_iff_ne]; intro e; exact hbad ⟨h, e⟩⟩
    · exact .inr (by omega)
  clear hbad HR
  obtain ⟨x, hx⟩ : ∃ x, x = s.extract 0 n := ⟨_, rfl⟩
  rw [← hx] at HX HXZ
  have hxe : s.extract 0 n = x := hx.symm
  clear hx
  obtain ⟨W, hW⟩ : ∃ W, W = (w.alloc (.cells #[.int .i64 0, .string ⟨#[]⟩, .int .i64 0, .int .i64 0] 46)).alloc (.cells #[.int .i64 2, .string ⟨#[]⟩, .int .i64 0, .int .i64 0] 46) := ⟨_, rfl⟩
  have hWs : W.heap.size = w.heap.size + 2 := by rw [hW]; simp
  obtain ⟨cap, w2, hcv, hb2, hz2, hc2⟩ := conv_bytes W x _ HX.out
  rw [HXZ.out] at hcv hc2
  rw [hWs] at hcv hz2 hc2
  have HI0 : Hid (NumI w n L 0 w2) := by
    have hWb : Below w.heap.size w W := by rw [hW]; exact ((Below.refl _ _).alloc (Nat.le_refl _) _).alloc (by simp) _
    have e1 : ∀ o, w2.cell? ⟨w.heap.size + 1, o, none⟩ = W.cell? ⟨w.heap.size + 1, o, none⟩ := fun o => hb2.cell (p := ⟨w.heap.size + 1, o, none⟩) (by simp; omega)
    have e2 : ∀ o, w2.cell? ⟨w.heap.size, o, none⟩ = W.cell? ⟨w.heap.size, o, none⟩ := fun o => hb2.cell (p := ⟨w.heap.size, o, none⟩) (by simp; omega)
    refine ⟨⟨?_, ?_, ?_, ?_⟩, ⟨?_, ?_, ?_, ?_⟩, fun o => ?_, fun o => ?_, fun j hj => ?_, by omega, hWb.trans (hb2.mono (by omega))⟩
    · rw [e2, hW]; simp
    · rw [e2, hW]; simp
    · rw [e2, hW]; simp
    · rw [e2, hW]; simp
    · rw [e1, hW]; simp
    · rw [e1, hW]; simp
    · rw [e1, hW]; simp
    · rw [e1, hW]; simp
    · rw [hb2.frozen (p := ⟨w.heap.size, o, none⟩) (by simp; omega), hW]; simp [go_sem]
    · rw [hb2.frozen (p := ⟨w.heap.size + 1, o, none⟩) (by simp; omega), hW]; simp [go_sem]
    · rw [hc2 j hj, List.getElem?_take, if_pos hj]
  rw [hW] at hcv
  clear hb2 hz2 hc2 hW hWs HX HXZ
  rcases hcase with ⟨h1n, hq⟩ | h1n
  all_goals
    go_wp2
    go_loopw [28] (fun i wr => ∃ (k : Nat), k ≤ n ∧ i = .int .i64 k ∧ NumI w n L (Em4.dec (L.take k)) wr) (fun i _ => n - (intOf i).toNat)
    case atStart => exact ⟨0, Nat.zero_le _, rfl, HI0.out⟩
    case round =>
      obtain ⟨k, hk, rfl, hI⟩ := hrel
      have HI : Hid (NumI w n L (Em4.dec (L.take k)) wr) := hI
      obtain ⟨⟨a0, a1, a2, a3⟩, ⟨b0, b1, b2, b3⟩, f0, f1, hc, hz, hb⟩ := hI
      by_cases hlt : k < n
      · have hcell := hc k hlt
        have hdg := HA.out k hlt
        have hbd := dec_17 (L := L) (k := k) (by omega) (by have := HL.out; omega) (fun j hj => HA.out j (by omega))
        have hnext : Em4.dec (L.take (k + 1)) = 10 * Em4.dec (L.take k) + (L[k]?.getD 0 - 48) := by
          rw [Em4.take_snoc (by have := HL.out; omega), Em4.dec_snoc]
        obtain ⟨v, hv⟩ : ∃ v, v = Em4.dec (L.take k) := ⟨_, rfl⟩
        obtain ⟨d, hd⟩ : ∃ d, d = L[k]?.getD 0 := ⟨_, rfl⟩
        rw [← hd] at hcell hdg hnext
        rw [← hv] at b2 hbd hnext HI
        obtain ⟨d48, d57⟩ := dgt_true hdg
        obtain ⟨v0, v1⟩ := hbd
        have HNX : Hid (v * 10 + (d - 48) = Em4.dec (L.take (k + 1))) := by rw [Hid, hnext]; omega
        have HS2 : Hid (NumI w n L (Em4.dec (L.take (k + 1))) (wr.setCell ⟨w.heap.size + 1, 2, none⟩ (.int .i64 (v * 10 + (d - 48))))) := by
          rw [HNX.out]; exact HI.out.set _
        clear hv hd hdg hnext hc hb HI
        go_wp2
        go_roundw
        case rel => exact ⟨k + 1, by omega, by go_num, HS2.out⟩
        case measure => simp [intOf]; omega
      · have hkn : k = n := by omega
        subst hkn
        obtain ⟨v, hv⟩ : ∃ v, v = Em4.dec (L.take k) := ⟨_, rfl⟩
        rw [← hv] at b2 HV
        clear hv hc HI
        go_wp2
        refine bodyPost_ret (v := .tuple #[tokV 2 ⟨#[]⟩ v 0, .int .i64 k]) (by simp [results, Tryd.results50, go_sem, a0, a1, a2, a3]) rfl ⟨?_, ?_⟩
        · rw [HV.out]; exact ⟨_, _, _, _, rfl, rfl, ⟨rfl, by simp⟩, rfl, rfl⟩
        · exact Em.below_set4 hb (Nat.le_refl _) _ _ _ _
end Go.Proofs.YtgojjknbingfpaaDoor

/- Several texts in one: PaP, Known6. -/
import Derived.Test.YtgojjknbingfpaaDoorPaG1
import Derived.Test.YtgojjknbingfpaaDoorRPaQ
import Derived.Test.YtgojjknbingfpaaDoorLexT
import Derived.Test.YtgojjknbingfpaaDoorRPaW
namespace Go.Proofs.YtgojjknbingfpaaDoor
open Go.RowKit Go.Em5 Go.Em6
set_option linter.unusedSimpArgs false

set_option maxRecDepth 100000 in
set_option maxHeartbeats 4000000 in
theorem qparse_any (s : ByteArray) (L : List Int) (w : World) (hs : Em.IsStr s L) (hsz : s.size ≤ 9223372036854775807) (hsg : IsSigns w) :
    Calls Tryd.prog 7 #[.string s] w fun e w' => Parsed w w' e s.size (Em6.parse L) ∧ Below w.heap.size w w' := by
  have hsl := hs.size
  have z2 := Six.made w (.string ⟨#[]⟩) (.string ⟨#[]⟩) (.string ⟨#[]⟩) (.int .i64 0) (.int .i64 0) (.slice none 0 0) 24
  have bz : Below w.heap.size w (w.alloc (.cells #[.string ⟨#[]⟩, .string ⟨#[]⟩, .string ⟨#[]⟩, .int .i64 0, .int .i64 0, .slice none 0 0] 24)) := (Below.refl _ _).alloc (Nat.le_refl _) _
  have HSG : Hid (IsSigns (w.alloc (.cells #[.string ⟨#[]⟩, .string ⟨#[]⟩, .string ⟨#[]⟩, .int .i64 0, .int .i64 0, .slice none 0 0] 24))) := hsg.below bz hsg.lt
  clear hsg
  by_cases hg : 2000 < s.size
  · have hp : Em6.parse L = .error (7, 0) := by unfold Em6.parse; rw [if_pos (by omega)]
    rw [hp]
    obtain ⟨a0, a1, a2, a3, a4, a5, f0, f1, f2, f3', f4, f5⟩ := id z2
    clear hp hs hsl
    go_enter Tryd.func7, Tryd.ntmps7
    go_wp2_with fail
    refine (ltokens_great s _ hg).mono ?_
    rintro e w1 ⟨rfl, rfl⟩
    go_wp2_with fail
    refine bodyPost_ret (v := .tuple #[noNd, .int .i64 0, .int .i64 7]) (by simp [results, Tryd.results7, go_sem]; rfl) rfl ?_
    exact ⟨rfl, bz⟩
  have HTK := ltokens_any s L (w.alloc (.cells #[.string ⟨#[]⟩, .string ⟨#[]⟩, .string ⟨#[]⟩, .int .i64 0, .int .i64 0, .slice none 0 0] 24)) hs (by omega) HSG.out
  have HTK' : Hid _ := HTK
  have hL := hs.2
  clear HTK
  cases ht : Em4.toks L with
  | error i =>
    have hp : Em6.parse L = .error (2, i) := by unfold Em6.parse; rw [if_neg (by omega), ht]
    rw [hp]
    rw [ht] at HTK'
    clear hp hs hsl ht hL
    go_enter Tryd.func7, Tryd.ntmps7
    go_wp2_with fail
    refine Calls.mono HTK'.out ?_
    rintro e w1 ⟨hgot, hb1⟩
    simp only [ToksGot] at hgot
    subst hgot
    have p2 := z2.below hb1
    have bs1 : Below w.heap.size w w1 := bz.trans (hb1.mono (by simp))
    obtain ⟨a0, a1, a2, a3, a4, a5, f0, f1, f2, f3', f4, f5⟩ := id p2
    obtain ⟨W, hW, sx, hz, hk, -⟩ := p2.set (.string ⟨#[]⟩) (.string ⟨#[]⟩) (.string ⟨#[]⟩) (.int .i64 0) (.int .i64 0) (.slice none 0 0)
    obtain ⟨c0, c1, c2, c3, c4, c5, -⟩ := id sx
    have HB : Hid (Below w.heap.size w W) := by rw [← hW]; exact (((((bs1.setCell (Nat.le_refl _) _).setCell (Nat.le_refl _) _).setCell (Nat.le_refl _) _).setCell (Nat.le_refl _) _).setCell (Nat.le_refl _) _).setCell (Nat.le_refl _) _
    go_wp2_with fail
    refine bodyPost_ret (v := .tuple #[noNd, .int .i64 i, .int .i64 2]) (by simp [results, Tryd.results7, go_sem, c0, c1, c2, c3, c4, c5]; rfl) rfl ?_
    exact ⟨rfl, HB.out⟩
  | ok T =>
    obtain ⟨hend, hto⟩ := toks_ok hL (by omega) ht
    have hko := toks_kok ht
    have hp : Em6.parse L = parseT T := by unfold Em6.parse; rw [if_neg (by omega), ht]
    rw [hp]
    rw [ht] at HTK'
    clear hp hs hsl ht hL
    go_enter Tryd.func7, Tryd.ntmps7
    go_wp2_with fail
    refine Calls.mono HTK'.out ?_
    rintro e w1 ⟨hgot, hb1⟩
    simp only [ToksGot] at hgot
    obtain ⟨v1, rfl, ho1⟩ := hgot
    have hit := ho1.is (fun t ht => (hto t ht).1.1)
    obtain ⟨ta, tcap, rfl, tc1, tc2, -, tc3⟩ := hit
    have hTl : 0 < T.length := by have := hend.ne; cases T with | nil => exact absurd rfl this | cons _ _ => simp
    obtain ⟨tb, off, rfl, htk⟩ := tc3 hTl
    have htb : tb < w1.heap.size := by
      obtain ⟨t0, ht0⟩ : ∃ t0, T[0]? = some t0 := ⟨_, List.getElem?_eq_getElem hTl⟩
      exact Em.cell_lt (htk 0 t0 ht0).1
    have p2 := z2.below hb1
    have bs1 : Below w.heap.size w w1 := bz.trans (hb1.mono (by simp))
    have hg2 : w.heap.size < w1.heap.size := p2.lt
    have htbw : w.heap.size < tb := by
      rcases ho1.2 with ⟨e1, -⟩ | ⟨g, c, cur, e1, e2, -⟩
      · cases e1
      · cases e1; simp at e2; omega
    have hst : IsPs (w1.alloc (.cells #[.slice (some ⟨tb, off, none⟩) T.length tcap, .int .i64 0, .int .i64 0, .int .i64 0] 43)) w1.heap.size tb 0 (.ok T) :=
      ⟨⟨_, 0, 0, 43, heap_new _ _, by omega, by simp; omega, by omega, rfl, hend, fun t ht => ⟨hto t ht, hko t ht⟩, off, tcap, rfl, tc1, tc2, fun j t hj => by
        obtain ⟨m1, m2, m3, m4⟩ := htk j t hj
        exact ⟨by rw [World.cell?_alloc_lt _ _ _ htb]; exact m1, by rw [World.cell?_alloc_lt _ _ _ htb]; exact m2, by rw [World.cell?_alloc_lt _ _ _ htb]; exact m3, by rw [World.cell?_alloc_lt _ _ _ htb]; exact m4⟩⟩, by show 0 < 40; omega⟩
    have HST : Hid _ := hst
    have q2 := p2.alloc (.cells #[.slice (some ⟨tb, off, none⟩) T.length tcap, .int .i64 0, .int .i64 0, .int .i64 0] 43)
    have bs2 := bs1.alloc bs1.size (.cells #[.slice (some ⟨tb, off, none⟩) T.length tcap, .int .i64 0, .int .i64 0, .int .i64 0] 43)
    obtain ⟨pb, hpb⟩ : ∃ pb, pb = w1.heap.size := ⟨_, rfl⟩
    rw [← hpb] at HST
    have hpw : w.heap.size < pb := by omega
    have hptb : tb < pb := by omega
    have HPB : Hid (w1.heap.size = pb) := hpb.symm
    clear hst htk tc3 hto hko hend ho1 hb1 p2 bs1 z2 bz HTK' hpb
    go_wp2_with fail
    rw [HPB.out]
    refine (qexpr_whole (.ok T) _ pb tb HST.out).mono ?_
    rintro e w2 ⟨v2, n2, s2, rfl, d2, h2, b2, F2⟩
    obtain ⟨x0, x1, x2, xm, xp, xa, xl, xc, rfl⟩ := ndb_shape d2
    have hgw2 : pb < w2.heap.size := h2.lt.1
    have r2 := q2.bes b2 (by omega)
    have bs3 : Below w.heap.size w w2 := bs2.trans (below_bes b2 (by omega) bs2.size)
    have d3 : NdB (w.heap.size + 1) w2 n2 _ := ndb_mono d2 (by simp; omega)
    have HF2 : Hid (Fits ((lev 40).1 T) n2 s2) := F2
    obtain ⟨a0, a1, a2, a3, a4, a5, j0, j1, j2, j3, j4, j5⟩ := id r2
    obtain ⟨w3, hw3, sx3, hz3, hk3, -⟩ := r2.set (.string x0) (.string x1) (.string x2) (.int .i64 xm) (.int .i64 xp) (.slice xa xl xc)
    have h3 := h2.set hz3 hk3 (by omega) (by omega)
    have bs4 : Below w.heap.size w w3 := by rw [← hw3]; exact (((((bs3.setCell (Nat.le_refl _) _).setCell (Nat.le_refl _) _).setCell (Nat.le_refl _) _).setCell (Nat.le_refl _) _).setCell (Nat.le_refl _) _).setCell (Nat.le_refl _) _
    have d4 := ndb_set d3 (by omega) hz3 hk3
    clear q2 bs2 d2 b2 F2 HST
    go_wp2_with fail
    refine (qpeek_any pb tb 0 s2 _ h3.1).mono ?_
    rintro e w4 ⟨rfl, hb4⟩
    obtain ⟨t, htd⟩ : ∃ t, t = peekS s2 := ⟨_, rfl⟩
    have HNW : Hid (peekS s2 = t) := htd.symm
    rw [← htd]
    clear htd
    simp only [Em6.tokV]
    have f0 := fld0 t.kind (Em.str t.text) t.num t.pos
    have h4 := h3.below hb4
    have q4 := sx3.below hb4
    have bs5 : Below w.heap.size w w4 := bs4.trans (hb4.mono bs4.size)
    have d5 := ndb_below d4 hb4
    clear h2 h3 sx3 bs3 bs4 d3 d4 hb4 r2 a0 a1 a2 a3 a4 a5 j0 j1 j2 j3 j4 j5 hw3 hk3
    cases s2 with
    | error e =>
      obtain ⟨c, a⟩ := e
      have hk5 : ¬ t.kind = 5 := by rw [← HNW.out]; show ¬ (0 : Int) = 5; decide
      have hkk : (t.kind == 5) = false := by simpa using hk5
      have hkn : (t.kind != 5) = true := by rw [bne, hkk]; rfl
      have HPT : Hid (parseT T = .error (c, a)) := by
        show parseT T = .error (c, a)
        have := HF2.out
        unfold parseT
        cases hr : (lev 40).1 T with
        | error e => rw [hr] at this; simp only [Fits, Except.error.injEq] at this; rw [this]; rfl
        | ok p => rw [hr] at this; simp [Fits] at this
      clear hk5
      go_wp2_with fail
      refine (qfail_any pb tb 0 (.error (c, a)) _ 2 h4 (by omega) (by omega)).mono ?_
      rintro e w5 ⟨rfl, h5, b5⟩
      have h5 : IsPs w5 pb tb 0 (.error (c, a)) := h5
      have q5 := q4.bes b5 (by omega)
      have bs6 : Below w.heap.size w w5 := bs5.trans (below_bes b5 (by omega) bs5.size)
      clear h4 q4 bs5 d5 b5
      obtain ⟨v9, p9, c9, k0, k1, k2, k3, hfr, hm⟩ := h5.1.cells
      obtain ⟨-, m1, m2, -, m3, -⟩ := hm
      have hc9 : (c9 == 0) = false := by simp; omega
      have hc9' : (c9 != 0) = true := by rw [bne, hc9]; rfl
      obtain ⟨b0, b1, b2, b3, b4, b5, jj0, jj1, jj2, jj3, jj4, jj5⟩ := id q5
      obtain ⟨W, hW, sx, hz, hk, -⟩ := q5.set (.string ⟨#[]⟩) (.string ⟨#[]⟩) (.string ⟨#[]⟩) (.int .i64 0) (.int .i64 0) (.slice none 0 0)
      obtain ⟨c0, c1, c2, c3, c4, c5, -⟩ := id sx
      have HB : Hid (Below w.heap.size w W) := by rw [← hW]; exact (((((bs6.setCell (Nat.le_refl _) _).setCell (Nat.le_refl _) _).setCell (Nat.le_refl _) _).setCell (Nat.le_refl _) _).setCell (Nat.le_refl _) _).setCell (Nat.le_refl _) _
      have k2W : W.cell? ⟨pb, 2, none⟩ = some (.int .i64 p9) := by rw [World.cell?_of_block (a := ⟨pb, 2, none⟩) (hk pb (by omega))]; exact k2
      have k3W : W.cell? ⟨pb, 3, none⟩ = some (.int .i64 c9) := by rw [World.cell?_of_block (a := ⟨pb, 3, none⟩) (hk pb (by omega))]; exact k3
      have HM : Hid (c9 = (c : Int) ∧ p9 = (a : Int)) := ⟨m1, m3⟩
      clear m1 m2 m3 hfr h5 hz hk sx q5
      go_wp2_with fail
      go_region
      all_goals
        go_wp2
        refine bodyPost_ret (v := .tuple #[noNd, .int .i64 p9, .int .i64 c9]) (by simp [results, Tryd.results7, go_sem, c0, c1, c2, c3, c4, c5]; rfl) rfl ?_
        exact ⟨by rw [HPT.out, HM.out.1, HM.out.2]; rfl, HB.out.drew⟩
    | ok L2 =>
      cases L2 with
      | nil => exact absurd rfl h4.1.tok.2.ne
      | cons t' r' =>
        have htt : t' = t := HNW.out
        subst htt
        by_cases hk5 : t'.kind = 5
        · have hkk : (t'.kind == 5) = true := by simpa using hk5
          have hkn : (t'.kind != 5) = false := by rw [bne, hkk]; rfl
          have HPT : Hid (parseT T = .ok n2) := by
            show parseT T = .ok n2
            have := HF2.out
            unfold parseT
            cases hr : (lev 40).1 T with
            | error e => rw [hr] at this; simp [Fits] at this
            | ok p =>
              obtain ⟨m, M⟩ := p
              rw [hr] at this
              simp only [Fits, Except.ok.injEq] at this
              obtain ⟨rfl, rfl⟩ := this
              simp [bnd, hk5]
          obtain ⟨v9, p9, c9, k0, k1, k2, k3, hfr, hm⟩ := h4.1.cells
          obtain ⟨m1, -⟩ := hm
          subst m1
          obtain ⟨c0, c1, c2, c3, c4, c5, fz0, fz1, fz2, fz3, fz4, fz5⟩ := id q4
          obtain ⟨W, hW, sx, hz, hk, -⟩ := q4.set (.string x0) (.string x1) (.string x2) (.int .i64 xm) (.int .i64 xp) (.slice xa xl xc)
          have HB : Hid (Below w.heap.size w W) := by rw [← hW]; exact (((((bs5.setCell (Nat.le_refl _) _).setCell (Nat.le_refl _) _).setCell (Nat.le_refl _) _).setCell (Nat.le_refl _) _).setCell (Nat.le_refl _) _).setCell (Nat.le_refl _) _
          have HND : Hid (NdB w.heap.size W n2 (.agg #[.string x0, .string x1, .string x2, .int .i64 xm, .int .i64 xp, .slice xa xl xc])) := ndb_mono (ndb_set d5 (by omega) hz hk) (by omega)
          have HND2 : Hid (NdB w.heap.size w4 n2 (.agg #[.string x0, .string x1, .string x2, .int .i64 xm, .int .i64 xp, .slice xa xl xc])) := ndb_mono d5 (by omega)
          have HB2 : Hid (Below w.heap.size w w4) := bs5
          clear hk5 hfr h4 hz hk q4
          go_wp2_with fail
          obtain ⟨g0, g1, g2, g3, g4, g5, -⟩ := id sx
          first
            | (refine bodyPost_ret (v := .tuple #[.agg #[.string x0, .string x1, .string x2, .int .i64 xm, .int .i64 xp, .slice xa xl xc], .int .i64 s.size, .int .i64 0]) (by simp [results, Tryd.results7, go_sem, g0, g1, g2, g3, g4, g5]) rfl ?_; exact ⟨by rw [HPT.out]; exact ⟨_, rfl, HND.out⟩, HB.out⟩)
            | (refine bodyPost_ret (v := .tuple #[.agg #[.string x0, .string x1, .string x2, .int .i64 xm, .int .i64 xp, .slice xa xl xc], .int .i64 s.size, .int .i64 0]) (by simp [results, Tryd.results7, go_sem, c0, c1, c2, c3, c4, c5]) rfl ?_; exact ⟨by rw [HPT.out]; exact ⟨_, rfl, HND2.out⟩, HB2.out⟩)
        · have hkk : (t'.kind == 5) = false := by simpa using hk5
          have hkn : (t'.kind != 5) = true := by rw [bne, hkk]; rfl
          have HPT : Hid (parseT T = .error (2, t'.pos)) := by
            show parseT T = .error (2, t'.pos)
            have := HF2.out
            unfold parseT
            cases hr : (lev 40).1 T with
            | error e => rw [hr] at this; simp [Fits] at this
            | ok p =>
              obtain ⟨m, M⟩ := p
              rw [hr] at this
              simp only [Fits, Except.ok.injEq] at this
              obtain ⟨rfl, rfl⟩ := this
              simp [bnd, hk5, posL]
          clear hk5
          go_wp2_with fail
          refine (qfail_any pb tb 0 (.ok (t' :: r')) _ 2 h4 (by omega) (by omega)).mono ?_
          rintro e w5 ⟨rfl, h5, b5⟩
          have h5 : IsPs w5 pb tb 0 (.error (2, t'.pos)) := h5
          have q5 := q4.bes b5 (by omega)
          have bs6 : Below w.heap.size w w5 := bs5.trans (below_bes b5 (by omega) bs5.size)
          clear h4 q4 bs5 d5 b5
          obtain ⟨v9, p9, c9, k0, k1, k2, k3, hfr, hm⟩ := h5.1.cells
          obtain ⟨-, m1, m2, -, m3, -⟩ := hm
          have hc9 : (c9 == 0) = false := by simp; omega
          have hc9' : (c9 != 0) = true := by rw [bne, hc9]; rfl
          obtain ⟨b0, b1, b2, b3, b4, b5, jj0, jj1, jj2, jj3, jj4, jj5⟩ := id q5
          obtain ⟨W, hW, sx, hz, hk, -⟩ := q5.set (.string ⟨#[]⟩) (.string ⟨#[]⟩) (.string ⟨#[]⟩) (.int .i64 0) (.int .i64 0) (.slice none 0 0)
          obtain ⟨c0, c1, c2, c3, c4, c5, -⟩ := id sx
          have HB : Hid (Below w.heap.size w W) := by rw [← hW]; exact (((((bs6.setCell (Nat.le_refl _) _).setCell (Nat.le_refl _) _).setCell (Nat.le_refl _) _).setCell (Nat.le_refl _) _).setCell (Nat.le_refl _) _).setCell (Nat.le_refl _) _
          have k2W : W.cell? ⟨pb, 2, none⟩ = some (.int .i64 p9) := by rw [World.cell?_of_block (a := ⟨pb, 2, none⟩) (hk pb (by omega))]; exact k2
          have k3W : W.cell? ⟨pb, 3, none⟩ = some (.int .i64 c9) := by rw [World.cell?_of_block (a := ⟨pb, 3, none⟩) (hk pb (by omega))]; exact k3
          have HM : Hid (c9 = ((2 : Nat) : Int) ∧ p9 = (t'.pos : Int)) := ⟨m1, m3⟩
          clear m1 m2 m3 hfr h5 hz hk sx q5
          go_wp2_with fail
          go_region
          all_goals
            go_wp2
            refine bodyPost_ret (v := .tuple #[noNd, .int .i64 p9, .int .i64 c9]) (by simp [results, Tryd.results7, go_sem, c0, c1, c2, c3, c4, c5]; rfl) rfl ?_
            exact ⟨by rw [HPT.out, HM.out.1, HM.out.2]; rfl, HB.out.drew⟩
end Go.Proofs.YtgojjknbingfpaaDoor

namespace Go.Proofs.YtgojjknbingfpaaDoor
open Go.RowKit Go.Em5 Go.Em6
set_option linter.unusedSimpArgs false

def k6Text : List Int := [102, 32, 120, 32, 121]
def k6Nd : Nd := nd [97, 112, 112] 4 [nd [97, 112, 112] 2 [.mk [118, 97, 114] [102] [] 0 0 [], .mk [118, 97, 114] [120] [] 0 2 []], .mk [118, 97, 114] [121] [] 0 4 []]
theorem k6_parse : Em6.parse k6Text = .ok k6Nd := by rfl
theorem k6_str : Em.IsStr ⟨#[102, 32, 120, 32, 121]⟩ k6Text := ⟨rfl, by decide⟩

set_option maxRecDepth 100000 in
set_option maxHeartbeats 2000000 in
theorem known6_any (w : World) (hg : IsSigns w) : Calls Tryd.prog 10 #[] w fun e w' => e = .returned (.bool true) ∧ Below w.heap.size w w' := by
  have HG : Hid (IsSigns w) := hg
  clear hg
  go_enter Tryd.func10, Tryd.ntmps10
  go_wp2_with fail
  refine (qparse_any _ k6Text _ k6_str (by decide) HG.out).mono ?_
  rintro e w1 ⟨hgot, hb1⟩
  rw [k6_parse] at hgot
  obtain ⟨v, rfl, hn⟩ := hgot
  have hn' : NdB w.heap.size w1 (.mk [97, 112, 112] [] [] 0 4 [nd [97, 112, 112] 2 [.mk [118, 97, 114] [102] [] 0 0 [], .mk [118, 97, 114] [120] [] 0 2 []], .mk [118, 97, 114] [121] [] 0 4 []]) v := hn
  unfold NdB IsNdP at hn'
  obtain ⟨a, cap, rfl, -, -, -, -, -, hc1, hc2, hk⟩ := hn'
  obtain ⟨b, off, rfl, hbl, -, hka⟩ := hk (by simp)
  obtain ⟨c0, c1, c2, c3, c4, c5, m0, m1, m2, m3, m4, m5, kn⟩ := kidsAtP_get _ _ 0 _ hka rfl
  have kn' : IsNdP _ w1 (.mk [97, 112, 112] [] [] 0 2 [.mk [118, 97, 114] [102] [] 0 0 [], .mk [118, 97, 114] [120] [] 0 2 []]) (.agg #[c0, c1, c2, c3, c4, c5]) := kn
  unfold IsNdP at kn'
  obtain ⟨a2, cap2, e2, -⟩ := kn'
  simp only [Value.agg.injEq, Array.mk.injEq, List.cons.injEq, and_true] at e2
  obtain ⟨rfl, rfl, rfl, rfl, rfl, rfl⟩ := e2
  simp only [Nat.zero_mul, Nat.add_zero] at m0 m1 m2 m3 m4 m5
  have qa : ((Em.str [97, 112, 112]).toList == [97, 112, 112]) = true := (Em5.str_eq (by decide) _).trans (by decide)
  simp only [List.length_cons, List.length_nil] at hc1
  have hcap : (2 : Int) ≤ (cap : Int) := by omega
  clear hn hka hk kn m1 m2 m3 m4 m5
  have bel := hb1.alloc hb1.size (.cells #[.string (Em.str [97, 112, 112]), .string (Em.str []), .string (Em.str []), .int .i64 0, .int .i64 4, .slice (some ⟨b, off, none⟩) 2 cap] 24)
  go_wp2_with fail
  go_ret
  exact ⟨rfl, bel⟩
end Go.Proofs.YtgojjknbingfpaaDoor

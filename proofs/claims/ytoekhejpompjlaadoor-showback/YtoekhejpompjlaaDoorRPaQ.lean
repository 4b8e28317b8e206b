/- What the document's own Parse answers, for any text. -/
import Derived.Test.YtoekhejpompjlaaDoorRPaG2
import Derived.Test.YtoekhejpompjlaaDoorToks0
namespace Go.Proofs.YtoekhejpompjlaaDoor
open Go.RowKit Go.Em5 Go.Em6
set_option linter.unusedSimpArgs false

/-- No node. -/
def noNd : Value := .agg #[.string ⟨#[]⟩, .string ⟨#[]⟩, .string ⟨#[]⟩, .int .i64 0, .int .i64 0, .slice none 0 0]
/-- What Parse hands back. -/
def Parsed (w w' : World) (e : Ending) (n : Nat) (r : Except Err Nd) : Prop :=
  match r with
  | .error (c, a) => e = .returned (.tuple #[noNd, .int .i64 a, .int .i64 c])
  | .ok m => ∃ v, e = .returned (.tuple #[v, .int .i64 n, .int .i64 0]) ∧ NdB w.heap.size w' m v

theorem below_bes {pb B : Nat} {w w' : World} (h : Bes pb w w') (hp : B ≤ pb) (hB : B ≤ w.heap.size) : Below B w w' := ⟨h.os, h.tape, h.output, h.size, fun k hk => h.block k (by omega) (by omega)⟩

set_option maxRecDepth 100000 in
set_option maxHeartbeats 4000000 in
theorem rparse_any (s : ByteArray) (L : List Int) (w : World) (hs : Em.IsStr s L) (hsz : s.size ≤ 9223372036854775807) :
    Calls Tryd.prog 12 #[.string s] w fun e w' => Parsed w w' e s.size (Em6.parse L) ∧ Below w.heap.size w w' := by
  have hsl := hs.size
  have z2 := Six.made w (.string ⟨#[]⟩) (.string ⟨#[]⟩) (.string ⟨#[]⟩) (.int .i64 0) (.int .i64 0) (.slice none 0 0) 24
  have bz : Below w.heap.size w (w.alloc (.cells #[.string ⟨#[]⟩, .string ⟨#[]⟩, .string ⟨#[]⟩, .int .i64 0, .int .i64 0, .slice none 0 0] 24)) := (Below.refl _ _).alloc (Nat.le_refl _) _
  by_cases hg : 2000 < s.size
  · have hp : Em6.parse L = .error (7, 0) := by unfold Em6.parse; rw [if_pos (by omega)]
    rw [hp]
    obtain ⟨a0, a1, a2, a3, a4, a5, f0, f1, f2, f3', f4, f5⟩ := id z2
    clear hp hs hsl
    go_enter Tryd.func12, Tryd.ntmps12
    go_wp2_with fail
    refine (rtokens_great s _ hg).mono ?_
    rintro e w1 ⟨rfl, rfl⟩
    go_wp2_with fail
    refine bodyPost_ret (v := .tuple #[noNd, .int .i64 0, .int .i64 7]) (by simp [results, Tryd.results12, go_sem]; rfl) rfl ?_
    exact ⟨rfl, bz⟩
  have HTK := rtokens_any s L (w.alloc (.cells #[.string ⟨#[]⟩, .string ⟨#[]⟩, .string ⟨#[]⟩, .int .i64 0, .int .i64 0, .slice none 0 0] 24)) hs (by omega)
  have HTK' : Hid _ := HTK
  have hL := hs.2
  clear HTK
  cases ht : Em4.toks L with
  | error i =>
    have hp : Em6.parse L = .error (2, i) := by unfold Em6.parse; rw [if_neg (by omega), ht]
    rw [hp]
    rw [ht] at HTK'
    clear hp hs hsl ht hL
    go_enter Tryd.func12, Tryd.ntmps12
    go_wp2_with fail
    refine Calls.mono HTK'.out ?_
    rintro e w1 ⟨hgot, hb1⟩
    simp only [ToksGot] at hgot
    subst hgot
    have p2 := z2.below hb1
    have bs1 : Below w.heap.size w w1 := bz.trans (hb1.mono (by simp))
    obtain ⟨a0, a1, a2, a3, a4, a5, f0, f1, f2, f3', f4, f5⟩ := id p2
    obtain ⟨W, hW, sx, hz, hk, -⟩ := p2.set (.string ⟨#[]⟩) (.string ⟨#[]⟩) (.string ⟨#[]⟩) (.int .i64 0) (.int .i64 0) (.slice none 0 0)
    obtain ⟨c0, c1, c2, c3, c4, c5, -⟩ := id sx
    have HB : Hid (Below w.heap.size w W) := by rw [← hW]; exact (((((bs1.setCell (Nat.le_refl _) _).setCell (Nat.le_refl _) _).setCell (Nat.le_refl _) _).setCell (Nat.le_refl _) _).setCell (Nat.le_refl _) _).setCell (Nat.le_refl _) _
    go_wp2_with fail
    refine bodyPost_ret (v := .tuple #[noNd, .int .i64 i, .int .i64 2]) (by simp [results, Tryd.results12, go_sem, c0, c1, c2, c3, c4, c5]; rfl) rfl ?_
    exact ⟨rfl, HB.out⟩
  | ok T =>
    obtain ⟨hend, hto⟩ := toks_ok hL (by omega) ht
    have hp : Em6.parse L = parseT T := by unfold Em6.parse; rw [if_neg (by omega), ht]
    rw [hp]
    rw [ht] at HTK'
    clear hp hs hsl ht hL
    go_enter Tryd.func12, Tryd.ntmps12
    go_wp2_with fail
    refine Calls.mono HTK'.out ?_
    rintro e w1 ⟨hgot, hb1⟩
    simp only [ToksGot] at hgot
    obtain ⟨v1, rfl, ho1⟩ := hgot
    have hit := ho1.is (fun t ht => (hto t ht).1.1)
    obtain ⟨ta, tcap, rfl, tc1, tc2, -, tc3⟩ := hit
    have hTl : 0 < T.length := by have := hend.ne; cases T with | nil => exact absurd rfl this | cons _ _ => simp
    obtain ⟨tb, off, rfl, htk⟩ := tc3 hTl
    have htb : tb < w1.heap.size := by
      obtain ⟨t0, ht0⟩ : ∃ t0, T[0]? = some t0 := ⟨_, List.getElem?_eq_getElem hTl⟩
      exact Em.cell_lt (htk 0 t0 ht0).1
    have p2 := z2.below hb1
    have bs1 : Below w.heap.size w w1 := bz.trans (hb1.mono (by simp))
    have hg2 : w.heap.size < w1.heap.size := p2.lt
    have hst : IsSt (w1.alloc (.cells #[.slice (some ⟨tb, off, none⟩) T.length tcap, .int .i64 0, .int .i64 0, .int .i64 0] 46)) w1.heap.size tb (.ok T) :=
      ⟨T, off, tcap, 0, 0, 0, 46, heap_new _ _, by omega, by simp; omega, tc1, tc2, fun j t hj => by
        obtain ⟨m1, m2, m3, m4⟩ := htk j t hj
        exact ⟨by rw [World.cell?_alloc_lt _ _ _ htb]; exact m1, by rw [World.cell?_alloc_lt _ _ _ htb]; exact m2, by rw [World.cell?_alloc_lt _ _ _ htb]; exact m3, by rw [World.cell?_alloc_lt _ _ _ htb]; exact m4⟩, hto, rfl, by simp, hend⟩
    have HST : Hid _ := hst
    have q2 := p2.alloc (.cells #[.slice (some ⟨tb, off, none⟩) T.length tcap, .int .i64 0, .int .i64 0, .int .i64 0] 46)
    have bs2 := bs1.alloc bs1.size (.cells #[.slice (some ⟨tb, off, none⟩) T.length tcap, .int .i64 0, .int .i64 0, .int .i64 0] 46)
    obtain ⟨pb, hpb⟩ : ∃ pb, pb = w1.heap.size := ⟨_, rfl⟩
    rw [← hpb] at HST
    have hpw : w.heap.size < pb := by omega
    have hptb : tb < pb := by omega
    have HPB : Hid (w1.heap.size = pb) := hpb.symm
    clear hst htk tc3 hto hend ho1 hb1 p2 bs1 z2 bz HTK' hpb
    go_wp2_with fail
    rw [HPB.out]
    refine (pexpr_whole _ pb tb (.ok T) HST.out).mono ?_
    rintro e w2 ⟨v2, n2, s2, rfl, d2, h2, b2, F2⟩
    obtain ⟨x0, x1, x2, xm, xp, xa, xl, xc, rfl⟩ := ndb_shape d2
    have hgw2 : pb < w2.heap.size := h2.lt.1
    have r2 := (q2.bes b2 (by omega)).alloc (.cells #[.string x0, .string x1, .string x2, .int .i64 xm, .int .i64 xp, .slice xa xl xc] 24)
    have r9 := Six.made w2 (.string x0) (.string x1) (.string x2) (.int .i64 xm) (.int .i64 xp) (.slice xa xl xc) 24
    have h3 := h2.alloc (.cells #[.string x0, .string x1, .string x2, .int .i64 xm, .int .i64 xp, .slice xa xl xc] 24)
    have bs3 : Below w.heap.size w (w2.alloc (.cells #[.string x0, .string x1, .string x2, .int .i64 xm, .int .i64 xp, .slice xa xl xc] 24)) := (bs2.trans (below_bes b2 (by omega) bs2.size)).alloc (by omega) _
    have d3 : NdB (w.heap.size + 1) _ n2 _ := ndb_below (ndb_mono d2 (by simp; omega)) ((Below.refl _ _).alloc (Nat.le_refl _) (.cells #[.string x0, .string x1, .string x2, .int .i64 xm, .int .i64 xp, .slice xa xl xc] 24))
    have HF2 : Hid (Fits ((lev 40).1 T) n2 s2) := F2
    clear q2 bs2 d2 h2 b2 F2 HST
    go_wp2_with fail
    refine (pnow_any pb tb s2 _ h3).mono ?_
    rintro e w3 ⟨rfl, hb3⟩
    obtain ⟨t, htd⟩ : ∃ t, t = nowS s2 := ⟨_, rfl⟩
    have hpos : t.pos ≤ 140737488351232 := by rw [htd]; exact h3.now.2.2.1
    have HNW : Hid (nowS s2 = t) := htd.symm
    rw [← htd]
    clear htd
    simp only [Em6.tokV]
    have f0 := fld0 t.kind (Em.str t.text) t.num t.pos
    have h4 := h3.below hb3
    have q24 := r2.below hb3
    have q94 := r9.below hb3
    have bs4 : Below w.heap.size w w3 := bs3.trans (hb3.mono bs3.size)
    have d4 := ndb_below d3 hb3
    have hg3 : w2.heap.size < w3.heap.size := q94.lt
    clear h3 r2 r9 bs3 d3 hb3
    -- the end, for an error: what is asked of the world there
    by_cases hk5 : t.kind = 5
    · have hkk : (t.kind == 5) = true := by simpa using hk5
      have hkn : (t.kind != 5) = false := by rw [bne, hkk]; rfl
      cases s2 with
      | error e =>
        obtain ⟨c, a⟩ := e
        have HPT : Hid (parseT T = .error (c, a)) := by
          show parseT T = .error (c, a)
          have := HF2.out
          unfold parseT
          cases hr : (lev 40).1 T with
          | error e => rw [hr] at this; simp only [Fits, Except.error.injEq] at this; rw [this]; rfl
          | ok p => rw [hr] at this; simp [Fits] at this
        clear hk5
        obtain ⟨T9, off9, cap9, i9, c9, p9, k0, k1, k2, k3, hfr, -, -, -, hm, -⟩ := h4.cells
        obtain ⟨m1, m2, m3⟩ := hm
        have hc9 : (c9 == 0) = false := by simpa using m2
        have hc9' : (c9 != 0) = true := by rw [bne, hc9]; rfl
        obtain ⟨a0, a1, a2, a3, a4, a5, j0, j1, j2, j3, j4, j5⟩ := id q24
        obtain ⟨W, hW, sx, hz, hk, -⟩ := q24.set (.string ⟨#[]⟩) (.string ⟨#[]⟩) (.string ⟨#[]⟩) (.int .i64 0) (.int .i64 0) (.slice none 0 0)
        obtain ⟨c0, c1, c2, c3, c4, c5, -⟩ := id sx
        have HB : Hid (Below w.heap.size w W) := by rw [← hW]; exact (((((bs4.setCell (Nat.le_refl _) _).setCell (Nat.le_refl _) _).setCell (Nat.le_refl _) _).setCell (Nat.le_refl _) _).setCell (Nat.le_refl _) _).setCell (Nat.le_refl _) _
        have k2W : W.cell? ⟨pb, 2, none⟩ = some (.int .i64 c9) := by rw [World.cell?_of_block (a := ⟨pb, 2, none⟩) (hk pb (by omega))]; exact k2
        have k3W : W.cell? ⟨pb, 3, none⟩ = some (.int .i64 p9) := by rw [World.cell?_of_block (a := ⟨pb, 3, none⟩) (hk pb (by omega))]; exact k3
        have HM : Hid (c9 = (c : Int) ∧ p9 = (a : Int)) := ⟨m1, m3⟩
        clear m1 m2 m3 hfr h4 hz hk sx q24
        go_wp2_with fail
        go_region
        all_goals
          go_wp2
          refine bodyPost_ret (v := .tuple #[noNd, .int .i64 p9, .int .i64 c9]) (by simp [results, Tryd.results12, go_sem, c0, c1, c2, c3, c4, c5]; rfl) rfl ?_
          exact ⟨by rw [HPT.out, HM.out.1, HM.out.2]; rfl, HB.out.drew⟩
      | ok L2 =>
        cases L2 with
        | nil => exact absurd rfl h4.tok.2.ne
        | cons t' r' =>
          have htt : t' = t := HNW.out
          subst htt
          have HPT : Hid (parseT T = .ok n2) := by
            show parseT T = .ok n2
            have := HF2.out
            unfold parseT
            cases hr : (lev 40).1 T with
            | error e => rw [hr] at this; simp [Fits] at this
            | ok p =>
              obtain ⟨m, M⟩ := p
              rw [hr] at this
              simp only [Fits, Except.ok.injEq] at this
              obtain ⟨rfl, rfl⟩ := this
              simp [bnd, hk5]
          obtain ⟨T9, off9, cap9, i9, c9, p9, k0, k1, k2, k3, hfr, -, -, -, hm, -⟩ := h4.cells
          obtain ⟨m1, -⟩ := hm
          subst m1
          obtain ⟨l0, l1, l2, l3, l4, l5, -⟩ := id q94
          obtain ⟨a0, a1, a2, a3, a4, a5, j0, j1, j2, j3, j4, j5⟩ := id q24
          obtain ⟨W, hW, sx, hz, hk, -⟩ := q24.set (.string x0) (.string x1) (.string x2) (.int .i64 xm) (.int .i64 xp) (.slice xa xl xc)
          obtain ⟨c0, c1, c2, c3, c4, c5, -⟩ := id sx
          have HB : Hid (Below w.heap.size w W) := by rw [← hW]; exact (((((bs4.setCell (Nat.le_refl _) _).setCell (Nat.le_refl _) _).setCell (Nat.le_refl _) _).setCell (Nat.le_refl _) _).setCell (Nat.le_refl _) _).setCell (Nat.le_refl _) _
          have HND : Hid (NdB w.heap.size W n2 (.agg #[.string x0, .string x1, .string x2, .int .i64 xm, .int .i64 xp, .slice xa xl xc])) := ndb_mono (ndb_set d4 (by omega) hz hk) (by omega)
          clear hk5 hfr h4 hz hk sx q24 q94
          go_wp2_with fail
          refine bodyPost_ret (v := .tuple #[.agg #[.string x0, .string x1, .string x2, .int .i64 xm, .int .i64 xp, .slice xa xl xc], .int .i64 s.size, .int .i64 0]) (by simp [results, Tryd.results12, go_sem, c0, c1, c2, c3, c4, c5]) rfl ?_
          exact ⟨by rw [HPT.out]; exact ⟨_, rfl, HND.out⟩, HB.out⟩
    · have hkk : (t.kind == 5) = false := by simpa using hk5
      have hkn : (t.kind != 5) = true := by rw [bne, hkk]; rfl
      obtain ⟨r, rfl⟩ := now_ok HNW.out hk5
      have HPT : Hid (parseT T = .error (2, t.pos)) := by
        show parseT T = .error (2, t.pos)
        have := HF2.out
        unfold parseT
        cases hr : (lev 40).1 T with
        | error e => rw [hr] at this; simp [Fits] at this
        | ok p =>
          obtain ⟨m, M⟩ := p
          rw [hr] at this
          simp only [Fits, Except.ok.injEq] at this
          obtain ⟨rfl, rfl⟩ := this
          simp [bnd, hk5, posL]
      clear hk5
      go_wp2_with fail
      refine (pfail_any pb tb (.ok (t :: r)) _ 2 h4 (by omega) (by omega)).mono ?_
      rintro e w4 ⟨rfl, h5, b5⟩
      have h5 : IsSt w4 pb tb (.error (2, t.pos)) := h5
      have q25 := q24.bes b5 (by omega)
      have bs5 : Below w.heap.size w w4 := bs4.trans (below_bes b5 (by omega) bs4.size)
      clear h4 q24 q94 bs4 d4 b5
      obtain ⟨T9, off9, cap9, i9, c9, p9, k0, k1, k2, k3, hfr, -, -, -, hm, -⟩ := h5.cells
      obtain ⟨m1, m2, m3⟩ := hm
      have hc9 : (c9 == 0) = false := by simpa using m2
      have hc9' : (c9 != 0) = true := by rw [bne, hc9]; rfl
      obtain ⟨a0, a1, a2, a3, a4, a5, j0, j1, j2, j3, j4, j5⟩ := id q25
      obtain ⟨W, hW, sx, hz, hk, -⟩ := q25.set (.string ⟨#[]⟩) (.string ⟨#[]⟩) (.string ⟨#[]⟩) (.int .i64 0) (.int .i64 0) (.slice none 0 0)
      obtain ⟨c0, c1, c2, c3, c4, c5, -⟩ := id sx
      have HB : Hid (Below w.heap.size w W) := by rw [← hW]; exact (((((bs5.setCell (Nat.le_refl _) _).setCell (Nat.le_refl _) _).setCell (Nat.le_refl _) _).setCell (Nat.le_refl _) _).setCell (Nat.le_refl _) _).setCell (Nat.le_refl _) _
      have k2W : W.cell? ⟨pb, 2, none⟩ = some (.int .i64 c9) := by rw [World.cell?_of_block (a := ⟨pb, 2, none⟩) (hk pb (by omega))]; exact k2
      have k3W : W.cell? ⟨pb, 3, none⟩ = some (.int .i64 p9) := by rw [World.cell?_of_block (a := ⟨pb, 3, none⟩) (hk pb (by omega))]; exact k3
      have HM : Hid (c9 = ((2 : Nat) : Int) ∧ p9 = (t.pos : Int)) := ⟨m1, m3⟩
      clear m1 m2 m3 hfr h5 hz hk sx q25
      go_wp2_with fail
      go_region
      all_goals
        go_wp2
        refine bodyPost_ret (v := .tuple #[noNd, .int .i64 p9, .int .i64 c9]) (by simp [results, Tryd.results12, go_sem, c0, c1, c2, c3, c4, c5]; rfl) rfl ?_
        exact ⟨by rw [HPT.out, HM.out.1, HM.out.2]; rfl, HB.out.drew⟩
end Go.Proofs.YtoekhejpompjlaaDoor

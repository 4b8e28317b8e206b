/- A type that is being copied, with holes; what holds while told goes on (package unify). -/
import Derived.Test.YtadhjnbhcenocaaUfE
import Derived.Test.YtadhjnbhcenocaaTyApp
import Derived.Laws.MakeOwn
namespace Go.Proofs.Ytadhjnbhcenocaa
open Go.RowKit Go.Em8 Go.Em9
set_option linter.unusedSimpArgs false
set_option linter.unusedVariables false

abbrev Hole := (Nat × Nat) × Nat
def copV (h : Hole) : Value × Value := (.pointer (some ⟨h.1.1, h.1.2, none⟩), .pointer (some ⟨h.2, 0, none⟩))
mutual
/-- At the place off of the block b there lies the type, but for the holes H: in each of them a term is to be told. -/
def Sit (w : World) (lo : Nat) (rb : Option Nat) (H : List Hole) (T : Nat → Ty) : Ty → Nat → Nat → Prop
  | .mk op n l, b, off => lo ≤ b ∧ b < w.heap.size ∧ some b ≠ rb ∧ off % 3 = 0 ∧
      ((∃ x, ((b, off), x) ∈ H ∧ T x = .mk op n l) ∨
        ((∀ x, ((b, off), x) ∉ H) ∧ Em5.Txt op ∧ Em5.I64 n ∧ w.cell? ⟨b, off, none⟩ = some (.string (Em.str op)) ∧ w.cell? ⟨b, off + 1, none⟩ = some (.int .i64 n) ∧
          ∃ a kc, w.cell? ⟨b, off + 2, none⟩ = some (.slice a l.length kc) ∧ l.length ≤ kc ∧ kc ≤ 9223372036854775807 ∧ (0 < l.length → ∃ kb, a = some ⟨kb, 0, none⟩ ∧ SitAll w lo rb H T l kb 0)))
def SitAll (w : World) (lo : Nat) (rb : Option Nat) (H : List Hole) (T : Nat → Ty) : List Ty → Nat → Nat → Prop
  | [], _, _ => True
  | t :: r, b, off => Sit w lo rb H T t b off ∧ SitAll w lo rb H T r b (off + 3)
end
theorem sitAll_get {w : World} {lo : Nat} {rb : Option Nat} {H : List Hole} {T : Nat → Ty} : ∀ (l : List Ty) (b off j : Nat) (t : Ty), SitAll w lo rb H T l b off → l[j]? = some t → Sit w lo rb H T t b (off + j * 3)
  | [], _, _, _, _, _, h => by simp at h
  | x :: r, b, off, 0, t, hk, h => by
    simp at h; subst h
    unfold SitAll at hk
    simpa using hk.1
  | x :: r, b, off, j + 1, t, hk, h => by
    unfold SitAll at hk
    have := sitAll_get r b (off + 3) j t hk.2 (by simpa using h)
    rw [show off + (j + 1) * 3 = off + 3 + j * 3 by omega]
    exact this
theorem sitAll_mk {w : World} {lo : Nat} {rb : Option Nat} {H : List Hole} {T : Nat → Ty} : ∀ (l : List Ty) (b off : Nat), (∀ j t, l[j]? = some t → Sit w lo rb H T t b (off + j * 3)) → SitAll w lo rb H T l b off
  | [], _, _, _ => by unfold SitAll; trivial
  | x :: r, b, off, h => by
    unfold SitAll
    refine ⟨by simpa using h 0 x rfl, sitAll_mk r b (off + 3) fun j t hj => ?_⟩
    have := h (j + 1) t (by simpa using hj)
    rw [show off + (j + 1) * 3 = off + 3 + j * 3 by omega] at this
    exact this
theorem sit_step {w w' : World} {lo : Nat} {rb rb' : Option Nat} {H H' : List Hole} {T : Nat → Ty} (hs : w.heap.size ≤ w'.heap.size) (hrb : ∀ b, lo ≤ b → b < w.heap.size → some b ≠ rb → some b ≠ rb')
    (hcell : ∀ b off, lo ≤ b → b < w.heap.size → some b ≠ rb → off % 3 = 0 → (∀ x, ((b, off), x) ∉ H) → (∀ x, ((b, off), x) ∉ H') ∧ w'.cell? ⟨b, off, none⟩ = w.cell? ⟨b, off, none⟩ ∧ w'.cell? ⟨b, off + 1, none⟩ = w.cell? ⟨b, off + 1, none⟩ ∧ w'.cell? ⟨b, off + 2, none⟩ = w.cell? ⟨b, off + 2, none⟩)
    (hH : ∀ b off x, ((b, off), x) ∈ H → Sit w' lo rb' H' T (T x) b off) : ∀ t b off, Sit w lo rb H T t b off → Sit w' lo rb' H' T t b off := by
  intro t
  induction t using Ty.ind with
  | h op n l ih =>
    intro b off h
    unfold Sit at h
    obtain ⟨h1, h2, h3, h4, h5 | ⟨h5, h6, h7, h8, h9, a, kc, h10, h11, h12, h13⟩⟩ := h
    · obtain ⟨x, hx, e⟩ := h5
      rw [← e]
      exact hH b off x hx
    · obtain ⟨g1, g2, g3, g4⟩ := hcell b off h1 h2 h3 h4 h5
      unfold Sit
      refine ⟨h1, Nat.lt_of_lt_of_le h2 hs, hrb b h1 h2 h3, h4, .inr ⟨g1, h6, h7, by rw [g2]; exact h8, by rw [g3]; exact h9, a, kc, by rw [g4]; exact h10, h11, h12, fun hp => ?_⟩⟩
      obtain ⟨kb, e, hk⟩ := h13 hp
      exact ⟨kb, e, sitAll_mk l kb 0 fun j t hj => ih t (List.mem_of_getElem? hj) kb _ (sitAll_get l kb 0 j t hk hj)⟩
/-- No hole is left: the type lies there. -/
theorem sit_is {w : World} {lo : Nat} {rb : Option Nat} {T : Nat → Ty} : ∀ t b off, Sit w lo rb [] T t b off → ∃ c0 c1 c2, w.cell? ⟨b, off, none⟩ = some c0 ∧ w.cell? ⟨b, off + 1, none⟩ = some c1 ∧ w.cell? ⟨b, off + 2, none⟩ = some c2 ∧ IsTyP (fun k => lo ≤ k) w t (.agg #[c0, c1, c2]) := by
  intro t
  induction t using Ty.ind with
  | h op n l ih =>
    intro b off h
    unfold Sit at h
    obtain ⟨h1, h2, h3, h4, ⟨x, hx, -⟩ | ⟨h5, h6, h7, h8, h9, a, kc, h10, h11, h12, h13⟩⟩ := h
    · cases hx
    · refine ⟨_, _, _, h8, h9, h10, ?_⟩
      unfold IsTyP
      refine ⟨a, kc, rfl, h6, h7, h11, h12, fun hp => ?_⟩
      obtain ⟨kb, e, hk⟩ := h13 hp
      obtain ⟨t0, ht0⟩ : ∃ t, l[0]? = some t := ⟨_, List.getElem?_eq_getElem hp⟩
      have h0 := sitAll_get l kb 0 0 t0 hk ht0
      have hkb : lo ≤ kb ∧ kb < w.heap.size := by
        cases t0
        unfold Sit at h0
        exact ⟨h0.1, h0.2.1⟩
      exact ⟨kb, 0, e, hkb.2, hkb.1, tysAtP_mk l 0 fun j t hj => ih t (List.mem_of_getElem? hj) kb _ (sitAll_get l kb 0 j t hk hj)⟩

/-- Three cells of a type that is nothing yet. -/
def ZeroAt (w : World) (b off : Nat) : Prop := w.cell? ⟨b, off, none⟩ = some (.string ⟨#[]⟩) ∧ w.cell? ⟨b, off + 1, none⟩ = some (.int .i64 0) ∧ w.cell? ⟨b, off + 2, none⟩ = some (.slice none 0 0) ∧ ∀ o, w.frozen? ⟨b, o, none⟩ = false
/-- What holds while told is about. -/
structure TdI (w wr : World) (F : Fo) (T : Nat → Ty) (R : Nat → Nat) (M x0 tb : Nat) (pv : Value) (H : List Hole) : Prop where
  bel : Below w.heap.size w wr
  sit : Sit wr (w.heap.size + 1) pv.ownBlock H T (T x0) tb 0
  rows : OwnTwo 79 wr (w.heap.size + 1) pv (H.map copV)
  holes : ∀ h ∈ H, w.heap.size + 1 ≤ h.1.1 ∧ h.1.1 < wr.heap.size ∧ h.1.2 % 3 = 0 ∧ h.2 ∈ F.L ∧ ZeroAt wr h.1.1 h.1.2 ∧ some h.1.1 ≠ pv.ownBlock
  nodup : (H.map (·.1)).Nodup
  rank : ∀ i h, H[i]? = some h → i + R h.2 ≤ M
/-- A round's middle: the hole at (b, off) was filled, its kids' row made. -/
structure Mid (wr wx : World) (b off : Nat) (op : List Int) (n : Int) (lx kb : Nat) : Prop where
  kept : Kept (fun k => k = b) wr wx
  lt : wr.heap.size < wx.heap.size
  c0 : wx.cell? ⟨b, off, none⟩ = some (.string (Em.str op))
  c1 : wx.cell? ⟨b, off + 1, none⟩ = some (.int .i64 n)
  c2 : wx.cell? ⟨b, off + 2, none⟩ = some (.slice (if lx = 0 then none else some ⟨kb, 0, none⟩) lx lx)
  cell : ∀ o, o ≠ off → o ≠ off + 1 → o ≠ off + 2 → wx.cell? ⟨b, o, none⟩ = wr.cell? ⟨b, o, none⟩
  fz : ∀ o, wx.frozen? ⟨b, o, none⟩ = wr.frozen? ⟨b, o, none⟩
  new : 0 < lx → wr.heap.size < kb ∧ kb < wx.heap.size ∧ ∀ i, i < lx → ZeroAt wx kb (i * 3)
  box : wx.cell? ⟨wr.heap.size, 0, none⟩ = some (.pointer (some ⟨b, off, none⟩))

def newHoles (kb : Nat) (ks : List Nat) : List Hole := (List.range ks.length).zip ks |>.map fun p => ((kb, p.1 * 3), p.2)
theorem newHoles_get {kb : Nat} {ks : List Nat} {i : Nat} : (newHoles kb ks)[i]? = (ks[i]?).map fun k => ((kb, i * 3), k) := by
  unfold newHoles
  rw [List.getElem?_map]
  by_cases h : i < ks.length
  · rw [List.getElem?_eq_getElem (by simp [h]), List.getElem?_eq_getElem h]
    simp
  · rw [List.getElem?_eq_none (by simp; omega), List.getElem?_eq_none (by omega)]; rfl
theorem newHoles_len (kb : Nat) (ks : List Nat) : (newHoles kb ks).length = ks.length := by simp [newHoles]
theorem newHoles_mem {kb : Nat} {ks : List Nat} {h : Hole} (hm : h ∈ newHoles kb ks) : ∃ i k, ks[i]? = some k ∧ h = ((kb, i * 3), k) := by
  obtain ⟨i, hi⟩ := List.getElem?_of_mem hm
  rw [newHoles_get] at hi
  obtain ⟨k, hk, e⟩ := Option.map_eq_some_iff.1 hi
  exact ⟨i, k, hk, e.symm⟩
theorem newHoles_nodup (kb : Nat) (ks : List Nat) : ((newHoles kb ks).map (·.1)).Nodup := by
  unfold List.Nodup
  rw [List.pairwise_iff_getElem]
  intro i j hi hj hij e
  have e1 : ((newHoles kb ks).map (·.1))[i]? = ((newHoles kb ks).map (·.1))[j]? := by rw [List.getElem?_eq_getElem hi, List.getElem?_eq_getElem hj, e]
  simp only [List.length_map, newHoles_len] at hi hj
  rw [List.getElem?_map, List.getElem?_map, newHoles_get, newHoles_get, List.getElem?_eq_getElem hi, List.getElem?_eq_getElem hj] at e1
  simp only [Option.map_some, Option.some.injEq, Prod.mk.injEq, true_and] at e1
  omega

/-- A round's end. -/
theorem TdI.next {w wr wx w' : World} {F : Fo} {E : Nat → Nat} {T : Nat → Ty} {R : Nat → Nat} {M x0 tb : Nat} {a : Option Addr} {nn c m : Nat} {pv' : Value} {H : List Hole} {b off x kb : Nat} (hF : FoOk F) (hE : EndOk F E) (hT : TOk F E T) (hR : Ranked F E R) (hx : ∀ y ∈ F.L, Em5.Txt (F.ty y).op ∧ Em5.I64 (F.ty y).n)
    (h : TdI w wr F T R M x0 tb (.slice a nn c) (H ++ [((b, off), x)])) (hm : m = H.length) (hM : Mid wr wx b off (F.ty (E x)).op (F.ty (E x)).n (F.ks (E x)).length kb) (hg : Grew wx w' (.slice a m c) pv') (ho : OwnTwo 79 w' (w.heap.size + 1) pv' ((H ++ newHoles kb (F.ks (E x))).map copV)) :
    TdI w w' F T R M x0 tb pv' (H ++ newHoles kb (F.ks (E x))) := by
  have ha : (Value.slice a m c).ownBlock = (Value.slice a nn c).ownBlock := by cases a <;> rfl
  obtain ⟨q1, q2, q3, q4, q5, q6⟩ := h.holes ((b, off), x) (by simp)
  simp only at q1 q2 q3 q4 q5 q6
  have hlen := teach_two hF (hE.mem x q4)
  have rowlt : ∀ k, some k = (Value.slice a nn c).ownBlock → w.heap.size + 1 ≤ k ∧ k < wr.heap.size := fun k hk => h.rows.lt hk
  -- cells of blocks that were, but for the hole and the row
  have far : ∀ k o, k < wr.heap.size → some k ≠ (Value.slice a nn c).ownBlock → (k = b → o ≠ off ∧ o ≠ off + 1 ∧ o ≠ off + 2) → w'.cell? ⟨k, o, none⟩ = wr.cell? ⟨k, o, none⟩ := by
    intro k o hk hn ho'
    have e1 : w'.cell? ⟨k, o, none⟩ = wx.cell? ⟨k, o, none⟩ := World.cell?_of_block (a := ⟨k, o, none⟩) (hg.1.block k (Nat.lt_trans hk hM.lt) (by rw [ha]; exact hn))
    rw [e1]
    by_cases e : k = b
    · subst e
      obtain ⟨o1, o2, o3⟩ := ho' rfl
      exact hM.cell o o1 o2 o3
    · exact hM.kept.cell hk e o
  have ffar : ∀ k o, k < wr.heap.size → some k ≠ (Value.slice a nn c).ownBlock → w'.frozen? ⟨k, o, none⟩ = wr.frozen? ⟨k, o, none⟩ := by
    intro k o hk hn
    have e1 : w'.frozen? ⟨k, o, none⟩ = wx.frozen? ⟨k, o, none⟩ := World.frozen?_of_block (a := ⟨k, o, none⟩) (hg.1.block k (Nat.lt_trans hk hM.lt) (by rw [ha]; exact hn))
    rw [e1]
    by_cases e : k = b
    · subst e; exact hM.fz o
    · exact World.frozen?_of_block (a := ⟨k, o, none⟩) (hM.kept.block k hk e)
  have near : ∀ k o, k < wx.heap.size → some k ≠ (Value.slice a nn c).ownBlock → w'.cell? ⟨k, o, none⟩ = wx.cell? ⟨k, o, none⟩ := fun k o hk hn => World.cell?_of_block (a := ⟨k, o, none⟩) (hg.1.block k hk (by rw [ha]; exact hn))
  have hsz : wr.heap.size ≤ w'.heap.size := Nat.le_trans hM.kept.size hg.1.size
  have kbn : 0 < (F.ks (E x)).length → some kb ≠ (Value.slice a nn c).ownBlock := fun hp e => by have := (rowlt kb e).2; have := (hM.new hp).1; omega
  have pvn : ∀ k, k < wx.heap.size → some k ≠ (Value.slice a nn c).ownBlock → some k ≠ pv'.ownBlock := by
    intro k hk hn
    rcases hg.2 with e | ⟨q, e, hq⟩
    · rw [e, ha]; exact hn
    · rw [e]; intro e2; cases e2; omega
  have hnd := h.nodup
  rw [List.map_append, List.map_cons, List.map_nil, List.nodup_append] at hnd
  have notH : ∀ y, ((b, off), y) ∉ H := fun y hy => hnd.2.2 (b, off) (List.mem_map.2 ⟨_, hy, rfl⟩) (b, off) (by simp) rfl
  have newblk : ∀ h' ∈ newHoles kb (F.ks (E x)), h'.1.1 = kb ∧ wr.heap.size < kb ∧ kb < wx.heap.size ∧ h'.1.2 % 3 = 0 ∧ ZeroAt wx kb h'.1.2 ∧ h'.2 ∈ F.L ∧ some kb ≠ (Value.slice a nn c).ownBlock := by
    intro h' hh
    obtain ⟨i, k, hk, rfl⟩ := newHoles_mem hh
    have hi := (List.getElem?_eq_some_iff.1 hk).1
    obtain ⟨g1, g2, g3⟩ := hM.new (by omega)
    exact ⟨rfl, g1, g2, by simp only; omega, g3 i hi, hF.kid _ (hE.mem x q4) k (List.mem_of_getElem? hk), kbn (by omega)⟩
  have zfar : ∀ b2 o2, b2 < wr.heap.size → some b2 ≠ (Value.slice a nn c).ownBlock → (b2 = b → o2 % 3 = 0 ∧ o2 ≠ off) → ZeroAt wr b2 o2 → ZeroAt w' b2 o2 := by
    intro b2 o2 hb2 hn he hz
    obtain ⟨z0, z1, z2, z3⟩ := hz
    exact ⟨by rw [far b2 o2 hb2 hn (fun e => by have := he e; omega)]; exact z0, by rw [far b2 (o2 + 1) hb2 hn (fun e => by have := he e; omega)]; exact z1, by rw [far b2 (o2 + 2) hb2 hn (fun e => by have := he e; omega)]; exact z2, fun o => by rw [ffar b2 o hb2 hn]; exact z3 o⟩
  have hole_old : ∀ h' ∈ H, w.heap.size + 1 ≤ h'.1.1 ∧ h'.1.1 < w'.heap.size ∧ h'.1.2 % 3 = 0 ∧ h'.2 ∈ F.L ∧ ZeroAt w' h'.1.1 h'.1.2 ∧ some h'.1.1 ≠ pv'.ownBlock := by
    intro h' hh
    obtain ⟨g1, g2, g3, g4, g5, g6⟩ := h.holes h' (List.mem_append.2 (.inl hh))
    refine ⟨g1, Nat.lt_of_lt_of_le g2 hsz, g3, g4, zfar _ _ g2 g6 (fun e => ⟨g3, fun e2 => ?_⟩) g5, pvn _ (Nat.lt_trans g2 hM.lt) g6⟩
    exact notH h'.2 (by rw [← e, ← e2]; exact hh)
  have hole_new : ∀ h' ∈ newHoles kb (F.ks (E x)), w.heap.size + 1 ≤ h'.1.1 ∧ h'.1.1 < w'.heap.size ∧ h'.1.2 % 3 = 0 ∧ h'.2 ∈ F.L ∧ ZeroAt w' h'.1.1 h'.1.2 ∧ some h'.1.1 ≠ pv'.ownBlock := by
    intro h' hh
    obtain ⟨e, g1, g2, g3, ⟨z0, z1, z2, z3⟩, g5, g6⟩ := newblk h' hh
    have hz := h.bel.size
    rw [e]
    refine ⟨by omega, Nat.lt_of_lt_of_le g2 hg.1.size, g3, g5, ⟨by rw [near kb _ g2 g6]; exact z0, by rw [near kb _ g2 g6]; exact z1, by rw [near kb _ g2 g6]; exact z2, fun o => ?_⟩, pvn kb g2 g6⟩
    rw [World.frozen?_of_block (w := wx) (a := ⟨kb, o, none⟩) (hg.1.block kb g2 (by rw [ha]; exact g6))]
    exact z3 o
  have hBK : Below w.heap.size w w' := by
    refine ((h.bel.trans (hM.kept.below h.bel.size (fun k hk e => ?_))).grown hg.1 (Nat.le_trans h.bel.size hM.kept.size) fun k hk => ?_)
    · omega
    · have := (rowlt k (by rw [← ha]; exact hk.symm)).1; omega
  refine ⟨hBK, ?_, ho, fun h' hh => ?_, ?_, ?_⟩
  · refine sit_step (H := H ++ [((b, off), x)]) hsz (fun b2 g1 g2 g3 => pvn b2 (Nat.lt_trans g2 hM.lt) g3) (fun b2 o2 g1 g2 g3 g4 g5 => ⟨fun y hy => ?_, ?_, ?_, ?_⟩) (fun b2 o2 y hy => ?_) _ _ _ h.sit
    · rcases List.mem_append.1 hy with hy | hy
      · exact g5 y (List.mem_append.2 (.inl hy))
      · have := (newblk _ hy).1
        have := (newblk _ hy).2.1
        simp only at *; omega
    · refine far b2 o2 g2 g3 fun e => ?_
      have hne : o2 ≠ off := by rintro rfl; exact g5 x (by rw [e]; simp)
      omega
    · refine far b2 (o2 + 1) g2 g3 fun e => ?_
      have hne : o2 ≠ off := by rintro rfl; exact g5 x (by rw [e]; simp)
      omega
    · refine far b2 (o2 + 2) g2 g3 fun e => ?_
      have hne : o2 ≠ off := by rintro rfl; exact g5 x (by rw [e]; simp)
      omega
    · rcases List.mem_append.1 hy with hy | hy
      · obtain ⟨g1, g2, g3, g4, g5, g6⟩ := hole_old _ hy
        obtain ⟨op, n, l, e⟩ : ∃ op n l, T y = .mk op n l := by cases h : T y; exact ⟨_, _, _, rfl⟩
        rw [e]
        unfold Sit
        exact ⟨g1, g2, g6, g3, .inl ⟨y, List.mem_append.2 (.inl hy), e⟩⟩
      · simp only [List.mem_singleton, Prod.mk.injEq] at hy
        obtain ⟨⟨rfl, rfl⟩, rfl⟩ := hy
        have hTx : T y = .mk (F.ty (E y)).op (F.ty (E y)).n ((F.ks (E y)).map T) := by
          rw [hT y q4]
          by_cases hv : F.var (E y)
          · rw [if_pos hv, (hF.varKids (hE.mem y q4) hv).1]
            have := (hF.varKids (hE.mem y q4) hv).2
            rw [hF.form (hE.mem y q4), (hF.varKids (hE.mem y q4) hv).1]
            rfl
          · rw [if_neg hv]
        obtain ⟨t1, t2⟩ := hx _ (hE.mem y q4)
        rw [hTx]
        unfold Sit
        refine ⟨q1, Nat.lt_of_lt_of_le q2 hsz, pvn b2 (Nat.lt_trans q2 hM.lt) q6, q3, .inr ⟨fun z hz => ?_, t1, t2, by rw [near b2 _ (Nat.lt_trans q2 hM.lt) q6]; exact hM.c0, by rw [near b2 _ (Nat.lt_trans q2 hM.lt) q6]; exact hM.c1, _, (F.ks (E y)).length, by rw [near b2 _ (Nat.lt_trans q2 hM.lt) q6, List.length_map]; exact hM.c2, by simp, by omega, fun hp => ?_⟩⟩
        · rcases List.mem_append.1 hz with hz | hz
          · exact notH z hz
          · have := (newblk _ hz).1
            have := (newblk _ hz).2.1
            simp only at *; omega
        · rw [List.length_map] at hp
          refine ⟨kb, if_neg (by omega), sitAll_mk _ kb 0 fun j t hj => ?_⟩
          rw [List.getElem?_map] at hj
          obtain ⟨k, hk, rfl⟩ := Option.map_eq_some_iff.1 hj
          have hmem : ((kb, j * 3), k) ∈ newHoles kb (F.ks (E y)) := List.mem_of_getElem? (i := j) (by rw [newHoles_get, hk]; rfl)
          obtain ⟨g1, g2, g3, g4, g5, g6⟩ := hole_new _ hmem
          obtain ⟨op, n, l, e⟩ : ∃ op n l, T k = .mk op n l := by cases h : T k; exact ⟨_, _, _, rfl⟩
          rw [e, Nat.zero_add]
          unfold Sit
          exact ⟨g1, g2, g6, g3, .inl ⟨k, List.mem_append.2 (.inr hmem), e⟩⟩
  · rcases List.mem_append.1 hh with hh | hh
    · exact hole_old h' hh
    · exact hole_new h' hh
  · rw [List.map_append, List.nodup_append]
    refine ⟨hnd.1, newHoles_nodup _ _, fun p hp q hq e => ?_⟩
    obtain ⟨h1, hh1, rfl⟩ := List.mem_map.1 hp
    obtain ⟨h2, hh2, rfl⟩ := List.mem_map.1 hq
    have g1 := (h.holes h1 (List.mem_append.2 (.inl hh1))).2.1
    have g2 := newblk h2 hh2
    rw [e, g2.1] at g1
    omega
  · intro i h' hi
    by_cases hl : i < H.length
    · rw [List.getElem?_append_left hl] at hi
      exact h.rank i h' (by rw [List.getElem?_append_left hl]; exact hi)
    · rw [List.getElem?_append_right (by omega), newHoles_get] at hi
      obtain ⟨k, hk, rfl⟩ := Option.map_eq_some_iff.1 hi
      have hr := h.rank H.length ((b, off), x) (by simp)
      have hki := (List.getElem?_eq_some_iff.1 hk).1
      have := (hR x q4).2 k (List.mem_of_getElem? hk)
      simp only at hr ⊢
      omega
end Go.Proofs.Ytadhjnbhcenocaa

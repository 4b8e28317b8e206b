/- What the law's own 'may', 'ints' and 'known' answer. -/
import Derived.Test.YtbiihiibebdjgaaScK
import Derived.Test.YtbiihiibebdjgaaRSchC
import Derived.Test.YtbiihiibebdjgaaRTypE
import Derived.Deep.QuietTactic
import Derived.BigQuiet
namespace Go.Proofs.Ytbiihiibebdjgaa
open Go.RowKit Go.Em8
set_option linter.unusedSimpArgs false
set_option linter.unusedVariables false

/-- Three cells of a block. -/
structure Tri (w : World) (g : Nat) (c0 c1 c2 : Value) : Prop where
  c0 : w.cell? ⟨g, 0, none⟩ = some c0
  c1 : w.cell? ⟨g, 1, none⟩ = some c1
  c2 : w.cell? ⟨g, 2, none⟩ = some c2
theorem Tri.made (w : World) (c0 c1 c2 : Value) (t : TypeId) : Tri (w.alloc (.cells #[c0, c1, c2] t)) w.heap.size c0 c1 c2 := ⟨by simp, by simp, by simp⟩
theorem Tri.below {w w' : World} {g : Nat} {c0 c1 c2 : Value} (h : Tri w g c0 c1 c2) (hb : Below w.heap.size w w') : Tri w' g c0 c1 c2 := by
  have hlt : g < w.heap.size := Em.cell_lt h.c0
  have key : ∀ o, w'.cell? ⟨g, o, none⟩ = w.cell? ⟨g, o, none⟩ := fun o => hb.cell (p := ⟨g, o, none⟩) hlt
  exact ⟨by rw [key]; exact h.c0, by rw [key]; exact h.c1, by rw [key]; exact h.c2⟩

theorem isTy_leaf (w : World) {op : List Int} {n : Int} (ho : Em5.Txt op) (hn : Em5.I64 n) : IsTy w (.mk op n []) (.agg #[.string (Em.str op), .int .i64 n, .slice none 0 0]) := by
  unfold IsTy
  exact ⟨none, 0, rfl, ho, hn, by simp, by simp, by simp⟩
theorem isTys_one {w : World} {x : Ty} {c0 c1 c2 : Value} (hx : IsTy w x (.agg #[c0, c1, c2])) (t : TypeId) : IsTys (w.alloc (.cells #[c0, c1, c2] t)) (.slice (some ⟨w.heap.size, 0, none⟩) 1 1) [x] := by
  have hb : Below w.heap.size w (w.alloc (.cells #[c0, c1, c2] t)) := (Below.refl _ _).alloc (Nat.le_refl _) _
  refine ⟨_, 1, rfl, by simp, by simp, fun _ => ⟨w.heap.size, 0, rfl, by simp, ?_⟩⟩
  unfold TysAt TysAt
  exact ⟨⟨c0, c1, c2, by simp, by simp, by simp, isTy_below hb _ _ hx⟩, trivial⟩
theorem isTys_two {w : World} {x y : Ty} {c0 c1 c2 d0 d1 d2 : Value} (hx : IsTy w x (.agg #[c0, c1, c2])) (hy : IsTy w y (.agg #[d0, d1, d2])) (t : TypeId) : IsTys (w.alloc (.cells #[c0, c1, c2, d0, d1, d2] t)) (.slice (some ⟨w.heap.size, 0, none⟩) 2 2) [x, y] := by
  have hb : Below w.heap.size w (w.alloc (.cells #[c0, c1, c2, d0, d1, d2] t)) := (Below.refl _ _).alloc (Nat.le_refl _) _
  refine ⟨_, 2, rfl, by simp, by simp, fun _ => ⟨w.heap.size, 0, rfl, by simp, ?_⟩⟩
  unfold TysAt TysAt TysAt
  exact ⟨⟨c0, c1, c2, by simp, by simp, by simp, isTy_below hb _ _ hx⟩, ⟨d0, d1, d2, by simp, by simp, by simp, isTy_below hb _ _ hy⟩, trivial⟩

set_option maxRecDepth 100000 in
set_option maxHeartbeats 1000000 in
theorem rtTb_any (b : ByteArray) (a : Option Addr) (n cap : Nat) (w : World) :
    Calls Try.prog 31 #[.string b, .slice a n cap] w fun e w' => e = .returned (.agg #[.string b, .int .i64 0, .slice a n cap]) ∧ Below w.heap.size w w' := by
  go_enter Try.func31, Try.ntmps31
  go_wp2
  refine bodyPost_ret (v := .agg #[.string b, .int .i64 0, .slice a n cap]) (by simp [results, Try.results31, go_sem]) rfl ⟨rfl, (Below.refl _ _).alloc (Nat.le_refl _) _⟩

set_option maxRecDepth 100000 in
set_option maxHeartbeats 2000000 in
/-- Two rows that hold the same numbers. -/
theorem yints_any (L : List Int) (u v : Value) (w : World) (hu : IsInts w u L) (hv : IsInts w v L) :
    Calls Try.prog 13 #[u, v] w fun e w' => e = .returned (.bool true) ∧ Below w.heap.size w w' := by
  have hlen := hu.len
  by_cases hp : 0 < L.length
  · obtain ⟨b, off, cap, rfl, -, -, -, hc⟩ := hu.plain hp
    obtain ⟨b', off', cap', rfl, -, -, -, hc'⟩ := hv.plain hp
    have HC : Hid (∀ j t, L[j]? = some t → w.cell? ⟨b, off + j, none⟩ = some (.int .i64 t)) := hc
    have HC' : Hid (∀ j t, L[j]? = some t → w.cell? ⟨b', off' + j, none⟩ = some (.int .i64 t)) := hc'
    clear hc hc' hu hv
    go_enter Try.func13, Try.ntmps13
    go_wp2
    go_loopw [5] (fun i wr => ∃ k q : Nat, k ≤ L.length ∧ i = .int .i64 k ∧ wr = w.drewN q) (fun i _ => L.length - (intOf i).toNat)
    case atStart => exact ⟨0, 0, Nat.zero_le _, rfl, rfl⟩
    case round =>
      obtain ⟨k, q, hk, rfl, rfl⟩ := hrel
      by_cases hlt : k < L.length
      · obtain ⟨t, ht⟩ : ∃ t, L[k]? = some t := ⟨_, List.getElem?_eq_getElem hlt⟩
        have m0 := HC.out k t ht
        have m1 := HC'.out k t ht
        have hk0 : (0 : Int) ≤ (k : Int) := by omega
        have hkl : (k : Int) < (L.length : Int) := by omega
        have hqq : (t == t) = true := by simp
        have hqn : (t != t) = false := by simp
        clear ht
        go_wp2_with fail
        go_quiet (fail)
        go_wp2
        go_roundw
        case rel => exact ⟨k + 1, _, by omega, by go_num, by first | rfl | (rw [← World.drewN_add])⟩
        case measure => simp [intOf]; omega
      · go_wp2
        go_ret
        exact ⟨rfl, Em.below_drewN (Below.refl _ _) q⟩
  · have hl0 : L = [] := List.length_eq_zero_iff.1 (by omega)
    subst hl0
    obtain ⟨a, cap, rfl⟩ := hu.empty
    obtain ⟨a', cap', rfl⟩ := hv.empty
    clear hu hv
    go_enter Try.func13, Try.ntmps13
    go_wp2
    refine wp_loop_rounds 1 ?_
    rw [rounds_succ]
    go_wp2
    go_ret
    exact ⟨rfl, Below.refl _ _⟩


/-- A bound that 'may' lets by. -/
def MayBd (x : Bd) : Prop := x.ty.size ≤ 2000 ∧ teach x.ty = true ∧ x.vs.length ≤ 20
def MayIs (w : World) (l : List Bd) (e : Ending) (w' : World) : Prop := ∃ b, e = .returned (.bool b) ∧ (b = true → l.length < 20 ∧ ∀ x ∈ l, MayBd x) ∧ Below w.heap.size w w'
theorem MayIs.no {w w' : World} {l : List Bd} (hb : Below w.heap.size w w') : MayIs w l (.returned (.bool false)) w' := ⟨false, rfl, (fun h => by cases h), hb⟩

set_option maxRecDepth 100000 in
set_option maxHeartbeats 2000000 in
theorem ymay_any (l : List Bd) (v : Value) (w : World) (hv : IsBds w v l) :
    Calls Try.prog 6 #[v] w fun e w' => MayIs w l e w' := by
  obtain ⟨pa, pk, pc, rfl⟩ : ∃ pa pk pc, v = .slice pa pk pc := by obtain ⟨pa, pc, e, -⟩ := hv; exact ⟨_, _, _, e⟩
  have hpk : pk = l.length := by obtain ⟨a, cap, e, -⟩ := hv; cases e; rfl
  have hlm : l.length ≤ 9223372036854775807 := by obtain ⟨a, cap, e, h1, h2, -⟩ := hv; omega
  subst hpk
  have HV : Hid (IsBds w (.slice pa l.length pc) l) := hv
  clear hv
  go_enter Try.func6, Try.ntmps6
  go_wp2_with fail
  go_loopw [3, 4] (fun n i wx => ∃ (j m : Nat) (wr : World), wr = wx ∧ j ≤ l.length ∧ j ≤ 20 ∧ n = .int .i64 m ∧ i = .int .i64 j ∧ m ≤ 100 ∧ Hid ((∀ x ∈ l.take j, MayBd x) ∧ Below w.heap.size w wr)) (fun _ i _ => 20 - (intOf i).toNat)
  case atStart => exact ⟨0, 0, _, rfl, Nat.zero_le _, Nat.zero_le _, rfl, rfl, Nat.zero_le _, by simp, Below.refl _ _⟩
  case round =>
    obtain ⟨j, m, wr, rfl, hj, hj2, rfl, rfl, hm, HR⟩ := hrel
    have hj0 : (0 : Int) ≤ (j : Int) := by omega
    by_cases h1 : j < l.length
    · have hjl : (j : Int) < (l.length : Int) := by omega
      by_cases h2 : j < 20
      · obtain ⟨x, hx⟩ : ∃ x, l[j]? = some x := ⟨_, List.getElem?_eq_getElem h1⟩
        obtain ⟨b, off, va, vk, vc, s, n, ka, kl, kc, rfl, -, hc1, hc2, hb, ht, m0, m1, m2, m3, m4, gV, gT⟩ := HV.out.get hx
        have hvk : vk = x.vs.length := by obtain ⟨a', c', e, -⟩ := gV; cases e; rfl
        subst hvk
        have HM : Hid (∀ w', Below wr.heap.size wr w' → w'.cell? ⟨b, off + j * 5 + 1, none⟩ = some (.slice va x.vs.length vc) ∧ w'.cell? ⟨b, off + j * 5 + 2, none⟩ = some (.string s) ∧ w'.cell? ⟨b, off + j * 5 + 3, none⟩ = some (.int .i64 n) ∧ w'.cell? ⟨b, off + j * 5 + 4, none⟩ = some (.slice ka kl kc)) := fun w' hb2 => by
          have hb3 : Below w.heap.size w w' := HR.out.2.trans (hb2.mono HR.out.2.size)
          have key : ∀ o, w'.cell? ⟨b, o, none⟩ = w.cell? ⟨b, o, none⟩ := fun o => hb3.cell (p := ⟨b, o, none⟩) hb
          exact ⟨(key _).trans m1, (key _).trans m2, (key _).trans m3, (key _).trans m4⟩
        have HX : Hid (l[j]? = some x ∧ IsTy wr x.ty (.agg #[.string s, .int .i64 n, .slice ka kl kc])) := ⟨hx, isTy_below HR.out.2 _ _ gT⟩
        have hvl : x.vs.length ≤ 9223372036854775807 := gV.len
        obtain ⟨c1, c2, c3, c4⟩ := HM.out wr (Below.refl _ _)
        have hj20 : (j : Int) < 20 := by omega
        have hll : (l.length : Int) ≤ 9223372036854775807 := by omega
        clear hx gV gT ht m0 m1 m2 m3 m4 hb c1
        go_wp2_with fail
        refine (rtsize_any x.ty _ wr 100 HX.out.2 (by omega) (by omega)).mono ?_
        rintro e w1 ⟨rfl, hb1⟩
        obtain ⟨z, hz⟩ : ∃ z, z = min x.ty.size 100 := ⟨_, rfl⟩
        have hz1 : z ≤ 100 := by omega
        rw [← hz]
        have HB1 : Hid (Below wr.heap.size wr w1 ∧ Below w.heap.size w w1) := ⟨hb1, HR.out.2.trans (hb1.mono HR.out.2.size)⟩
        clear hz hb1 c2 c3 c4
        obtain ⟨c1, c2, c3, c4⟩ := HM.out w1 HB1.out.1
        by_cases hmz : m + z ≤ 100
        · have hmzI : ¬ (100 : Int) < (m : Int) + (z : Int) := by omega
          by_cases hvs : x.vs.length ≤ 20
          · have hvsI : ¬ (20 : Int) < (x.vs.length : Int) := by omega
            go_wp2_with fail
            refine (rtIs_any x.ty _ w1 (isTy_below HB1.out.1 _ _ HX.out.2)).mono ?_
            rintro e w2 ⟨rfl, hb2⟩
            have HB2 : Hid (Below w.heap.size w w2) := HB1.out.2.trans (hb2.mono HB1.out.2.size)
            obtain ⟨q, hq⟩ : ∃ q, q = isTy x.ty := ⟨_, rfl⟩
            rw [← hq]
            have HQ : Hid (q = isTy x.ty) := hq
            clear hb2 hq c1 c2 c3 c4
            cases q with
            | false =>
              go_wp2_with fail
              go_ret
              exact MayIs.no HB2.out
            | true =>
              have HTA : Hid (∀ y ∈ l.take (j + 1), MayBd y) := by
                intro y hy
                rw [List.take_succ_eq_append_getElem h1] at hy
                rcases List.mem_append.1 hy with h | h
                · exact HR.out.1 y h
                · rw [(List.getElem?_eq_some_iff.1 HX.out.1).2] at h
                  simp at h
                  subst h
                  have hq2 : isTy y.ty = true := HQ.out.symm
                  simp only [isTy, Bool.and_eq_true, decide_eq_true_eq] at hq2
                  obtain ⟨h1, h2⟩ := hq2
                  exact ⟨h1, h2, hvs⟩
              go_wp2_with fail
              go_roundw
              case rel => exact ⟨j + 1, m + z, _, rfl, by omega, by omega, by go_num, by go_num, hmz, HTA.out, HB2.out⟩
              case measure => simp [intOf]; omega
          · have hvsI : (20 : Int) < (x.vs.length : Int) := by omega
            go_wp2_with fail
            go_ret
            exact MayIs.no HB1.out.2
        · have hmzI : (100 : Int) < (m : Int) + (z : Int) := by omega
          go_wp2_with fail
          go_ret
          exact MayIs.no HB1.out.2
      · have hj20 : ¬ (j : Int) < 20 := by omega
        have hl20 : ¬ (l.length : Int) < 20 := by omega
        go_wp2_with fail
        go_ret
        first
          | exact MayIs.no HR.out.2
          | exact ⟨_, rfl, (fun h => absurd (of_decide_eq_true h) (by omega)), HR.out.2⟩
    · have hjl : ¬ (j : Int) < (l.length : Int) := by omega
      have hje : j = l.length := by omega
      have HA : Hid (∀ x ∈ l, MayBd x) := by
        have h := HR.out.1
        rw [hje, List.take_length] at h
        exact h
      go_wp2_with fail
      go_ret
      exact ⟨_, rfl, (fun h => ⟨by have := of_decide_eq_true h; omega, HA.out⟩), HR.out.2⟩

theorem BdsOk.of {l : List Bd} (h : l.length < 20 ∧ ∀ x ∈ l, MayBd x) : BdsOk l := ⟨by omega, fun b hb => ⟨(h.2 b hb).1, by have := (h.2 b hb).2.2; omega⟩⟩
def k10T : Ty := .mk tFun 0 [.mk tVar 4 [], .mk tVar 4 []]
theorem k10_vars : genV [] k10T = [4] := by
  have h : ∀ x, x ∉ freeP [] := fun x hx => by obtain ⟨b, hb, -⟩ := (freeP_mem [] x).1 hx; simp at hb
  unfold genV
  rw [List.filter_eq_self.2 fun x _ => decide_eq_true (h x)]
  decide +kernel
theorem k10_size : k10T.size ≤ 1000 := by decide +kernel

set_option maxRecDepth 100000 in
set_option maxHeartbeats 2000000 in
theorem known10_any (w : World) : Calls Try.prog 17 #[] w fun e w' => e = .returned (.bool true) ∧ Below w.heap.size w w' := by
  go_enter Try.func17, Try.ntmps17
  go_wp2_with fail
  refine (rtVar_any 4 _).mono ?_
  rintro e w1 ⟨rfl, b1⟩
  obtain ⟨X1, hX1⟩ : ∃ X, X = w1.alloc (.cells #[.string (Em.str tVar), .int .i64 4, .slice none 0 0] 25) := ⟨_, rfl⟩
  obtain ⟨k0, k1, k2⟩ : Tri X1 w1.heap.size (.string (Em.str tVar)) (.int .i64 4) (.slice none 0 0) := by rw [hX1]; exact Tri.made _ _ _ _ _
  have BX1 : Hid (Below w.heap.size w X1) := by rw [Hid, hX1]; exact b1.alloc b1.size _
  have HX1 : Hid (w1.alloc (.cells #[.string (Em.str tVar), .int .i64 4, .slice none 0 0] 25) = X1) := hX1.symm
  clear b1 hX1
  go_upto_region 2 with fail
  rw [HX1.out]
  clear HX1
  obtain ⟨X2, hX2⟩ : ∃ X, X = X1.alloc (.cells #[.string (Em.str tVar), .int .i64 4, .slice none 0 0, .string (Em.str tVar), .int .i64 4, .slice none 0 0] 25) := ⟨_, rfl⟩
  have D2 : Hid (IsTys X2 (.slice (some ⟨X1.heap.size, 0, none⟩) 2 2) [.mk tVar 4 [], .mk tVar 4 []] ∧ Below w.heap.size w X2) := by
    rw [Hid, hX2]; exact ⟨isTys_two (isTy_leaf X1 (op := tVar) (n := 4) ⟨by decide, by decide⟩ (by unfold Em5.I64; decide)) (isTy_leaf X1 (op := tVar) (n := 4) ⟨by decide, by decide⟩ (by unfold Em5.I64; decide)) _, BX1.out.alloc BX1.out.size _⟩
  have HX2 : Hid (X1.alloc (.cells #[.string (Em.str tVar), .int .i64 4, .slice none 0 0, .string (Em.str tVar), .int .i64 4, .slice none 0 0] 25) = X2) := hX2.symm
  clear hX2
  go_wp2_with fail
  rw [HX2.out]
  clear HX2 k0 k1 k2
  refine (rtTb_any _ (some ⟨X1.heap.size, 0, none⟩) 2 2 _).mono ?_
  rintro e w3 ⟨rfl, b3⟩
  have d3 : IsTy w3 k10T (.agg #[.string ⟨#[102, 117, 110]⟩, .int .i64 0, .slice (some ⟨X1.heap.size, 0, none⟩) 2 2]) := IsTys.mk (D2.out.1.below b3) (op := tFun) ⟨by decide, by decide⟩ (by unfold Em5.I64; decide)
  have D3 : Hid (IsTy w3 k10T (.agg #[.string ⟨#[102, 117, 110]⟩, .int .i64 0, .slice (some ⟨X1.heap.size, 0, none⟩) 2 2]) ∧ Below w.heap.size w w3) := ⟨d3, D2.out.2.trans (b3.mono D2.out.2.size)⟩
  clear b3 d3
  go_wp2_with fail
  refine (sGeneral_any [] (.slice none 0 0) k10T _ w3 (IsBds.nil w3) ⟨by simp, by simp⟩ D3.out.1 k10_size).mono ?_
  rintro e w4 ⟨va, vk, vc, s, n, ka, kl, kc, rfl, o4, i4, -, b4⟩
  have g4 := o4.is i4
  clear o4 i4
  rw [k10_vars] at g4
  obtain ⟨gb, goff, gcap, ge, -, -, -, gc⟩ := g4.plain (by simp)
  cases ge
  have cg := gc 0 4 rfl
  rw [Nat.add_zero] at cg
  obtain ⟨X4, hX4⟩ : ∃ X, X = w4.alloc (.cells #[.slice (some ⟨gb, goff, none⟩) 1 vc, .string s, .int .i64 n, .slice ka kl kc] 31) := ⟨_, rfl⟩
  have b44 : Below w4.heap.size w4 X4 := by rw [hX4]; exact (Below.refl _ _).alloc (Nat.le_refl _) _
  have q0 : X4.cell? ⟨w4.heap.size, 0, none⟩ = some (.slice (some ⟨gb, goff, none⟩) 1 vc) := by rw [hX4]; simp
  have cg4 : X4.cell? ⟨gb, goff, none⟩ = some (.int .i64 4) := (b44.cell (p := ⟨gb, goff, none⟩) (Em.cell_lt cg)).trans cg
  have HB : Hid (Below w.heap.size w X4) := D3.out.2.trans ((b4.trans (b44.mono b4.size)).mono D3.out.2.size)
  have HX4 : Hid (w4.alloc (.cells #[.slice (some ⟨gb, goff, none⟩) 1 vc, .string s, .int .i64 n, .slice ka kl kc] 31) = X4) := hX4.symm
  clear g4 gc cg b4 b44 hX4
  go_upto_region 3 with fail
  first
    | rw [HX4.out]
    | (simp only [List.length_cons, List.length_nil, Nat.zero_add]; rw [HX4.out])
  clear HX4
  go_wp2
  go_ret
  exact ⟨rfl, HB.out⟩
end Go.Proofs.Ytbiihiibebdjgaa
